package geom_test

import (
	"encoding/binary"
	"math"
	"math/rand"
	"strings"
	"testing"

	"keepsake/api"
	"keepsake/geom"
)

// small and great are the least and the greatest shape that may be.
var (
	small = api.Geo{Blocks: 8, Lbas: 1, First: 0}
	great = api.Geo{Blocks: 1024, Lbas: 4096, First: 4294967295}
)

// numbers are some around bound, and those at which an int, or four bytes of it, end.
func numbers(bounds ...int) []int {
	l := []int{math.MinInt64, math.MinInt64 + 1, -1 << 32, -2, -1, 0, 1, 1 << 31, 1<<32 - 1, 1 << 32, math.MaxInt64 - 1, math.MaxInt64}
	for _, n := range bounds {
		l = append(l, n-1, n, n+1, n+1<<32, n-1<<32, -n)
	}
	return l
}

// shapes are of all numbers at the bounds and beyond, by themselves and several at once.
func shapes() []api.Geo {
	var l []api.Geo
	for _, blocks := range numbers(8, 9, 100, 1024) {
		for _, lbas := range numbers(1, 40, 4096) {
			for _, first := range numbers(0, 7, 4294967295) {
				l = append(l, api.Geo{Blocks: blocks, Lbas: lbas, First: first})
			}
		}
	}
	return l
}

// mayBe says by the document's numbers whether a shape may be.
func mayBe(g api.Geo) bool {
	return g.Blocks >= 8 && g.Blocks <= 1024 && g.Lbas >= 1 && g.Lbas <= 4096 && g.First >= 0 && g.First <= 4294967295
}

// wantCheck, wantData, wantPlace, wantRoom and wantPut say, from the chapter's words once more, what the calls must answer.
func wantCheck(g api.Geo) api.Errno {
	if mayBe(g) {
		return api.OK
	}
	return api.ErrArg
}

func wantData(g api.Geo) int {
	if !mayBe(g) {
		return 0
	}
	return g.Blocks - 4
}

// wantPlace goes over the blocks from 4 on, and counts.
func wantPlace(g api.Geo, i int) (int, api.Errno) {
	if mayBe(g) {
		count := 0
		for at := 4; at < g.Blocks; at++ {
			if count == i {
				return at, api.OK
			}
			count++
		}
	}
	return 0, api.ErrRange
}

// wantRoom takes one block after the other, as long as more than one is left.
func wantRoom(g api.Geo, used int) int {
	room := 0
	for used >= 0 && used < wantData(g)-1 {
		used++
		room++
	}
	return room
}

func wantPut(g api.Geo) (string, api.Errno) {
	if !mayBe(g) {
		return "", api.ErrArg
	}
	return laid(g.Blocks, g.Lbas, g.First), api.OK
}

// laid are three numbers in four bytes each, be they a shape's or not.
func laid(l ...int) string {
	var b []byte
	for _, n := range l {
		b = binary.BigEndian.AppendUint32(b, uint32(n))
	}
	return string(b)
}

func wantTake(s string) (api.Geo, api.Errno) {
	if len(s) != 12 {
		return api.Geo{}, api.ErrForm
	}
	number := func(at int) int { return int(binary.BigEndian.Uint32([]byte(s[at:]))) }
	g := api.Geo{Blocks: number(0), Lbas: number(4), First: number(8)}
	if !mayBe(g) {
		return api.Geo{}, api.ErrForm
	}
	return g, api.OK
}

func checkShape(t *testing.T, g api.Geo) {
	t.Helper()
	if e, w := geom.Check(g), wantCheck(g); e != w {
		t.Errorf("Check(%d): %d, asked %d", g, e, w)
	}
	if n, w := geom.Data(g), wantData(g); n != w {
		t.Errorf("Data(%d): %d, asked %d", g, n, w)
	}
	s, e := geom.Put(g)
	if w, f := wantPut(g); s != w || e != f {
		t.Errorf("Put(%d): %x %d, asked %x %d", g, s, e, w, f)
	}
}

func checkPlace(t *testing.T, g api.Geo, i int) {
	t.Helper()
	at, e := geom.Place(g, i)
	if w, f := wantPlace(g, i); at != w || e != f {
		t.Errorf("Place(%d, %d): %d %d, asked %d %d", g, i, at, e, w, f)
	}
}

func checkRoom(t *testing.T, g api.Geo, used int) {
	t.Helper()
	if n, w := geom.Room(g, used), wantRoom(g, used); n != w {
		t.Errorf("Room(%d, %d): %d, asked %d", g, used, n, w)
	}
}

func checkTake(t *testing.T, s string) {
	t.Helper()
	g, e := geom.Take(s)
	if w, f := wantTake(s); g != w || e != f {
		t.Errorf("Take(%x): %d %d, asked %d %d", s, g, e, w, f)
	}
}

// The chapter's example.
func TestExample(t *testing.T) {
	g := api.Geo{Blocks: 8, Lbas: 16, First: 0}
	if n := geom.Data(g); n != 4 {
		t.Errorf("Data: %d, asked 4", n)
	}
	if n := geom.Room(g, 0); n != 3 {
		t.Errorf("Room: %d, asked 3", n)
	}
}

// P9.1: each number on both sides of its bounds, the others as they may be.
func TestCheckByHand(t *testing.T) {
	for _, c := range []struct {
		blocks, lbas, first int
		e                   api.Errno
		data                int
	}{
		{8, 1, 0, api.OK, 4},
		{9, 1, 0, api.OK, 5},
		{100, 50, 7, api.OK, 96},
		{1023, 4096, 1, api.OK, 1019},
		{1024, 4096, 4294967295, api.OK, 1020},
		{8, 4096, 4294967295, api.OK, 4},
		{1024, 1, 0, api.OK, 1020},
		{7, 1, 0, api.ErrArg, 0},
		{4, 1, 0, api.ErrArg, 0},
		{3, 1, 0, api.ErrArg, 0},
		{0, 1, 0, api.ErrArg, 0},
		{-8, 1, 0, api.ErrArg, 0},
		{1025, 1, 0, api.ErrArg, 0},
		{math.MinInt64, 1, 0, api.ErrArg, 0},
		{math.MaxInt64, 1, 0, api.ErrArg, 0},
		{8, 0, 0, api.ErrArg, 0},
		{8, -1, 0, api.ErrArg, 0},
		{8, 4097, 0, api.ErrArg, 0},
		{8, math.MinInt64, 0, api.ErrArg, 0},
		{8, math.MaxInt64, 0, api.ErrArg, 0},
		{8, 1, -1, api.ErrArg, 0},
		{8, 1, 4294967296, api.ErrArg, 0},
		{8, 1, math.MinInt64, api.ErrArg, 0},
		{8, 1, math.MaxInt64, api.ErrArg, 0},
		// several at once
		{7, 0, -1, api.ErrArg, 0},
		{1025, 4097, 4294967296, api.ErrArg, 0},
		{7, 4097, 0, api.ErrArg, 0},
		{1025, 1, -1, api.ErrArg, 0},
		{8, 0, 4294967296, api.ErrArg, 0},
		{math.MinInt64, math.MinInt64, math.MinInt64, api.ErrArg, 0},
		{math.MaxInt64, math.MaxInt64, math.MaxInt64, api.ErrArg, 0},
		{0, 0, 0, api.ErrArg, 0},
		// the numbers of one that may be, in another order
		{1, 8, 0, api.ErrArg, 0},
		{0, 1, 8, api.ErrArg, 0},
		{4096, 1024, 0, api.ErrArg, 0},
	} {
		g := api.Geo{Blocks: c.blocks, Lbas: c.lbas, First: c.first}
		if e := geom.Check(g); e != c.e {
			t.Errorf("Check(%d): %d, asked %d", g, e, c.e)
		}
		if n := geom.Data(g); n != c.data {
			t.Errorf("Data(%d): %d, asked %d", g, n, c.data)
		}
		if s, e := geom.Put(g); e != c.e || e != api.OK && s != "" {
			t.Errorf("Put(%d): %x %d, asked %d", g, s, e, c.e)
		}
	}
}

// P9.1, P9.3: all shapes of the edges.
func TestShapes(t *testing.T) {
	for _, g := range shapes() {
		checkShape(t, g)
		for _, i := range []int{-1, 0, 1, 1 << 40} {
			checkPlace(t, g, i)
		}
		for _, used := range []int{-1, 0, 1, 1 << 40} {
			checkRoom(t, g, used)
		}
	}
}

// P9.1: each number of blocks and of places, and those beyond.
func TestEachNumber(t *testing.T) {
	for n := -20; n < 5000; n++ {
		checkShape(t, api.Geo{Blocks: n, Lbas: 1, First: 0})
		checkShape(t, api.Geo{Blocks: 8, Lbas: n, First: 0})
		checkShape(t, api.Geo{Blocks: 1024, Lbas: 4096, First: n})
	}
}

// P9.1.
func TestPlaceByHand(t *testing.T) {
	ten := api.Geo{Blocks: 10, Lbas: 3, First: 5}
	for _, c := range []struct {
		g     api.Geo
		i, at int
		e     api.Errno
	}{
		{small, 0, 4, api.OK},
		{small, 1, 5, api.OK},
		{small, 3, 7, api.OK},
		{small, 4, 0, api.ErrRange},
		{small, 8, 0, api.ErrRange},
		{small, -1, 0, api.ErrRange},
		{small, -4, 0, api.ErrRange},
		{small, math.MinInt64, 0, api.ErrRange},
		{small, math.MaxInt64, 0, api.ErrRange},
		{small, math.MaxInt64 - 3, 0, api.ErrRange},
		{ten, 5, 9, api.OK},
		{ten, 6, 0, api.ErrRange},
		{great, 0, 4, api.OK},
		{great, 1019, 1023, api.OK},
		{great, 1020, 0, api.ErrRange},
		{great, 1023, 0, api.ErrRange},
		{great, -1, 0, api.ErrRange},
		// shapes that may not be have none
		{api.Geo{}, 0, 0, api.ErrRange},
		{api.Geo{Blocks: 7, Lbas: 1}, 0, 0, api.ErrRange},
		{api.Geo{Blocks: 7, Lbas: 1}, -1, 0, api.ErrRange},
		{api.Geo{Blocks: 1025, Lbas: 1}, 0, 0, api.ErrRange},
		{api.Geo{Blocks: 8}, 0, 0, api.ErrRange},
		{api.Geo{Blocks: 8, Lbas: 4097}, 3, 0, api.ErrRange},
		{api.Geo{Blocks: 8, Lbas: 1, First: -1}, 0, 0, api.ErrRange},
		{api.Geo{Blocks: 8, Lbas: 1, First: 4294967296}, 4, 0, api.ErrRange},
		{api.Geo{Blocks: math.MaxInt64, Lbas: 1}, 1 << 40, 0, api.ErrRange},
		{api.Geo{Blocks: math.MinInt64, Lbas: 1}, math.MaxInt64, 0, api.ErrRange},
	} {
		if at, e := geom.Place(c.g, c.i); at != c.at || e != c.e {
			t.Errorf("Place(%d, %d): %d %d, asked %d %d", c.g, c.i, at, e, c.at, c.e)
		}
	}
}

// P9.1: what epoch is the first one, and how many places there are, moves no block.
func TestPlaceOfBlocksAlone(t *testing.T) {
	for _, lbas := range []int{1, 2, 4095, 4096} {
		for _, first := range []int{0, 1, 4294967294, 4294967295} {
			g := api.Geo{Blocks: 20, Lbas: lbas, First: first}
			for i := -2; i < 20; i++ {
				checkPlace(t, g, i)
				checkRoom(t, g, i)
			}
		}
	}
}

// P9.2.
func TestSuperKey(t *testing.T) {
	for _, c := range []struct{ n, super, key int }{
		{0, 0, 2},
		{1, 1, 3},
		{2, 0, 2},
		{3, 1, 3},
		{4, 0, 2},
		{5, 1, 3},
		{255, 1, 3},
		{256, 0, 2},
		{4294967294, 0, 2},
		{4294967295, 1, 3},
		{4294967296, 0, 2},
		{1<<60 - 1, 1, 3},
		{1 << 60, 0, 2},
		{math.MaxInt64 - 1, 0, 2},
		{math.MaxInt64, 1, 3},
		// below 0 as of 0
		{-1, 0, 2},
		{-2, 0, 2},
		{-3, 0, 2},
		{-255, 0, 2},
		{-4294967295, 0, 2},
		{math.MinInt64 + 1, 0, 2},
		{math.MinInt64, 0, 2},
	} {
		if at := geom.Super(c.n); at != c.super {
			t.Errorf("Super(%d): %d, asked %d", c.n, at, c.super)
		}
		if at := geom.Key(c.n); at != c.key {
			t.Errorf("Key(%d): %d, asked %d", c.n, at, c.key)
		}
	}
}

// P9.2: the next one never stands where the one that holds does.
func TestTurns(t *testing.T) {
	for n := range 1000 {
		if geom.Super(n) == geom.Super(n+1) || geom.Super(n) != geom.Super(n+2) {
			t.Errorf("superblocks from %d on take no turns", n)
		}
		if geom.Key(n) == geom.Key(n+1) || geom.Key(n) != geom.Key(n+2) {
			t.Errorf("keys from %d on take no turns", n)
		}
		if geom.Super(-n) != 0 || geom.Key(-n) != 2 {
			t.Errorf("of %d: %d, %d", -n, geom.Super(-n), geom.Key(-n))
		}
	}
}

// P9.3: what is laid, byte by byte, and taken.
func TestPutByHand(t *testing.T) {
	for _, c := range []struct {
		g api.Geo
		s string
	}{
		{small, "\x00\x00\x00\x08\x00\x00\x00\x01\x00\x00\x00\x00"},
		{great, "\x00\x00\x04\x00\x00\x00\x10\x00\xff\xff\xff\xff"},
		{api.Geo{Blocks: 9, Lbas: 10, First: 11}, "\x00\x00\x00\x09\x00\x00\x00\x0a\x00\x00\x00\x0b"},
		{api.Geo{Blocks: 1023, Lbas: 4095, First: 0x01020304}, "\x00\x00\x03\xff\x00\x00\x0f\xff\x01\x02\x03\x04"},
		{api.Geo{Blocks: 256, Lbas: 257, First: 0x80000000}, "\x00\x00\x01\x00\x00\x00\x01\x01\x80\x00\x00\x00"},
	} {
		if s, e := geom.Put(c.g); s != c.s || e != api.OK {
			t.Errorf("Put(%d): %x %d, asked %x", c.g, s, e, c.s)
		}
		if g, e := geom.Take(c.s); g != c.g || e != api.OK {
			t.Errorf("Take(%x): %d %d, asked %d", c.s, g, e, c.g)
		}
	}
}

// P9.3: bytes that are no shape's.
func TestTakeRefused(t *testing.T) {
	right, _ := wantPut(api.Geo{Blocks: 9, Lbas: 10, First: 11})
	for _, s := range []string{
		"",
		"\x00",
		right[:4],
		right[:8],
		right[:11],
		right[1:],
		right + "\x00",
		"\x00" + right,
		right + right[:4],
		right + right,
		strings.Repeat("\x00", 4096),
		// three numbers, one of them beyond its bounds
		laid(7, 10, 11),
		laid(1025, 10, 11),
		laid(0, 10, 11),
		laid(1<<32-1, 10, 11),
		laid(1<<31+9, 10, 11),
		laid(9, 0, 11),
		laid(9, 4097, 11),
		laid(9, 1<<32-1, 11),
		laid(9, 1<<31+10, 11),
		// more of them
		laid(7, 0, 0),
		laid(1025, 4097, 1<<32-1),
		strings.Repeat("\x00", 12),
		strings.Repeat("\xff", 12),
		// lowest bytes first, and numbers in another order
		"\x09\x00\x00\x00\x0a\x00\x00\x00\x0b\x00\x00\x00",
		laid(0, 1, 8),
		laid(1, 8, 0),
	} {
		if g, e := geom.Take(s); g != (api.Geo{}) || e != api.ErrForm {
			t.Errorf("Take(%.40x): %d %d, asked %d", s, g, e, api.ErrForm)
		}
	}
	// the first epoch alone may be whatever four bytes tell
	for _, first := range []int{0, 1, 1 << 31, 1<<32 - 2, 1<<32 - 1} {
		checkTake(t, laid(9, 10, first))
	}
}

// P9.3: each length up to some, of rows that tell a shape if they are cut.
func TestTakeLengths(t *testing.T) {
	s := strings.Repeat("\x00\x00\x00\x08", 12)
	for n := range len(s) + 1 {
		checkTake(t, s[:n])
	}
}

// P9.6: Take leads back from Put; what was taken, put, is those bytes.
func TestBack(t *testing.T) {
	for _, g := range shapes() {
		if s, e := geom.Put(g); e == api.OK {
			if back, f := geom.Take(s); back != g || f != api.OK {
				t.Errorf("Take(Put(%d)): %d %d", g, back, f)
			}
		}
		checkTake(t, laid(g.Blocks, g.Lbas, g.First))
	}
	r := rand.New(rand.NewSource(9))
	for range 20000 {
		s := laid(r.Intn(1030), r.Intn(4100), int(r.Uint32()))
		checkTake(t, s)
		if g, e := geom.Take(s); e == api.OK {
			if again, f := geom.Put(g); again != s || f != api.OK {
				t.Errorf("Put(Take(%x)): %x %d", s, again, f)
			}
		}
	}
}

// P9.4.
func TestRoomByHand(t *testing.T) {
	for _, c := range []struct {
		g          api.Geo
		used, room int
	}{
		{small, 0, 3},
		{small, 1, 2},
		{small, 2, 1},
		{small, 3, 0},
		{small, 4, 0},
		{small, 5, 0},
		{small, 8, 0},
		{small, 1000000, 0},
		{small, math.MaxInt64 - 1, 0},
		{small, math.MaxInt64, 0},
		{small, -1, 0},
		{small, -2, 0},
		{small, math.MinInt64, 0},
		{small, math.MinInt64 + 4, 0},
		{great, 0, 1019},
		{great, 1, 1018},
		{great, 1018, 1},
		{great, 1019, 0},
		{great, 1020, 0},
		{great, 1024, 0},
		{great, math.MaxInt64, 0},
		{great, -1, 0},
		{api.Geo{Blocks: 10, Lbas: 3, First: 5}, 2, 3},
		// shapes that may not be
		{api.Geo{}, 0, 0},
		{api.Geo{Blocks: 7, Lbas: 1}, 0, 0},
		{api.Geo{Blocks: 1025, Lbas: 1}, 0, 0},
		{api.Geo{Blocks: 1025, Lbas: 1}, 1, 0},
		{api.Geo{Blocks: 8}, 0, 0},
		{api.Geo{Blocks: 8, Lbas: 4097}, 0, 0},
		{api.Geo{Blocks: 8, Lbas: 1, First: -1}, 0, 0},
		{api.Geo{Blocks: 8, Lbas: 1, First: 4294967296}, 0, 0},
		{api.Geo{Blocks: 7, Lbas: 1}, -1, 0},
		{api.Geo{Blocks: math.MaxInt64, Lbas: 1}, 0, 0},
		{api.Geo{Blocks: math.MinInt64, Lbas: 1}, math.MaxInt64, 0},
		{api.Geo{Blocks: math.MinInt64, Lbas: 1}, 0, 0},
	} {
		if n := geom.Room(c.g, c.used); n != c.room {
			t.Errorf("Room(%d, %d): %d, asked %d", c.g, c.used, n, c.room)
		}
	}
}

// P9.1, P9.4: of each disk, from one end to the other and beyond.
func TestEachDisk(t *testing.T) {
	for blocks := 6; blocks <= 1026; blocks++ {
		g := api.Geo{Blocks: blocks, Lbas: 4096, First: 4294967295}
		for _, n := range []int{-1, 0, 1, 2, blocks / 2, blocks - 7, blocks - 6, blocks - 5, blocks - 4, blocks - 3, blocks, blocks + 1, math.MaxInt64} {
			checkPlace(t, g, n)
			checkRoom(t, g, n)
		}
	}
}

// P9.4: each block that is taken leaves one less, and the one that is kept is there up to the end.
func TestRoomLess(t *testing.T) {
	for _, blocks := range []int{8, 9, 57, 1023, 1024} {
		g := api.Geo{Blocks: blocks, Lbas: 1}
		used := 0
		for geom.Room(g, used) > 0 {
			if geom.Room(g, used+1) != geom.Room(g, used)-1 {
				t.Fatalf("of %d blocks, %d used: %d, then %d", blocks, used, geom.Room(g, used), geom.Room(g, used+1))
			}
			used++
		}
		if _, e := geom.Place(g, used); e != api.OK || used != geom.Data(g)-1 {
			t.Errorf("of %d blocks no room is left at %d: %d", blocks, used, e)
		}
	}
}

// P9.5: superblocks, keys and the data's blocks have all of the disk's places, none twice.
func TestApart(t *testing.T) {
	for blocks := 8; blocks <= 1024; blocks++ {
		g := api.Geo{Blocks: blocks, Lbas: 7, First: 3}
		has := make([]int, blocks)
		take := func(at int) {
			if at < 0 || at >= blocks {
				t.Fatalf("of %d blocks: %d", blocks, at)
			}
			has[at]++
		}
		for n := range 2 {
			take(geom.Super(n))
			take(geom.Key(n))
		}
		for i := range geom.Data(g) {
			at, e := geom.Place(g, i)
			if e != api.OK {
				t.Fatalf("of %d blocks: the data's %d: %d", blocks, i, e)
			}
			take(at)
		}
		for at, n := range has {
			if n != 1 {
				t.Errorf("of %d blocks: place %d is for %d things", blocks, at, n)
			}
		}
	}
}

// P1, P2: what a call answers hangs on its arguments alone, whatever was asked ahead of it.
func TestAgain(t *testing.T) {
	for range 3 {
		for _, g := range []api.Geo{small, {}, great, {Blocks: 7, Lbas: 1}, {Blocks: 1024, Lbas: 4096, First: 1 << 32}, {Blocks: 10, Lbas: 3, First: 5}} {
			was := g
			checkShape(t, g)
			checkPlace(t, g, 3)
			checkPlace(t, g, -1)
			checkRoom(t, g, 2)
			checkRoom(t, g, -2)
			checkTake(t, laid(g.Blocks, g.Lbas, g.First))
			checkTake(t, "")
			if g != was {
				t.Errorf("%d has become %d", was, g)
			}
		}
	}
}

// No call panics, and all answers are as the chapter's words say, at whatever numbers and bytes.
func FuzzCalls(f *testing.F) {
	for _, n := range []int{math.MinInt64, -1, 0, 1, 8, 1024, 1025, 4096, 4097, 1<<32 - 1, 1 << 32, math.MaxInt64} {
		f.Add(8, 1, 0, n, laid(8, 1, n))
		f.Add(n, 1, 0, 3, laid(n, 1, 0))
		f.Add(8, n, 0, 4, laid(8, n, 0))
		f.Add(1024, 4096, n, 1019, laid(1024, 4096, n))
		f.Add(n, n, n, n, "")
	}
	f.Fuzz(func(t *testing.T, blocks, lbas, first, n int, s string) {
		checkAll(t, api.Geo{Blocks: blocks, Lbas: lbas, First: first}, n, s)
		// most shapes may not be: the same ones, brought to what may be, or just beyond
		blocks, lbas, first = blocks&1023+4, lbas&4095+1, first&(1<<32-1)
		checkAll(t, api.Geo{Blocks: blocks, Lbas: lbas, First: first}, n, laid(blocks, lbas, first)+s)
		checkAll(t, api.Geo{Blocks: blocks, Lbas: lbas, First: first}, n&1023, laid(blocks, lbas, first))
	})
}

func checkAll(t *testing.T, g api.Geo, n int, s string) {
	t.Helper()
	checkShape(t, g)
	checkPlace(t, g, n)
	checkRoom(t, g, n)
	checkTake(t, s)
	want := 0
	if n > 0 && n%2 == 1 {
		want = 1
	}
	if super, key := geom.Super(n), geom.Key(n); super != want || key != want+2 {
		t.Errorf("of %d: superblock %d, key %d", n, super, key)
	}
}
