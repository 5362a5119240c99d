package super_test

import (
	"crypto/sha256"
	"encoding/binary"
	"math"
	"math/rand"
	"strings"
	"testing"

	"keepsake/api"
	"keepsake/geom"
	"keepsake/super"
)

const (
	// lastGen, lastEpoch and lastClock are the document's 2^60, 2^32 - 1 and 2^40.
	lastGen   = 1152921504606846976
	lastEpoch = 4294967295
	lastClock = 1099511627776
)

// tiny, wide, low and high are shapes that may be; low has its first epoch within, high has but one epoch.
var (
	tiny = api.Geo{Blocks: 8, Lbas: 1, First: 0}
	wide = api.Geo{Blocks: 1024, Lbas: 4096, First: 0}
	low  = api.Geo{Blocks: 10, Lbas: 50, First: 7}
	high = api.Geo{Blocks: 1024, Lbas: 4096, First: lastEpoch}
)

// small, mid and great are the least superblock that may be, one within all bounds, and the greatest one.
var (
	small = api.Super{Gen: 1, Geo: tiny}
	mid   = api.Super{Gen: 9, Tail: 3, Epoch: 12, Clock: 500, Geo: low}
	great = api.Super{Gen: lastGen, Tail: 1020, Epoch: lastEpoch, Clock: lastClock, Geo: high}
)

func noughts() string { return strings.Repeat("\x00", 4096) }

// numbers are some around bound, and those at which an int, or four bytes of it, end.
func numbers(bounds ...int) []int {
	l := []int{math.MinInt64, -1 << 32, -1, 0, 1, 1 << 32, math.MaxInt64}
	for _, n := range bounds {
		l = append(l, n-1, n, n+1)
	}
	return l
}

// shapes are of both bounds of each number, and beyond them.
func shapes() []api.Geo {
	return []api.Geo{
		tiny, wide, low, high,
		{},
		{Blocks: 7, Lbas: 1},
		{Blocks: 1025, Lbas: 1},
		{Blocks: 8},
		{Blocks: 8, Lbas: 4097},
		{Blocks: 8, Lbas: 1, First: -1},
		{Blocks: 8, Lbas: 1, First: lastEpoch + 1},
		{Blocks: 7, Lbas: 4097, First: -1},
		{Blocks: math.MinInt64, Lbas: 1},
		{Blocks: math.MaxInt64, Lbas: math.MaxInt64, First: math.MaxInt64},
	}
}

// all are superblocks of all numbers at their bounds and beyond, by themselves and several at once.
func all(yield func(api.Super) bool) {
	for _, g := range shapes() {
		for _, gen := range numbers(1, 2, lastGen) {
			for _, tail := range numbers(g.Blocks-4, 3, 4) {
				for _, epoch := range numbers(g.First, 9, lastEpoch) {
					for _, clock := range numbers(0, 70, lastClock) {
						if !yield(api.Super{Gen: gen, Tail: tail, Epoch: epoch, Clock: clock, Geo: g}) {
							return
						}
					}
				}
			}
		}
	}
}

// mayBe says by the document's numbers whether a superblock may be.
func mayBe(s api.Super) bool {
	g := s.Geo
	return g.Blocks >= 8 && g.Blocks <= 1024 && g.Lbas >= 1 && g.Lbas <= 4096 && g.First >= 0 && g.First <= lastEpoch &&
		s.Gen >= 1 && s.Gen <= lastGen && s.Tail >= 0 && s.Tail <= g.Blocks-4 &&
		s.Epoch >= g.First && s.Epoch <= lastEpoch && s.Clock >= 0 && s.Clock <= lastClock
}

// told are the numbers of a superblock in their widths behind some letters, be it one that may be or not.
func told(letters string, s api.Super) string {
	b := binary.BigEndian.AppendUint64([]byte(letters), uint64(s.Gen))
	b = binary.BigEndian.AppendUint32(b, uint32(s.Tail))
	b = binary.BigEndian.AppendUint32(b, uint32(s.Epoch))
	b = binary.BigEndian.AppendUint64(b, uint64(s.Clock))
	b = binary.BigEndian.AppendUint32(b, uint32(s.Geo.Blocks))
	b = binary.BigEndian.AppendUint32(b, uint32(s.Geo.Lbas))
	return string(binary.BigEndian.AppendUint32(b, uint32(s.Geo.First)))
}

// sealed is a block of what is told, the sum of it, and noughts.
func sealed(s string) string {
	sum := sha256.Sum256([]byte(s))
	s += string(sum[:])
	return s + strings.Repeat("\x00", 4096-len(s))
}

// laid is a block with a right sum, of a superblock that may be or not.
func laid(s api.Super) string { return sealed(told("keepsake1", s)) }

// turned has the bits of by turned in one of its bytes.
func turned(s string, at int, by byte) string {
	b := []byte(s)
	b[at] ^= by
	return string(b)
}

// wantCheck, wantPut, wantTake, wantChoose and wantNext say, from the chapter's words once more, what the calls must answer.
func wantCheck(s api.Super) api.Errno {
	if mayBe(s) {
		return api.OK
	}
	return api.ErrArg
}

func wantPut(s api.Super) (string, api.Errno) {
	if !mayBe(s) {
		return "", api.ErrArg
	}
	return laid(s), api.OK
}

// wantTake looks at one part of the block after the other, from the front.
func wantTake(block string) (api.Super, api.Errno) {
	if len(block) != 4096 || !strings.HasPrefix(block, "keepsake1") {
		return api.Super{}, api.ErrForm
	}
	if sum := sha256.Sum256([]byte(block[:45])); block[45:77] != string(sum[:]) {
		return api.Super{}, api.ErrForm
	}
	if strings.Trim(block[77:], "\x00") != "" {
		return api.Super{}, api.ErrForm
	}
	four := func(at int) int { return int(binary.BigEndian.Uint32([]byte(block[at:]))) }
	// a number beyond an int's is one below 0 here, and may not be either
	eight := func(at int) int { return int(binary.BigEndian.Uint64([]byte(block[at:]))) }
	s := api.Super{Gen: eight(9), Tail: four(17), Epoch: four(21), Clock: eight(25), Geo: api.Geo{Blocks: four(33), Lbas: four(37), First: four(41)}}
	if !mayBe(s) {
		return api.Super{}, api.ErrForm
	}
	return s, api.OK
}

// wantChoose goes over the places from the last one to the first, so that of two with one Gen that of the place 0 is found last.
func wantChoose(a, b string) (api.Super, int, api.Errno) {
	best, at, e := api.Super{}, 0, api.ErrNone
	for _, i := range []int{1, 0} {
		if s, f := wantTake([]string{a, b}[i]); f == api.OK && s.Gen >= best.Gen {
			best, at, e = s, i, api.OK
		}
	}
	return best, at, e
}

func wantNext(s api.Super) (api.Super, api.Errno) {
	if !mayBe(s) {
		return api.Super{}, api.ErrArg
	}
	if s.Gen == lastGen {
		return api.Super{}, api.ErrLimit
	}
	return api.Super{Gen: s.Gen + 1, Tail: s.Tail, Epoch: s.Epoch, Clock: s.Clock, Geo: s.Geo}, api.OK
}

func checkCheck(t *testing.T, s api.Super) {
	t.Helper()
	if e, w := super.Check(s), wantCheck(s); e != w {
		t.Errorf("Check(%d): %d, asked %d", s, e, w)
	}
}

func checkPut(t *testing.T, s api.Super) {
	t.Helper()
	block, e := super.Put(s)
	if w, f := wantPut(s); block != w || e != f {
		t.Errorf("Put(%d): %d bytes %.80x %d, asked %.80x %d", s, len(block), block, e, w, f)
	}
}

func checkTake(t *testing.T, block string) {
	t.Helper()
	s, e := super.Take(block)
	if w, f := wantTake(block); s != w || e != f {
		t.Errorf("Take(%d bytes %.80x): %d %d, asked %d %d", len(block), block, s, e, w, f)
	}
}

func checkChoose(t *testing.T, a, b string) {
	t.Helper()
	s, at, e := super.Choose(a, b)
	if w, i, f := wantChoose(a, b); s != w || at != i || e != f {
		t.Errorf("Choose(%.80x, %.80x): %d %d %d, asked %d %d %d", a, b, s, at, e, w, i, f)
	}
}

func checkNext(t *testing.T, s api.Super) {
	t.Helper()
	next, e := super.Next(s)
	if w, f := wantNext(s); next != w || e != f {
		t.Errorf("Next(%d): %d %d, asked %d %d", s, next, e, w, f)
	}
}

// refused tells if a block is taken as a superblock's.
func refused(t *testing.T, what, block string) {
	t.Helper()
	if s, e := super.Take(block); s != (api.Super{}) || e != api.ErrForm {
		t.Errorf("Take of %s: %d %d, asked %d", what, s, e, api.ErrForm)
	}
}

// The chapter's example.
func TestExample(t *testing.T) {
	one := api.Super{Gen: 1, Tail: 2, Epoch: 3, Clock: 4, Geo: tiny}
	block, e := super.Put(one)
	if e != api.OK {
		t.Fatal(e)
	}
	if s, at, e := super.Choose(noughts(), block); s != one || at != 1 || e != api.OK {
		t.Errorf("%d %d %d", s, at, e)
	}
}

// P10.1: each number on both sides of its bounds, the others as they may be.
func TestCheckByHand(t *testing.T) {
	none := api.Geo{}
	for _, c := range []struct {
		gen, tail, epoch, clock int
		g                       api.Geo
		e                       api.Errno
	}{
		{1, 0, 0, 0, tiny, api.OK},
		{2, 1, 1, 1, tiny, api.OK},
		{lastGen, 4, lastEpoch, lastClock, tiny, api.OK},
		{lastGen - 1, 3, lastEpoch - 1, lastClock - 1, tiny, api.OK},
		{lastGen, 1020, lastEpoch, lastClock, high, api.OK},
		{1, 6, 7, 0, low, api.OK},
		{1, 0, 0, lastClock, wide, api.OK},
		// Gen
		{0, 0, 0, 0, tiny, api.ErrArg},
		{-1, 0, 0, 0, tiny, api.ErrArg},
		{lastGen + 1, 0, 0, 0, tiny, api.ErrArg},
		{math.MinInt64, 0, 0, 0, tiny, api.ErrArg},
		{math.MaxInt64, 0, 0, 0, tiny, api.ErrArg},
		// Tail
		{1, -1, 0, 0, tiny, api.ErrArg},
		{1, 5, 0, 0, tiny, api.ErrArg},
		{1, 8, 0, 0, tiny, api.ErrArg},
		{1, 7, 7, 0, low, api.ErrArg},
		{1, 1021, 0, 0, wide, api.ErrArg},
		{1, 1024, 0, 0, wide, api.ErrArg},
		{1, math.MinInt64, 0, 0, tiny, api.ErrArg},
		{1, math.MaxInt64, 0, 0, tiny, api.ErrArg},
		// Epoch
		{1, 0, -1, 0, tiny, api.ErrArg},
		{1, 0, lastEpoch + 1, 0, tiny, api.ErrArg},
		{1, 0, 6, 0, low, api.ErrArg},
		{1, 0, 0, 0, low, api.ErrArg},
		{1, 0, lastEpoch - 1, 0, high, api.ErrArg},
		{1, 0, lastEpoch + 1, 0, high, api.ErrArg},
		{1, 0, math.MinInt64, 0, tiny, api.ErrArg},
		{1, 0, math.MaxInt64, 0, tiny, api.ErrArg},
		// Clock
		{1, 0, 0, -1, tiny, api.ErrArg},
		{1, 0, 0, lastClock + 1, tiny, api.ErrArg},
		{1, 0, 0, math.MinInt64, tiny, api.ErrArg},
		{1, 0, 0, math.MaxInt64, tiny, api.ErrArg},
		// Geo
		{1, 0, 0, 0, none, api.ErrArg},
		{1, 0, 0, 0, api.Geo{Blocks: 7, Lbas: 1}, api.ErrArg},
		{1, 0, 0, 0, api.Geo{Blocks: 1025, Lbas: 1}, api.ErrArg},
		{1, 0, 0, 0, api.Geo{Blocks: 8, Lbas: 0}, api.ErrArg},
		{1, 0, 0, 0, api.Geo{Blocks: 8, Lbas: 4097}, api.ErrArg},
		{1, 0, 0, 0, api.Geo{Blocks: 8, Lbas: 1, First: -1}, api.ErrArg},
		{1, 0, lastEpoch, 0, api.Geo{Blocks: 8, Lbas: 1, First: lastEpoch + 1}, api.ErrArg},
		{1, 0, lastEpoch + 1, 0, api.Geo{Blocks: 8, Lbas: 1, First: lastEpoch + 1}, api.ErrArg},
		{1, 0, 0, 0, api.Geo{Blocks: math.MaxInt64, Lbas: 1}, api.ErrArg},
		{1, 0, 0, 0, api.Geo{Blocks: math.MinInt64, Lbas: 1}, api.ErrArg},
		// several at once
		{0, -1, -1, -1, none, api.ErrArg},
		{0, -1, 0, 0, tiny, api.ErrArg},
		{lastGen + 1, 5, lastEpoch + 1, lastClock + 1, tiny, api.ErrArg},
		{0, 5, 0, lastClock + 1, tiny, api.ErrArg},
		{1, 5, -1, 0, tiny, api.ErrArg},
		{math.MinInt64, math.MinInt64, math.MinInt64, math.MinInt64, api.Geo{Blocks: math.MinInt64, Lbas: math.MinInt64, First: math.MinInt64}, api.ErrArg},
		{math.MaxInt64, math.MaxInt64, math.MaxInt64, math.MaxInt64, api.Geo{Blocks: math.MaxInt64, Lbas: math.MaxInt64, First: math.MaxInt64}, api.ErrArg},
		{0, 0, 0, 0, none, api.ErrArg},
	} {
		s := api.Super{Gen: c.gen, Tail: c.tail, Epoch: c.epoch, Clock: c.clock, Geo: c.g}
		if e := super.Check(s); e != c.e {
			t.Errorf("Check(%d): %d, asked %d", s, e, c.e)
		}
		if block, e := super.Put(s); e != c.e || e != api.OK && block != "" {
			t.Errorf("Put(%d): %d bytes, %d, asked %d", s, len(block), e, c.e)
		}
	}
}

// P10.1, P10.3, P10.4: all superblocks of the edges; of those that may be Take leads back from Put.
func TestEdges(t *testing.T) {
	count := 0
	for s := range all {
		checkCheck(t, s)
		checkNext(t, s)
		if !mayBe(s) {
			if block, e := super.Put(s); block != "" || e != api.ErrArg {
				t.Errorf("Put(%d): %.80x %d", s, block, e)
			}
			continue
		}
		count++
		checkPut(t, s)
		if back, e := super.Take(laid(s)); back != s || e != api.OK {
			t.Errorf("Take of %d: %d %d", s, back, e)
		}
	}
	if count < 1000 {
		t.Errorf("%d of the superblocks may be", count)
	}
}

// P10.1: as many as there are blocks for data, of each disk.
func TestEachTail(t *testing.T) {
	for blocks := 6; blocks <= 1026; blocks++ {
		for _, tail := range []int{-1, 0, blocks / 2, blocks - 5, blocks - 4, blocks - 3, blocks, blocks + 4} {
			checkCheck(t, api.Super{Gen: 1, Tail: tail, Geo: api.Geo{Blocks: blocks, Lbas: 1}})
		}
	}
}

// P10.1: what is laid, byte by byte, with sums that were worked out by another program.
func TestPutByHand(t *testing.T) {
	for _, c := range []struct {
		s         api.Super
		told, sum string
	}{
		{
			small,
			"keepsake1\x00\x00\x00\x00\x00\x00\x00\x01\x00\x00\x00\x00\x00\x00\x00\x00\x00\x00\x00\x00\x00\x00\x00\x00\x00\x00\x00\x08\x00\x00\x00\x01\x00\x00\x00\x00",
			"\x8f\xaf\x26\xf4\x41\x6d\x73\x71\x4a\x20\x75\xca\x3e\x4e\xf7\xff\x37\x5a\x1a\x29\x5c\x62\x0b\xf6\x0c\x27\xf4\xfc\xea\x1e\x77\x1d",
		},
		{
			great,
			"keepsake1\x10\x00\x00\x00\x00\x00\x00\x00\x00\x00\x03\xfc\xff\xff\xff\xff\x00\x00\x01\x00\x00\x00\x00\x00\x00\x00\x04\x00\x00\x00\x10\x00\xff\xff\xff\xff",
			"\x5b\x6e\xd2\xb2\xc0\x3a\x4d\xbb\x50\xf8\x16\x5f\x75\x88\x5d\xe7\x9c\x18\x1f\x1b\x4a\x24\xf3\x78\x34\xc3\x82\xda\xba\x3c\x38\x52",
		},
		{
			api.Super{Gen: 0x0102030405060708, Tail: 0x0203, Epoch: 0x0a0b0c0d, Clock: 0x1112131415, Geo: api.Geo{Blocks: 0x0304, Lbas: 0x0506, First: 0x0708090a}},
			"keepsake1\x01\x02\x03\x04\x05\x06\x07\x08\x00\x00\x02\x03\x0a\x0b\x0c\x0d\x00\x00\x00\x11\x12\x13\x14\x15\x00\x00\x03\x04\x00\x00\x05\x06\x07\x08\x09\x0a",
			"\x23\xf6\xe6\xd4\xd3\x34\x28\x66\x07\x19\x3e\xa7\x23\xed\x49\x11\x55\x7f\xd9\x10\x80\x7f\x1b\x65\xb3\x95\x9c\x71\x12\xe5\x1d\x09",
		},
	} {
		want := c.told + c.sum + strings.Repeat("\x00", 4019)
		if len(want) != 4096 {
			t.Fatal(len(want))
		}
		if block, e := super.Put(c.s); block != want || e != api.OK {
			t.Errorf("Put(%d): %d bytes %.80x %d", c.s, len(block), block, e)
		}
		if s, e := super.Take(want); s != c.s || e != api.OK {
			t.Errorf("Take(%.80x): %d %d, asked %d", want, s, e, c.s)
		}
	}
}

// P10.1: texts with too few and too many bytes.
func TestTakeLengths(t *testing.T) {
	for _, s := range []api.Super{small, mid, great} {
		right := laid(s)
		for n := range len(right) {
			refused(t, "a block that is cut", right[:n])
		}
		for _, n := range []int{1, 2, 45, 77, 4018, 4095} {
			refused(t, "a block without its front", right[n:])
		}
		for _, more := range []string{"\x00", "\x01", noughts(), right, right[:77], strings.Repeat("\x00", 1<<20)} {
			refused(t, "a block with more behind it", right+more)
			refused(t, "a block with more ahead of it", more+right)
		}
	}
	for _, s := range []string{"", "\x00", "keepsake1", "k", strings.Repeat("\x00", 4095), noughts(), strings.Repeat("\x00", 4097), strings.Repeat("\xff", 4096), strings.Repeat("keepsake1", 456)[:4096]} {
		refused(t, "what is none's", s)
	}
}

// P10.1, P10.4: any one of the bytes turned: the letters, each number, the sum, the noughts.
func TestTakeTurned(t *testing.T) {
	for _, s := range []api.Super{small, mid, great} {
		right := laid(s)
		for at := range len(right) {
			for _, by := range []byte{0x01, 0x20, 0x80, 0xff} {
				refused(t, "a block with a byte turned", turned(right, at, by))
			}
		}
		for at := range 80 {
			for by := 1; by < 256; by++ {
				refused(t, "a block with a byte turned", turned(right, at, byte(by)))
			}
		}
		// two at once
		for at := range 76 {
			refused(t, "a block with bytes turned", turned(turned(right, at, 1), at+1, 1))
			refused(t, "a block with bytes turned", turned(turned(right, at, 1), 4095, 1))
		}
	}
}

// P10.1: a right sum of letters and numbers with any one byte turned: just what may be is taken.
func TestTakeSealed(t *testing.T) {
	for _, s := range []api.Super{small, mid, great} {
		front := told("keepsake1", s)
		for at := range len(front) {
			for by := 1; by < 256; by++ {
				checkTake(t, sealed(turned(front, at, byte(by))))
			}
		}
	}
}

// P10.1: a right sum, and a superblock that may not be.
func TestTakeMayNotBe(t *testing.T) {
	with := func(change func(s *api.Super)) string {
		s := mid
		change(&s)
		return laid(s)
	}
	for _, c := range []struct {
		what, block string
	}{
		{"Gen 0", with(func(s *api.Super) { s.Gen = 0 })},
		{"Gen 2^60 + 1", with(func(s *api.Super) { s.Gen = lastGen + 1 })},
		{"Gen 2^63 - 1", with(func(s *api.Super) { s.Gen = math.MaxInt64 })},
		{"Gen 2^63", with(func(s *api.Super) { s.Gen = math.MinInt64 })},
		{"Gen 2^63 + 1", with(func(s *api.Super) { s.Gen = math.MinInt64 + 1 })},
		{"Gen 2^64 - 1", with(func(s *api.Super) { s.Gen = -1 })},
		{"Tail 7 of 6", with(func(s *api.Super) { s.Tail = 7 })},
		{"Tail 10 of 6", with(func(s *api.Super) { s.Tail = 10 })},
		{"Tail 2^31", with(func(s *api.Super) { s.Tail = 1 << 31 })},
		{"Tail 2^32 - 1", with(func(s *api.Super) { s.Tail = -1 })},
		{"Epoch 6, First 7", with(func(s *api.Super) { s.Epoch = 6 })},
		{"Epoch 0, First 7", with(func(s *api.Super) { s.Epoch = 0 })},
		{"Clock 2^40 + 1", with(func(s *api.Super) { s.Clock = lastClock + 1 })},
		{"Clock 2^63", with(func(s *api.Super) { s.Clock = math.MinInt64 })},
		{"Clock 2^64 - 1", with(func(s *api.Super) { s.Clock = -1 })},
		{"7 blocks", with(func(s *api.Super) { s.Geo.Blocks = 7 })},
		{"4 blocks, Tail 0", with(func(s *api.Super) { s.Geo.Blocks, s.Tail = 4, 0 })},
		{"1025 blocks", with(func(s *api.Super) { s.Geo.Blocks = 1025 })},
		{"no blocks", with(func(s *api.Super) { s.Geo.Blocks, s.Tail = 0, 0 })},
		{"no places", with(func(s *api.Super) { s.Geo.Lbas = 0 })},
		{"4097 places", with(func(s *api.Super) { s.Geo.Lbas = 4097 })},
		{"First 13, Epoch 12", with(func(s *api.Super) { s.Geo.First = 13 })},
		{"all noughts", laid(api.Super{})},
		{"all beyond", laid(api.Super{Gen: -1, Tail: -1, Epoch: -1, Clock: -1, Geo: api.Geo{Blocks: -1, Lbas: -1, First: -1}})},
	} {
		refused(t, c.what, c.block)
	}
}

// P10.1: numbers, letters and sums that are laid another way than the chapter's.
func TestTakeOtherwise(t *testing.T) {
	right := laid(mid)
	front := right[:45]
	sum := func(s string) string { w := sha256.Sum256([]byte(s)); return string(w[:]) }
	fill := func(s string) string { return s + strings.Repeat("\x00", 4096-len(s)) }
	for _, letters := range []string{"keepsake0", "keepsake2", "Keepsake1", "KEEPSAKE1", "keepsake\x00", "keepsak e", "\x00\x00\x00\x00\x00\x00\x00\x00\x00", "1keepsake"} {
		refused(t, "other letters", sealed(told(letters, mid)))
	}
	for _, letters := range []string{"", "keepsake", "keepsake11", "keepsake1\x00"} {
		refused(t, "fewer or more letters", sealed(told(letters, mid)))
	}
	for what, block := range map[string]string{
		"no sum":                         fill(front),
		"a sum of noughts":               fill(front + strings.Repeat("\x00", 32) + "\x00"),
		"the sum without the letters":    fill(front + sum(front[9:])),
		"the sum without the shape":      fill(front + sum(front[:33])),
		"the sum of the sum":             fill(front + sum(sum(front))),
		"the sum with the noughts":       fill(front + sum(front+strings.Repeat("\x00", 4096-45-32))),
		"the sum ahead of the rest":      fill(sum(front) + front),
		"the sum at the end":             front + strings.Repeat("\x00", 4096-45-32) + sum(front),
		"a sum that is cut":              fill(front + sum(front)[:31]),
		"the sum, twice":                 fill(front + sum(front) + sum(front)),
		"the sum of another one":         front + laid(great)[45:],
		"one superblock behind another":  fill(right[:77] + right[:77]),
		"a byte at the end":              right[:4095] + "\x01",
		"ones in place of noughts":       right[:77] + strings.Repeat("\xff", 4019),
		"an inner byte among noughts":    right[:2000] + "k" + right[2001:],
		"the shape ahead of the numbers": sealed("keepsake1" + front[33:] + front[9:33]),
		"lowest bytes first":             sealed("keepsake1\x09\x00\x00\x00\x00\x00\x00\x00\x03\x00\x00\x00\x0c\x00\x00\x00\xf4\x01\x00\x00\x00\x00\x00\x00\x0a\x00\x00\x00\x32\x00\x00\x00\x07\x00\x00\x00"),
	} {
		refused(t, what, block)
	}
	if s, e := super.Take(sealed(front)); s != mid || e != api.OK {
		t.Errorf("Take of the right one: %d %d", s, e)
	}
}

// P10.4: what was taken, put, is those bytes; of blocks that tell numbers as they come.
func TestBack(t *testing.T) {
	r := rand.New(rand.NewSource(10))
	count := 0
	for range 20000 {
		g := api.Geo{Blocks: 4 + r.Intn(1024), Lbas: r.Intn(4100), First: r.Intn(1 << r.Intn(34))}
		block := laid(api.Super{Gen: r.Intn(1 << r.Intn(62)), Tail: r.Intn(g.Blocks), Epoch: g.First - 2 + r.Intn(1<<r.Intn(34)), Clock: r.Intn(1 << r.Intn(43)), Geo: g})
		checkTake(t, block)
		s, e := super.Take(block)
		if e != api.OK {
			continue
		}
		count++
		if again, f := super.Put(s); again != block || f != api.OK {
			t.Errorf("Put(Take(%.80x)): %.80x %d", block, again, f)
		}
	}
	if count < 1000 {
		t.Errorf("%d of the blocks were superblocks'", count)
	}
}

// P10.2: which one is chosen, in which place.
func TestChooseByHand(t *testing.T) {
	one := api.Super{Gen: 1, Tail: 4, Epoch: 9, Clock: 99, Geo: tiny}
	two := api.Super{Gen: 2, Geo: low, Epoch: 7}
	other := api.Super{Gen: 2, Tail: 1, Epoch: 8, Clock: 1, Geo: low}
	most := api.Super{Gen: lastGen, Geo: tiny}
	nearly := api.Super{Gen: lastGen - 1, Tail: 4, Epoch: 1, Clock: 1, Geo: tiny}
	junk := turned(laid(two), 60, 1)
	beyond := laid(api.Super{Gen: lastGen + 1, Geo: tiny})
	zero := laid(api.Super{Geo: tiny})
	for _, c := range []struct {
		a, b string
		s    api.Super
		at   int
		e    api.Errno
	}{
		// the greater Gen, in both places, whatever else is less
		{laid(one), laid(two), two, 1, api.OK},
		{laid(two), laid(one), two, 0, api.OK},
		{laid(one), laid(most), most, 1, api.OK},
		{laid(most), laid(one), most, 0, api.OK},
		{laid(nearly), laid(most), most, 1, api.OK},
		{laid(most), laid(nearly), most, 0, api.OK},
		{laid(small), laid(great), great, 1, api.OK},
		{laid(great), laid(small), great, 0, api.OK},
		// one Gen
		{laid(two), laid(other), two, 0, api.OK},
		{laid(other), laid(two), other, 0, api.OK},
		{laid(one), laid(one), one, 0, api.OK},
		{laid(most), laid(great), most, 0, api.OK},
		{laid(great), laid(most), great, 0, api.OK},
		// beside none, be its number odd or even
		{laid(one), noughts(), one, 0, api.OK},
		{noughts(), laid(one), one, 1, api.OK},
		{laid(two), noughts(), two, 0, api.OK},
		{noughts(), laid(two), two, 1, api.OK},
		{laid(one), "", one, 0, api.OK},
		{"", laid(one), one, 1, api.OK},
		{laid(one), junk, one, 0, api.OK},
		{junk, laid(one), one, 1, api.OK},
		{laid(one), beyond, one, 0, api.OK},
		{beyond, laid(one), one, 1, api.OK},
		{zero, laid(one), one, 1, api.OK},
		{laid(one), zero, one, 0, api.OK},
		{laid(one), laid(most)[:4095], one, 0, api.OK},
		{laid(most) + "\x00", laid(one), one, 1, api.OK},
		// neither
		{noughts(), noughts(), api.Super{}, 0, api.ErrNone},
		{"", "", api.Super{}, 0, api.ErrNone},
		{"", noughts(), api.Super{}, 0, api.ErrNone},
		{junk, noughts(), api.Super{}, 0, api.ErrNone},
		{noughts(), junk, api.Super{}, 0, api.ErrNone},
		{junk, junk, api.Super{}, 0, api.ErrNone},
		{beyond, beyond, api.Super{}, 0, api.ErrNone},
		{beyond, "", api.Super{}, 0, api.ErrNone},
		{zero, zero, api.Super{}, 0, api.ErrNone},
		{laid(one)[:77], laid(two)[:77], api.Super{}, 0, api.ErrNone},
	} {
		if s, at, e := super.Choose(c.a, c.b); s != c.s || at != c.at || e != c.e {
			t.Errorf("Choose(%.80x, %.80x): %d %d %d, asked %d %d %d", c.a, c.b, s, at, e, c.s, c.at, c.e)
		}
	}
}

// P10.2: superblocks of all kinds, and what is none's, each beside each.
func TestChooseEach(t *testing.T) {
	l := []string{"", "\x00", noughts(), laid(small)[:77], laid(great) + "\x00", laid(api.Super{}), laid(api.Super{Gen: lastGen + 1, Geo: tiny}), strings.Repeat("\xff", 4096)}
	for _, gen := range []int{1, 2, 3, 255, 256, 1 << 32, 1<<32 + 1, lastGen - 1, lastGen} {
		for _, s := range []api.Super{small, mid, great} {
			s.Gen = gen
			l = append(l, laid(s), turned(laid(s), 16, 4))
		}
	}
	for _, a := range l {
		for _, b := range l {
			checkChoose(t, a, b)
		}
	}
}

// P10.3.
func TestNextByHand(t *testing.T) {
	gen := func(n int) api.Super { s := mid; s.Gen = n; return s }
	last := great
	last.Gen = lastGen - 1
	for _, c := range []struct {
		s, next api.Super
		e       api.Errno
	}{
		{gen(1), gen(2), api.OK},
		{gen(2), gen(3), api.OK},
		{gen(255), gen(256), api.OK},
		{gen(lastEpoch), gen(lastEpoch + 1), api.OK},
		{gen(lastGen - 2), gen(lastGen - 1), api.OK},
		{gen(lastGen - 1), gen(lastGen), api.OK},
		{last, great, api.OK},
		{gen(lastGen), api.Super{}, api.ErrLimit},
		{great, api.Super{}, api.ErrLimit},
		{gen(0), api.Super{}, api.ErrArg},
		{gen(-1), api.Super{}, api.ErrArg},
		{gen(lastGen + 1), api.Super{}, api.ErrArg},
		{gen(math.MinInt64), api.Super{}, api.ErrArg},
		{gen(math.MaxInt64), api.Super{}, api.ErrArg},
		{api.Super{}, api.Super{}, api.ErrArg},
		// what may not be is told ahead of the end
		{api.Super{Gen: lastGen}, api.Super{}, api.ErrArg},
		{api.Super{Gen: lastGen, Tail: 5, Geo: tiny}, api.Super{}, api.ErrArg},
		{api.Super{Gen: lastGen, Tail: -1, Geo: tiny}, api.Super{}, api.ErrArg},
		{api.Super{Gen: lastGen, Epoch: 6, Geo: low}, api.Super{}, api.ErrArg},
		{api.Super{Gen: lastGen, Clock: -1, Geo: tiny}, api.Super{}, api.ErrArg},
		{api.Super{Gen: 1, Clock: lastClock + 1, Geo: tiny}, api.Super{}, api.ErrArg},
		{api.Super{Gen: 1, Epoch: lastEpoch + 1, Geo: tiny}, api.Super{}, api.ErrArg},
		{api.Super{Gen: 1, Geo: api.Geo{Blocks: 8}}, api.Super{}, api.ErrArg},
	} {
		if next, e := super.Next(c.s); next != c.next || e != c.e {
			t.Errorf("Next(%d): %d %d, asked %d %d", c.s, next, e, c.next, c.e)
		}
	}
}

// P10.5: superblocks follow on each other in their two places; each is chosen if it came there, and the one ahead of it if it did not.
func TestLater(t *testing.T) {
	r := rand.New(rand.NewSource(5))
	for _, start := range []int{1, 2, 254, 1<<32 - 3, lastGen - 40} {
		now := api.Super{Gen: start, Epoch: 7, Geo: low}
		places := [2]string{noughts(), noughts()}
		put := func() string {
			block, e := super.Put(now)
			if e != api.OK {
				t.Fatalf("Put(%d): %d", now, e)
			}
			return block
		}
		places[geom.Super(now.Gen)] = put()
		for range 40 {
			was := now
			next, e := super.Next(now)
			if e != api.OK {
				t.Fatalf("Next(%d): %d", now, e)
			}
			// what a next one tells beside its number may be less than what the last one told, too
			next.Tail, next.Epoch, next.Clock = r.Intn(7), 7+r.Intn(4), r.Intn(100)
			now = next
			at := geom.Super(now.Gen)
			older := places[at]
			chosen(t, places, was, 1-at)
			for _, there := range []string{noughts(), "", older[:4095], turned(put(), r.Intn(4096), 8), older} {
				places[at] = there
				chosen(t, places, was, 1-at)
			}
			// a part of its bytes came there: it is none's, or was whole
			for n := range 80 {
				places[at] = put()[:n] + older[n:]
				if places[at] == put() {
					chosen(t, places, now, at)
				} else {
					chosen(t, places, was, 1-at)
				}
			}
			places[at] = put()
			chosen(t, places, now, at)
		}
		if now.Gen != start+40 {
			t.Errorf("from %d on: %d", start, now.Gen)
		}
	}
}

func chosen(t *testing.T, places [2]string, want api.Super, where int) {
	t.Helper()
	if s, at, e := super.Choose(places[0], places[1]); s != want || at != where || e != api.OK {
		t.Errorf("chosen: %d %d %d, asked %d %d", s, at, e, want, where)
	}
}

// P10.5: whatever older one stands in the other place, of whatever shape.
func TestLaterThanAny(t *testing.T) {
	for _, s := range []api.Super{small, mid, {Gen: 1<<40 + 1, Tail: 1, Epoch: lastEpoch, Clock: 2, Geo: high}, {Gen: lastGen - 1, Geo: wide}} {
		next, e := super.Next(s)
		if e != api.OK {
			t.Fatal(e)
		}
		for _, gen := range []int{1, s.Gen / 2, s.Gen - 2, s.Gen - 1} {
			if gen < 1 || gen >= s.Gen {
				continue
			}
			for _, older := range []api.Super{{Gen: gen, Geo: tiny}, {Gen: gen, Tail: 1020, Epoch: lastEpoch, Clock: lastClock, Geo: high}} {
				chosen(t, [2]string{laid(s), laid(older)}, s, 0)
				chosen(t, [2]string{laid(older), laid(s)}, s, 1)
			}
		}
		chosen(t, [2]string{laid(s), laid(next)}, next, 1)
		chosen(t, [2]string{laid(next), laid(s)}, next, 0)
	}
}

// P1, P2: what a call answers hangs on its arguments alone, whatever was asked ahead of it.
func TestAgain(t *testing.T) {
	for range 3 {
		for _, s := range []api.Super{small, {}, great, {Gen: lastGen + 1, Geo: tiny}, mid, {Gen: 1}, {Gen: 2, Tail: 5, Geo: tiny}} {
			was := s
			checkAll(t, s, mid, noughts())
			checkAll(t, s, great, "")
			if s != was {
				t.Errorf("%d has become %d", was, s)
			}
		}
	}
}

// No call panics, and all answers are as the chapter's words say, at whatever numbers and bytes.
func FuzzCalls(f *testing.F) {
	for _, n := range []int{math.MinInt64, -1, 0, 1, 4, 7, 8, 1020, 1024, lastEpoch, lastEpoch + 1, lastClock, lastClock + 1, lastGen, lastGen + 1, math.MaxInt64} {
		f.Add(n, 0, 0, 0, 8, 1, 0, 60, byte(1), "")
		f.Add(1, n, 0, 0, 8, 1, 0, 0, byte(0), noughts())
		f.Add(1, 0, n, 0, 1024, 4096, 0, 9, byte(128), laid(small))
		f.Add(1, 0, 0, n, 8, 1, 0, 4095, byte(255), laid(great))
		f.Add(2, 0, lastEpoch, 0, 8, n, n, 44, byte(2), laid(mid))
		f.Add(n, n, n, n, n, n, n, n, byte(n), "keepsake1")
	}
	f.Fuzz(func(t *testing.T, gen, tail, epoch, clock, blocks, lbas, first, at int, by byte, text string) {
		s := api.Super{Gen: gen, Tail: tail, Epoch: epoch, Clock: clock, Geo: api.Geo{Blocks: blocks, Lbas: lbas, First: first}}
		checkAll(t, s, mid, text)
		// most superblocks may not be: the same one, brought to what may be, or just beyond
		s.Geo = api.Geo{Blocks: blocks&1023 + 4, Lbas: lbas&4095 + 1, First: first & (1<<32 - 1)}
		s = api.Super{Gen: gen & (1<<61 - 1), Tail: tail & 1023, Epoch: max(s.Geo.First-1, epoch&(1<<32-1)), Clock: clock & (1<<41 - 1), Geo: s.Geo}
		checkAll(t, s, api.Super{Gen: s.Gen, Tail: 1, Geo: tiny}, text)
		s.Tail %= s.Geo.Blocks
		checkAll(t, s, s, turned(laid(s), at&4095, by))
		checkTake(t, sealed(turned(told("keepsake1", s), (at&1023)%45, by)))
	})
}

func checkAll(t *testing.T, s, other api.Super, text string) {
	t.Helper()
	checkCheck(t, s)
	checkPut(t, s)
	checkNext(t, s)
	checkTake(t, laid(s))
	checkTake(t, text)
	checkChoose(t, laid(s), laid(other))
	checkChoose(t, laid(other), laid(s))
	checkChoose(t, laid(s), text)
	checkChoose(t, text, laid(s))
	checkChoose(t, text, text)
}
