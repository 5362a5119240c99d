package journal_test

import (
	"fmt"
	"slices"
	"strings"
	"testing"

	"keepsake/api"
	"keepsake/disk"
	"keepsake/journal"
)

// far are numbers at the bounds of all that is asked, beyond them, and between.
func far() []int {
	return []int{least, least + 1, -lastEpoch - 1, -1, 0, 1, 2, 1 << 31, lastEpoch - 1, lastEpoch, lastEpoch + 1, lastTime, lastTime + 1, lastGen, most - 1, most}
}

// The chapter's example.
func TestExample(t *testing.T) {
	d, e := disk.New(8)
	ok(t, e)
	g := api.Geo{Blocks: 8, Lbas: 1}
	ok(t, journal.Format(d, g, keyFor(0)))
	j, blocks, key, e := journal.Open(d)
	ok(t, e)
	if s := j.Super(); s != (api.Super{Gen: 1, Geo: g}) || len(blocks) != 0 || key != keyFor(0) {
		t.Fatal(s, len(blocks), key)
	}
	if n, e := j.Append(text("a")); n != 0 || e != api.OK {
		t.Fatal(n, e)
	}
	ok(t, j.Commit(5))
	if s := j.Super(); s != (api.Super{Gen: 2, Tail: 1, Clock: 5, Geo: g}) {
		t.Fatal(s)
	}
}

// P25.1: Format of shapes at, beyond and short of each bound, on a disk that has as many blocks, or as near to as many as a disk may.
func TestFormatShapes(t *testing.T) {
	for _, blocks := range append(far(), 7, 8, 9, 512, 1023, 1024, 1025) {
		size := min(max(blocks, 8), 1024)
		for _, lbas := range []int{least, -1, 0, 1, 2, 4095, 4096, 4097, most} {
			for _, first := range []int{least, -1, 0, 1, 5, lastEpoch - 1, lastEpoch, lastEpoch + 1, most} {
				if size > 9 && lbas != 1 && first != 5 {
					continue // many blocks take long
				}
				g := api.Geo{Blocks: blocks, Lbas: lbas, First: first}
				d := load(t, blank(size))
				want := api.OK
				if blocks != size || lbas < 1 || lbas > 4096 || first < 0 || first > lastEpoch {
					want = api.ErrArg
				}
				if e := journal.Format(d, g, keyFor(0)); e != want {
					t.Fatalf("%v: %d, asked %d", g, e, want)
				}
				x := blank(size)
				if want == api.OK {
					x.Blocks[1] = superBytes(api.Super{Gen: 1, Epoch: first, Geo: g})
					x.Blocks[2+first%2] = keyBytes(first, keyFor(0))
				}
				if now := d.Seize(); !likeImages(now, x) {
					t.Fatalf("%v:%s", g, shownAs(now))
				}
			}
		}
	}
}

// P25.1: keys of other lengths, disks of other sizes, and none; what is refused leaves the disk as it was (P2).
func TestFormatRefused(t *testing.T) {
	g := api.Geo{Blocks: 9, Lbas: 3, First: 7}
	for _, size := range []int{8, 9, 10, 1024} {
		for _, n := range []int{0, 1, 31, 32, 33, 64, 4096} {
			x := blank(size)
			x.Blocks[5] = text("old")
			x.Cache = []api.Put{{At: 6, Data: text("on its way")}}
			d := load(t, x)
			want := api.ErrArg
			if size == 9 && n == 32 {
				want = api.OK
			}
			if e := journal.Format(d, g, strings.Repeat("k", n)); e != want {
				t.Errorf("%d blocks, a key of %d bytes: %d, asked %d", size, n, e, want)
			}
			if same := likeImages(d.Seize(), x); same == (want == api.OK) {
				t.Errorf("%d blocks, a key of %d bytes: on the disk is%s", size, n, shownAs(d.Seize()))
			}
		}
	}
	for name, d := range map[string]*disk.Disk{"nil": nil, "zero": {}, "new": new(disk.Disk)} {
		for _, blocks := range []int{0, 8, 9} {
			g.Blocks = blocks
			if e := journal.Format(d, g, keyFor(7)); e != api.ErrArg {
				t.Errorf("%s of %d blocks: %d", name, blocks, e)
			}
		}
	}
}

// P25.1: a disk that is down is told of only where nothing else is wrong.
func TestFormatDown(t *testing.T) {
	good := small(4, 3)
	for _, x := range []struct {
		g   api.Geo
		key string
		e   api.Errno
	}{
		{good, keyFor(3), api.ErrDown},
		{good, keyFor(3)[1:], api.ErrArg},
		{good, keyFor(3) + "-", api.ErrArg},
		{good, "", api.ErrArg},
		{small(5, 3), keyFor(3), api.ErrArg},
		{small(3, 3), keyFor(3), api.ErrArg},
		{small(4, -1), keyFor(3), api.ErrArg},
		{api.Geo{Blocks: 8, Lbas: 0}, keyFor(3), api.ErrArg},
	} {
		for _, was := range []api.Image{blank(8), imageOf(api.Super{Gen: 4, Tail: 1, Geo: good, Epoch: 4}, text("a"))} {
			w := world(t, was, crashes())
			w.is(t, call{kind: toFormat, g: x.g, key: x.key}, x.e)
			if !likeImages(w.d.Seize(), was) {
				t.Error("it has written")
			}
		}
	}
}

// P25.1: what is written, in which order, and when it is flushed; no block is written that shows noughts, whatever lies below.
func TestFormatSteps(t *testing.T) {
	even, odd := small(4, 6), small(4, 7)
	does(t, blank(8), nil, formatting(even), "flush", "2 key 6 k6", "flush", "1 super 1, tail 0, epoch 6, clock 0", "flush")
	does(t, blank(8), nil, formatting(odd), "flush", "3 key 7 k7", "flush", "1 super 1, tail 0, epoch 7, clock 0", "flush")
	all := blank(8)
	for i := range all.Blocks {
		all.Blocks[i] = text("old")
	}
	does(t, all, nil, formatting(odd),
		"0 noughts", "1 noughts", "2 noughts", "3 noughts", "4 noughts", "5 noughts", "6 noughts", "7 noughts", "flush",
		"3 key 7 k7", "flush", "1 super 1, tail 0, epoch 7, clock 0", "flush")
	// each place alone: in its block, in the cache, and in its block where the cache has noughts over it
	for i := range 8 {
		tail := []string{"flush", "2 key 6 k6", "flush", "1 super 1, tail 0, epoch 6, clock 0", "flush"}
		wiped := append([]string{fmt.Sprint(i, " noughts")}, tail...)
		x := blank(8)
		x.Cache = []api.Put{{At: i, Data: text("a")}}
		does(t, x, nil, formatting(even), wiped...)
		x = blank(8)
		x.Blocks[i] = text("a")
		does(t, x, nil, formatting(even), wiped...)
		x.Cache = []api.Put{{At: i, Data: noughts()}}
		does(t, x, nil, formatting(even), tail...)
		last := noughts()[1:] + "\x01" // a single bit at the end
		x = blank(8)
		x.Blocks[i] = last
		does(t, x, nil, formatting(even), wiped...)
	}
	// a journal that was there, some of it not flushed
	x := imageOf(api.Super{Gen: 5, Tail: 3, Epoch: 9, Clock: 8, Geo: odd}, text("a"), noughts(), text("c"))
	x.Cache = []api.Put{{At: 2, Data: text("junk")}, {At: 4, Data: noughts()}}
	does(t, x, nil, formatting(even),
		"1 noughts", "2 noughts", "3 noughts", "6 noughts", "flush",
		"2 key 6 k6", "flush", "1 super 1, tail 0, epoch 6, clock 0", "flush")
}

// P25.1: behind Format nothing is left of what was there, and nothing is in the cache.
func TestFormatBehind(t *testing.T) {
	for _, first := range []int{0, 1, lastEpoch - 1, lastEpoch} {
		g := small(6, first)
		x := imageOf(api.Super{Gen: 6, Tail: 6, Epoch: lastEpoch, Clock: 8, Geo: g}, text("a"), text("b"), text("c"), text("d"), text("e"), text("f"))
		x.Blocks[1], x.Blocks[2] = text("old"), text("older")
		x.Cache = []api.Put{{At: 0, Data: text("x")}, {At: 9, Data: text("y")}, {At: 4, Data: noughts()}}
		w := world(t, x, formatting(g))
		if now, want := w.d.Seize(), imageOf(api.Super{Gen: 1, Epoch: first, Geo: g}); !likeImages(now, want) {
			t.Errorf("from %d on:%s", first, shownAs(now))
		}
		w.is(t, opening(), api.OK)
		if got := looksOf(w.j); got != (looks{api.Super{Gen: 1, Epoch: first, Geo: g}, 0, 5}) {
			t.Errorf("from %d on it tells %v", first, got)
		}
	}
}

// P25.1: a full cache refuses a write, and that is what is told.
func TestFormatFull(t *testing.T) {
	g := small(4, 0)
	x := blank(8)
	for range 4096 {
		x.Cache = append(x.Cache, api.Put{At: 5, Data: noughts()})
	}
	world(t, x, formatting(g)) // nothing to wipe: the flush makes room
	x.Cache[4095].Data = text("a")
	w := world(t, x)
	w.is(t, formatting(g), api.ErrFull)
	x.Cache = x.Cache[1:]
	world(t, x, formatting(g))
}

// refuses asks of Open that it hands out nothing, tells this, and lets the disk be.
func refuses(t *testing.T, name string, x api.Image, e api.Errno) {
	t.Helper()
	w := world(t, x)
	w.is(t, opening(), e)
	if j, blocks, key, f := journal.Open(w.d); j != nil || blocks != nil || key != "" || f != e {
		t.Errorf("%s: %v %d blocks %q %d", name, j, len(blocks), key, f)
	}
	if now := w.d.Seize(); !likeImages(now, x) {
		t.Errorf("%s: on the disk is%s", name, shownAs(now))
	}
}

// P25.2: no disk, one that no call made, one that is down, and ones on which there is no journal.
func TestOpenRefused(t *testing.T) {
	for name, d := range map[string]*disk.Disk{"nil": nil, "zero": {}, "new": new(disk.Disk)} {
		if j, blocks, key, e := journal.Open(d); j != nil || blocks != nil || key != "" || e != api.ErrNil {
			t.Errorf("%s: %v %d blocks %q %d", name, j, len(blocks), key, e)
		}
	}
	d := load(t, imageOf(api.Super{Gen: 1, Geo: small(4, 0)}))
	ok(t, d.Crash())
	if j, blocks, key, e := journal.Open(d); j != nil || blocks != nil || key != "" || e != api.ErrDown {
		t.Errorf("down: %v %d blocks %q %d", j, len(blocks), key, e)
	}
	ok(t, d.Boot())
	if j, _, key, e := journal.Open(d); j == nil || key != keyFor(0) || e != api.OK {
		t.Errorf("not down: %v %q %d", j, key, e)
	}
	blanked := load(t, blank(8))
	ok(t, blanked.Crash())
	if _, _, _, e := journal.Open(blanked); e != api.ErrDown {
		t.Error("down, and never formatted:", e)
	}
	for _, size := range []int{8, 9, 1024} {
		refuses(t, "never formatted", blank(size), api.ErrNone)
	}
	x := blank(8)
	for i := range x.Blocks {
		x.Blocks[i] = text("junk")
	}
	refuses(t, "junk", x, api.ErrNone)
}

// P25.2: superblocks in both places, in one, and in none.
func TestOpenSuper(t *testing.T) {
	g := small(4, 0)
	super := func(gen, epoch int) string { return superBytes(api.Super{Gen: gen, Epoch: epoch, Geo: g}) }
	broken := super(9, 1)[:4095] + "\x01"
	for _, x := range []struct {
		a, b string
		// epoch is that of the superblock that holds; -1, if none does.
		epoch int
	}{
		{super(2, 0), super(1, 1), 0},
		{super(2, 0), super(3, 1), 1},
		{super(3, 0), super(2, 1), 0}, // in each other's places
		{super(1, 0), super(2, 1), 1},
		{super(4, 0), super(4, 1), 0}, // of one Gen that of the place 0
		{super(lastGen, 0), super(lastGen-1, 1), 0},
		{super(lastGen-1, 0), super(lastGen, 1), 1},
		{super(2, 0), noughts(), 0},
		{super(2, 0), text("junk"), 0},
		{super(2, 0), broken, 0},
		{noughts(), super(1, 1), 1},
		{text("junk"), super(1, 1), 1},
		{broken, super(1, 1), 1},
		{noughts(), noughts(), -1},
		{broken, text("junk"), -1},
		{noughts(), broken, -1},
		{super(lastGen, 0)[:12] + "\xff" + super(lastGen, 0)[13:], broken, -1},
	} {
		m := blank(8)
		m.Blocks[0], m.Blocks[1] = x.a, x.b
		m.Blocks[2], m.Blocks[3] = keyBytes(0, keyFor(0)), keyBytes(1, keyFor(1))
		if x.epoch < 0 {
			refuses(t, "no superblock", m, api.ErrNone)
			continue
		}
		w := opened(t, m)
		s, is := superOf([]string{x.a, x.b}[x.epoch])
		if got := w.j.Super(); !is || got != s {
			t.Errorf("of %s and %s it tells %v", told(x.a), told(x.b), got)
		}
		// the other one stays where it is
		if now := w.d.Seize().Blocks; now[0] != x.a || now[1] != x.b {
			t.Error("superblocks were written")
		}
	}
}

// P25.2: a superblock whose shape has not as many blocks as the disk; also where the other one has, or the key is none.
func TestOpenShape(t *testing.T) {
	for _, blocks := range []int{8, 9, 10, 11, 12, 1023, 1024} {
		x := blank(10)
		x.Blocks[0] = superBytes(api.Super{Gen: 2, Geo: api.Geo{Blocks: blocks, Lbas: 1}})
		x.Blocks[1] = superBytes(api.Super{Gen: 1, Geo: small(6, 0)})
		x.Blocks[2] = keyBytes(0, keyFor(0))
		x.Blocks[3] = text("stale")
		x.Blocks[9] = text("junk")
		if blocks == 10 {
			opened(t, x)
			continue
		}
		refuses(t, fmt.Sprint(blocks, " blocks"), x, api.ErrForm)
		x.Blocks[2] = noughts()
		refuses(t, fmt.Sprint(blocks, " blocks, and no key"), x, api.ErrForm)
		x.Blocks[2] = keyBytes(2, keyFor(2))
		refuses(t, fmt.Sprint(blocks, " blocks, and another key"), x, api.ErrForm)
		x.Blocks[1] = noughts()
		refuses(t, fmt.Sprint(blocks, " blocks, and no other superblock"), x, api.ErrForm)
	}
}

// P25.2: key places of which both, one and none is good; the one for the epoch counts alone.
func TestOpenKey(t *testing.T) {
	broken := func(epoch int) string { return keyBytes(epoch, keyFor(epoch))[:4095] + "\x01" }
	good := func(epoch int) string { return keyBytes(epoch, keyFor(epoch)) }
	for _, epoch := range []int{0, 1, 2, 7, lastEpoch - 1, lastEpoch} {
		for _, x := range []struct {
			mine, other string
			e           api.Errno
		}{
			{good(epoch), noughts(), api.OK},
			{good(epoch), good((epoch + 1) & lastEpoch), api.OK},
			{good(epoch), good(epoch), api.OK},
			{good(epoch), text("junk"), api.OK},
			{good(epoch), broken(epoch), api.OK},
			{noughts(), noughts(), api.ErrNone},
			{noughts(), good(epoch), api.ErrNone},
			{noughts(), text("junk"), api.ErrNone},
			{good(epoch ^ 2), noughts(), api.ErrNone}, // another one's, which stands there, too
			{good(epoch ^ 1), good(epoch), api.ErrNone},
			{broken(epoch), noughts(), api.ErrForm},
			{broken(epoch), good(epoch), api.ErrForm},
			{text("junk"), good(epoch), api.ErrForm},
			{superBytes(api.Super{Gen: 1, Geo: small(4, 0)}), noughts(), api.ErrForm},
		} {
			m := imageOf(api.Super{Gen: 3, Tail: 1, Epoch: epoch, Geo: small(4, 0)}, text("a"), text("left"))
			m.Blocks[2+epoch%2], m.Blocks[3-epoch%2] = x.mine, x.other
			if x.e != api.OK {
				refuses(t, told(x.mine), m, x.e)
				continue
			}
			opened(t, m)
			d := load(t, m)
			if _, _, key, e := journal.Open(d); key != keyFor(epoch) || e != api.OK {
				t.Errorf("epoch %d: %q %d", epoch, key, e)
			}
			if now := d.Seize().Blocks; now[2+epoch%2] != x.mine || now[3-epoch%2] != noughts() {
				t.Errorf("epoch %d: the keys are %s, %s", epoch, told(now[2]), told(now[3]))
			}
		}
	}
}

// P25.2: what is put right, in which order, and when it is flushed.
func TestOpenSteps(t *testing.T) {
	even := api.Super{Gen: 3, Tail: 2, Epoch: 6, Clock: 9, Geo: small(6, 5)}
	odd := even
	odd.Epoch = 7
	nothing := []string(nil)
	for _, x := range []struct {
		name string
		s    api.Super
		// other is what stands in the place that is not the epoch's key's, behind what the data's blocks from 2 on show.
		other  string
		behind []string
		want   []string
	}{
		{"nothing", even, noughts(), nil, nothing},
		{"nothing", odd, noughts(), nil, nothing},
		{"a stale key", even, keyBytes(5, keyFor(5)), nil, []string{"3 noughts", "flush"}},
		{"a stale key", odd, keyBytes(6, keyFor(6)), nil, []string{"2 noughts", "flush"}},
		{"the next key", even, keyBytes(7, keyFor(7)), nil, []string{"3 noughts", "flush"}},
		{"the next key", odd, keyBytes(8, keyFor(8)), nil, []string{"2 noughts", "flush"}},
		{"junk", odd, text("junk"), nil, []string{"2 noughts", "flush"}},
		{"the first one", even, noughts(), []string{text("a")}, []string{"6 noughts", "flush"}},
		{"the last one", even, noughts(), []string{noughts(), noughts(), noughts(), text("a")}, []string{"9 noughts", "flush"}},
		{"each other one", odd, noughts(), []string{text("a"), noughts(), text("c")}, []string{"6 noughts", "8 noughts", "flush"}},
		{"all", odd, text("a"), []string{text("a"), text("b"), text("c"), text("d")},
			[]string{"2 noughts", "6 noughts", "7 noughts", "8 noughts", "9 noughts", "flush"}},
		{"all", even, text("a"), []string{text("a"), text("b"), text("c"), text("d")},
			[]string{"3 noughts", "6 noughts", "7 noughts", "8 noughts", "9 noughts", "flush"}},
		{"a single bit", even, noughts()[1:] + "\x01", []string{"\x80" + noughts()[1:]}, []string{"3 noughts", "6 noughts", "flush"}},
	} {
		m := imageOf(x.s, append([]string{text("one"), noughts()}, x.behind...)...)
		m.Blocks[3-x.s.Epoch%2] = x.other
		does(t, m, nil, opening(), x.want...)
		// behind it all of that is gone, and nothing else
		d := load(t, m)
		_, _, _, e := journal.Open(d)
		ok(t, e)
		if now := d.Seize(); !likeImages(now, imageOf(x.s, text("one"))) {
			t.Errorf("%s, epoch %d: on the disk is%s", x.name, x.s.Epoch, shownAs(now))
		}
		// and nothing is done any more (P25.7)
		does(t, d.Seize(), nil, opening())
	}
}

// P25.2: what a place shows counts, be it in the cache or in its block; where nothing is put right nothing is flushed, either.
func TestOpenCache(t *testing.T) {
	s := api.Super{Gen: 4, Tail: 2, Epoch: 6, Clock: 9, Geo: small(4, 5)}
	x := imageOf(s, text("a"), text("b"), text("left"))
	x.Blocks[3] = keyBytes(5, keyFor(5))
	x.Cache = []api.Put{{At: 5, Data: text("c")}, {At: 6, Data: noughts()}, {At: 3, Data: noughts()}}
	does(t, x, nil, opening())
	w := opened(t, x)
	if now := w.d.Seize(); !likeImages(now, x) {
		t.Errorf("on the disk is%s", shownAs(now))
	}
	if _, blocks, _, e := journal.Open(w.d); e != api.OK || !slices.Equal(blocks, []string{text("a"), text("c")}) {
		t.Errorf("%d blocks %d", len(blocks), e)
	}
	// a superblock and a key in the cache
	x = imageOf(s, text("a"), text("b"), text("c"))
	next := api.Super{Gen: 5, Tail: 3, Epoch: 7, Clock: 9, Geo: s.Geo}
	x.Cache = []api.Put{{At: 3, Data: keyBytes(7, keyFor(7))}, {At: 1, Data: superBytes(next)}, {At: 7, Data: text("d")}}
	does(t, x, nil, opening(), "2 noughts", "7 noughts", "flush")
	w = opened(t, x)
	if w.j.Super() != next {
		t.Error(w.j.Super())
	}
}

// P25.2: a full cache refuses what is to be put right.
func TestOpenFull(t *testing.T) {
	s := api.Super{Gen: 4, Tail: 2, Epoch: 6, Geo: small(4, 5)}
	x := imageOf(s, text("a"), text("b"))
	for range 4096 {
		x.Cache = append(x.Cache, api.Put{At: 4, Data: text("c")})
	}
	opened(t, x)
	x.Blocks[6] = text("left")
	refuses(t, "full", x, api.ErrFull)
	x.Cache = x.Cache[1:]
	opened(t, x)
	x.Blocks[7] = text("left, too")
	w := world(t, x)
	w.is(t, opening(), api.ErrFull)
	w.is(t, flushes(), api.ErrNil) // there is no journal
}

// P25.2: what is handed out: the journal, the committed blocks in their order, and the key.
func TestOpenHands(t *testing.T) {
	all := []string{text("a"), text("b"), noughts(), text("a"), text("e"), text("f")}
	for tail := range 7 {
		s := api.Super{Gen: 8, Tail: tail, Epoch: 3, Clock: 4, Geo: small(6, 0)}
		d := load(t, imageOf(s, all...))
		j, blocks, key, e := journal.Open(d)
		if j == nil || key != keyFor(3) || e != api.OK || !slices.Equal(blocks, all[:tail]) {
			t.Fatalf("tail %d: %v %d blocks %q %d", tail, j, len(blocks), key, e)
		}
		if got := looksOf(j); got != (looks{s, tail, max(5-tail, 0)}) {
			t.Errorf("tail %d: it tells %v", tail, got)
		}
		for i := range tail {
			if b, e := j.Read(i); b != all[i] || e != api.OK {
				t.Errorf("Read(%d): %s %d", i, told(b), e)
			}
		}
		// the list is the caller's own
		clear(blocks)
		_ = append(blocks, "more")
		if b, e := j.Read(max(tail-1, 0)); tail > 0 && (b != all[tail-1] || e != api.OK) {
			t.Error(told(b), e)
		}
		if _, again, _, e := journal.Open(d); e != api.OK || !slices.Equal(again, all[:tail]) {
			t.Errorf("%d blocks the second time, %d", len(again), e)
		}
	}
}

// shapes of blocks, by their length: the one of Block bytes is the only one that may be.
func lengths() []int { return []int{0, 1, 32, 4095, 4096, 4097, 8192} }

// P25.3: Append of blocks of each length, until there is no room, and what is told behind each.
func TestAppend(t *testing.T) {
	for _, data := range []int{4, 5, 9} {
		g := small(data, 2)
		w := fresh(t, g)
		s := api.Super{Gen: 1, Epoch: 2, Geo: g}
		for n := 0; n <= data+1; n++ {
			for _, length := range lengths() {
				if length != 4096 {
					w.is(t, call{kind: toAppend, block: strings.Repeat("a", length)}, api.ErrArg)
				}
			}
			used := min(n, data-1)
			if got := looksOf(w.j); got != (looks{s, used, data - 1 - used}) {
				t.Errorf("behind %d it tells %v", n, got)
			}
			want := answer{n: n}
			if n >= data-1 {
				want = answer{e: api.ErrFull}
			}
			if a := w.do(t, appends(fmt.Sprint("block ", n))); a != want {
				t.Errorf("block %d: %v, asked %v", n, a, want)
			}
		}
		for i := range data - 1 {
			if b, e := w.j.Read(i); b != text(fmt.Sprint("block ", i)) || e != api.OK {
				t.Errorf("Read(%d): %s %d", i, told(b), e)
			}
		}
		x := w.d.Seize()
		if len(x.Cache) != data-1 || x.Cache[data-2].At != 4+data-2 {
			t.Errorf("on the disk is%s", shownAs(x))
		}
	}
}

// P25.3: it is written, and neither flushed nor committed.
func TestAppendSteps(t *testing.T) {
	g := small(4, 2)
	fresh := []call{formatting(g), opening()}
	does(t, blank(8), fresh, appends("a"), "4 a")
	does(t, blank(8), append(fresh, appends("a")), appends("b"), "5 b")
	does(t, blank(8), append(fresh, appends("a"), commits(1)), appends("b"), "5 b")
	does(t, blank(8), append(fresh, appends("a"), appends("b"), appends("c")), appends("d"))
	does(t, imageOf(api.Super{Gen: 1, Tail: 4, Epoch: 2, Geo: g}), []call{opening()}, appends("d"))
	w := world(t, blank(8), append(fresh, appends("a"), appends("b"), crashes(), boots(), opening())...)
	if got := looksOf(w.j); got != (looks{api.Super{Gen: 1, Epoch: 2, Geo: g}, 0, 3}) {
		t.Error("appended blocks are there behind a crash:", got)
	}
	// an ErrArg is told ahead of an ErrFull
	w = opened(t, imageOf(api.Super{Gen: 1, Tail: 3, Epoch: 2, Geo: g}))
	w.is(t, call{kind: toAppend, block: text("d") + "-"}, api.ErrArg)
	w.is(t, appends("d"), api.ErrFull)
}

// P25.3: Commit with clocks about the last one and the last that may be.
func TestCommitClocks(t *testing.T) {
	g := small(4, 2)
	for _, was := range []int{0, 1, 5, lastTime - 1, lastTime} {
		for _, now := range append(far(), was-2, was-1, was, was+1, lastTime-1) {
			s := api.Super{Gen: 6, Tail: 1, Epoch: 3, Clock: was, Geo: g}
			w := opened(t, imageOf(s, text("a")), appends("b"))
			if now < was || now > lastTime {
				w.is(t, commits(now), api.ErrArg)
			} else {
				w.is(t, commits(now), api.OK)
				s = api.Super{Gen: 7, Tail: 2, Epoch: 3, Clock: now, Geo: g}
			}
			if got := looksOf(w.j); got != (looks{s, 2, 1}) {
				t.Errorf("Commit(%d) behind %d: it tells %v", now, was, got)
			}
			w.is(t, commits(lastTime), api.OK) // it is not broken
		}
	}
}

// P25.3: Commit of nothing, of one and of many blocks: what is written, and what is told behind it.
func TestCommit(t *testing.T) {
	for data := 4; data <= 12; data += 4 {
		g := small(data, 2)
		l := []call{formatting(g), opening()}
		does(t, blank(4+data), l, commits(0), "flush", "0 super 2, tail 0, epoch 2, clock 0", "flush")
		gen, w := 1, fresh(t, g)
		for n := range data {
			gen++
			w.is(t, commits(n), api.OK)
			if got := looksOf(w.j); got != (looks{api.Super{Gen: gen, Tail: n, Epoch: 2, Clock: n, Geo: g}, n, data - 1 - n}) {
				t.Errorf("behind %d it tells %v", n, got)
			}
			if x := w.d.Seize(); x.Blocks[gen%2] != superBytes(w.j.Super()) || len(x.Cache) != 0 {
				t.Errorf("on the disk is%s", shownAs(x))
			}
			w.do(t, appends(fmt.Sprint("block ", n)))
		}
		for n := 1; n < data; n++ {
			l = append(l, appends("a"))
			does(t, blank(4+data), l, commits(7), "flush", fmt.Sprintf("0 super 2, tail %d, epoch 2, clock 7", n), "flush")
			does(t, blank(4+data), append(l, commits(3)), commits(7), "flush", fmt.Sprintf("1 super 3, tail %d, epoch 2, clock 7", n), "flush")
		}
	}
}

// P25.3: Commit and Close at the last Gen, and at the one ahead.
func TestLastGen(t *testing.T) {
	g := small(5, 2)
	s := api.Super{Gen: lastGen - 1, Tail: 1, Epoch: 3, Clock: 4, Geo: g}
	w := opened(t, imageOf(s, text("a")), appends("b"))
	w.is(t, commits(5), api.OK)
	s = api.Super{Gen: lastGen, Tail: 2, Epoch: 3, Clock: 5, Geo: g}
	if w.j.Super() != s {
		t.Error(w.j.Super())
	}
	for _, x := range []*pair{w, opened(t, w.d.Seize())} {
		x.is(t, commits(3), api.ErrArg) // of both that one is told
		x.is(t, commits(lastTime+1), api.ErrArg)
		x.is(t, commits(5), api.ErrLimit)
		x.is(t, closes("c", 4, 4), api.ErrArg)
		x.is(t, closes("c", 4, 5), api.ErrLimit)
		if got := looksOf(x.j); got != (looks{s, 2, 2}) {
			t.Error(got)
		}
		x.is(t, appends("c"), api.OK) // it is not broken
		x.is(t, overs(0, "d"), api.OK)
		x.is(t, flushes(), api.OK)
	}
	s.Gen = lastGen - 1
	w = opened(t, imageOf(s, text("a")), closes("c", 4, 5))
	if got := w.j.Super(); got != (api.Super{Gen: lastGen, Tail: 3, Epoch: 4, Clock: 5, Geo: g}) {
		t.Error(got)
	}
	w.is(t, closes("d", 5, 5), api.ErrLimit)
}

// P25.4: each error of Close, and each set of several: the arguments' are told ahead of the others.
func TestCloseRefused(t *testing.T) {
	const short, long, badKey, back, late, epoch, gen, room, sets = 1, 2, 4, 8, 16, 32, 64, 128, 256
	for set := range sets {
		s := api.Super{Gen: 6, Tail: 3, Epoch: lastEpoch - 1, Clock: 9, Geo: small(4, 2)}
		c := call{kind: toClose, block: text("end"), key: keyFor(1), n: 9}
		want := api.OK
		if set&short != 0 {
			c.block = c.block[:4095]
		} else if set&long != 0 {
			c.block += "-"
		}
		if set&badKey != 0 {
			c.key = c.key[:31]
		}
		if set&back != 0 {
			c.n = 8
		} else if set&late != 0 {
			c.n = lastTime + 1
		}
		if set&epoch != 0 {
			s.Epoch, want = lastEpoch, api.ErrLimit
		}
		if set&gen != 0 {
			s.Gen, want = lastGen, api.ErrLimit
		}
		if set&room != 0 {
			s.Tail, want = 4, api.ErrLimit
		}
		if set&(short|long|badKey|back|late) != 0 {
			want = api.ErrArg
		}
		w := opened(t, imageOf(s, text("a"), text("b"), text("c")))
		was := w.d.Seize()
		w.is(t, c, want)
		if want == api.OK {
			continue
		}
		if got := looksOf(w.j); got != (looks{s, s.Tail, 0}) || !likeImages(w.d.Seize(), was) {
			t.Errorf("set %b: it tells %v", set, got)
		}
		w.is(t, flushes(), api.OK) // it is not broken
		w.is(t, crashes(), api.OK)
		w.is(t, c, want) // the disk is not asked
		w.is(t, flushes(), api.ErrDown)
		w.is(t, c, api.ErrDown)
		none := &pair{d: w.d, e: w.e}
		none.is(t, c, api.ErrNil)
	}
}

// P25.4: blocks, keys and clocks of each length and at each bound.
func TestCloseArguments(t *testing.T) {
	s := api.Super{Gen: 6, Tail: 2, Epoch: 7, Clock: 9, Geo: small(5, 2)}
	try := func(c call, good bool) {
		t.Helper()
		w := opened(t, imageOf(s, text("a"), text("b")), appends("c"))
		if good {
			if a := w.do(t, c); a != (answer{n: 3}) {
				t.Errorf("%v: %v", c, a)
			}
			if got := looksOf(w.j); got != (looks{api.Super{Gen: 7, Tail: 4, Epoch: 8, Clock: c.n, Geo: s.Geo}, 4, 0}) {
				t.Errorf("%v: it tells %v", c, got)
			}
			return
		}
		w.is(t, c, api.ErrArg)
		if got := looksOf(w.j); got != (looks{s, 3, 1}) {
			t.Errorf("%v: it tells %v", c, got)
		}
	}
	for _, n := range lengths() {
		c := closes("", 8, 9)
		c.block = strings.Repeat("d", n)
		try(c, n == 4096)
	}
	for _, n := range []int{0, 1, 31, 32, 33, 64, 4096} {
		c := closes("d", 8, 9)
		c.key = strings.Repeat("k", n)
		try(c, n == 32)
	}
	for _, n := range append(far(), 8, 9, 10, lastTime-1) {
		try(closes("d", 8, n), n >= 9 && n <= lastTime)
	}
	c := closes("d", 8, 9)
	c.key = noughts()[:32] // a key is any 32 bytes
	try(c, true)
}

// P25.4: what is written and wiped, in which order, of even and odd epochs and Gens, and behind blocks that were not committed.
func TestCloseSteps(t *testing.T) {
	for _, gen := range []int{1, 4, 5} {
		for _, epoch := range []int{0, 1, 6, 7, lastEpoch - 2, lastEpoch - 1} {
			s := api.Super{Gen: gen, Tail: 1, Epoch: epoch, Clock: 3, Geo: small(4, 0)}
			for n := range 3 {
				l := []call{opening()}
				for range n {
					l = append(l, appends("more"))
				}
				does(t, imageOf(s, text("a")), l, closes("end", epoch+1, 5),
					fmt.Sprintf("%d end", 5+n),
					fmt.Sprintf("%d key %d k%d", 3-epoch%2, epoch+1, epoch+1),
					"flush",
					fmt.Sprintf("%d super %d, tail %d, epoch %d, clock 5", 1-gen%2, gen+1, 2+n, epoch+1),
					"flush",
					fmt.Sprintf("%d noughts", 2+epoch%2),
					"flush")
				w := world(t, imageOf(s, text("a")), append(l, closes("end", epoch+1, 5))...)
				want := imageOf(api.Super{Gen: gen + 1, Tail: 2 + n, Epoch: epoch + 1, Clock: 5, Geo: s.Geo}, append(append([]string{text("a")}, slices.Repeat([]string{text("more")}, n)...), text("end"))...)
				want.Blocks[gen%2] = superBytes(s)
				if now := w.d.Seize(); !likeImages(now, want) {
					t.Errorf("on the disk is%s\nasked%s", shownAs(now), shownAs(want))
				}
				d := load(t, w.d.Seize())
				if _, blocks, key, e := journal.Open(d); len(blocks) != 2+n || key != keyFor(epoch+1) || e != api.OK {
					t.Errorf("%d blocks %q %d", len(blocks), key, e)
				}
			}
		}
	}
}

// P25.4: at the last epoch and the one ahead, where one block is left, and where none is.
func TestCloseLast(t *testing.T) {
	s := api.Super{Gen: 6, Tail: 0, Epoch: lastEpoch - 1, Geo: small(4, 2)}
	w := opened(t, imageOf(s), closes("a", lastEpoch, 0))
	if got := looksOf(w.j); got != (looks{api.Super{Gen: 7, Tail: 1, Epoch: lastEpoch, Geo: s.Geo}, 1, 2}) {
		t.Error(got)
	}
	w.is(t, closes("b", 0, 0), api.ErrLimit)
	w.is(t, appends("b"), api.OK)
	w.is(t, commits(1), api.OK)
	w.is(t, closes("b", 0, 1), api.ErrLimit)
	// epoch by epoch up to the end of the blocks
	w = fresh(t, small(4, 0))
	for n := range 4 {
		if a := w.do(t, closes("a", n+1, 0)); a != (answer{n: n}) {
			t.Error(n, a)
		}
		if got := looksOf(w.j); got.used != n+1 || got.room != 2-min(n, 2) || got.last.Epoch != n+1 {
			t.Error(n, got)
		}
	}
	w.is(t, closes("a", 5, 0), api.ErrLimit)
	w.is(t, appends("a"), api.ErrFull)
	w.is(t, commits(0), api.OK)
	w.is(t, opening(), api.OK)
	w.is(t, closes("a", 5, 0), api.ErrLimit)
	// one is left, as Append does not take it
	w = fresh(t, small(4, 0), appends("a"), appends("b"), appends("c"))
	w.is(t, appends("d"), api.ErrFull)
	if a := w.do(t, closes("d", 1, 0)); a != (answer{n: 3}) {
		t.Error(a)
	}
	if got := looksOf(w.j); got != (looks{api.Super{Gen: 2, Tail: 4, Epoch: 1, Geo: small(4, 0)}, 4, 0}) {
		t.Error(got)
	}
}

// P25.5: Over and Read at each bound; what was appended may be read, what was committed may be written over, too.
func TestOverRead(t *testing.T) {
	for tail := range 5 {
		for more := range 3 {
			s := api.Super{Gen: 6, Tail: tail, Epoch: 2, Geo: small(8, 2)}
			l := []string{text("a"), text("b"), text("c"), text("d")}[:tail]
			w := opened(t, imageOf(s, l...))
			for n := range more {
				w.is(t, appends(fmt.Sprint("more ", n)), api.OK)
				l = append(l, text(fmt.Sprint("more ", n)))
			}
			for _, i := range append(far(), tail-1, tail, tail+1, tail+more-1, tail+more, tail+more+1, 7, 8) {
				want := answer{e: api.ErrRange}
				if i >= 0 && i < tail+more {
					want = answer{s: l[i]}
				}
				if a := w.do(t, reads(i)); a != want {
					t.Errorf("%d of %d and %d: Read %v %d", i, tail, more, told(a.s), a.e)
				}
				for _, n := range lengths() {
					e := api.OK
					switch {
					case i < 0 || i >= tail:
						e = api.ErrRange
					case n != 4096:
						e = api.ErrArg
					default:
						l[i] = strings.Repeat("o", 4096)
					}
					w.is(t, call{kind: toOver, n: i, block: strings.Repeat("o", n)}, e)
				}
			}
			if got := looksOf(w.j); got != (looks{s, tail + more, 7 - tail - more}) {
				t.Error(got)
			}
		}
	}
}

// P25.5: Over writes, and does not flush; Flush flushes, and does not commit.
func TestOverSteps(t *testing.T) {
	s := api.Super{Gen: 6, Tail: 3, Epoch: 2, Geo: small(6, 2)}
	x := imageOf(s, text("a"), text("b"), text("c"))
	for i := range 3 {
		does(t, x, []call{opening()}, overs(i, "new"), fmt.Sprint(4+i, " new"))
	}
	does(t, x, []call{opening()}, overs(3, "new"))
	does(t, x, []call{opening()}, flushes(), "flush")
	does(t, x, []call{opening(), appends("d"), overs(1, "new")}, flushes(), "flush")
	w := opened(t, x, appends("d"), overs(1, "new"), flushes())
	if now := w.d.Seize(); !likeImages(now, imageOf(s, text("a"), text("new"), text("c"), text("d"))) {
		t.Errorf("on the disk is%s", shownAs(now))
	}
	if got := looksOf(w.j); got != (looks{s, 4, 1}) {
		t.Error(got)
	}
	w.is(t, crashes(), api.OK)
	w.is(t, boots(), api.OK)
	w.is(t, opening(), api.OK)
	if now := w.d.Seize(); !likeImages(now, imageOf(s, text("a"), text("new"), text("c"))) {
		t.Errorf("behind a crash is%s", shownAs(now))
	}
	does(t, x, []call{opening()}, reads(0))
	// what Over wrote may be read, and is handed out, once it was committed ahead
	w = opened(t, x, overs(2, "over"))
	if a := w.do(t, reads(2)); a != (answer{s: text("over")}) {
		t.Error(told(a.s), a.e)
	}
}

// P25.5: a full cache refuses Over, and whatever else writes; the journal is broken then, with power.
func TestFullCache(t *testing.T) {
	s := api.Super{Gen: 6, Tail: 2, Epoch: 2, Geo: small(6, 2)}
	x := imageOf(s, text("a"), text("b"))
	for _, c := range []struct {
		call
		writes, used int
	}{{overs(1, "o"), 4096, 2}, {appends("c"), 4096, 3}, {closes("c", 3, 0), 4096, 3}, {closes("c", 3, 0), 4095, 3}} {
		m := x
		m.Cache = slices.Repeat([]api.Put{{At: 4, Data: text("a")}}, c.writes)
		w := opened(t, m)
		w.is(t, c.call, api.ErrFull)
		if got := looksOf(w.j); got != (looks{s, c.used, 5 - c.used}) || w.d.Down() {
			t.Errorf("%v: it tells %v", c.call, got)
		}
		brokenIs(t, w)
		w = opened(t, m, flushes())
		w.is(t, c.call, api.OK)
		w = opened(t, m, commits(0))
		w.is(t, c.call, api.OK)
	}
	w := opened(t, x)
	for range 4096 {
		ok(t, w.j.Over(0, text("o")))
		ok(t, w.p.over(0, text("o")))
	}
	w.is(t, overs(0, "o"), api.ErrFull)
	brokenIs(t, w)
}

// asked are calls of each kind that a journal with two committed blocks and some room takes.
func asked() []call {
	return []call{appends("c"), commits(lastTime), closes("c", 4, lastTime), overs(0, "o"), flushes(), reads(0)}
}

// wrong are such as are refused for their arguments.
func wrong() []call {
	return []call{{kind: toAppend}, commits(-1), {kind: toClose}, overs(-1, "o"), {kind: toOver}, reads(-1), reads(most)}
}

// brokenIs asks of a journal that it is broken: all calls that answer an error answer ErrDown, and nothing is done.
func brokenIs(t *testing.T, w *pair) {
	t.Helper()
	was, looked := w.d.Seize(), looksOf(w.j)
	for _, c := range slices.Concat(asked(), wrong()) {
		w.is(t, c, api.ErrDown)
	}
	if !likeImages(w.d.Seize(), was) || looksOf(w.j) != looked {
		t.Error("something was done")
	}
}

// Rule 4: nil, and a Journal that no call made; they are as they were behind it.
func TestNone(t *testing.T) {
	for name, j := range map[string]*journal.Journal{"nil": nil, "zero": {}, "new": new(journal.Journal)} {
		w := &pair{d: load(t, blank(8)), j: j, e: load(t, blank(8))}
		for range 2 {
			for _, c := range slices.Concat(asked(), wrong()) {
				if a := w.do(t, c); a != (answer{e: api.ErrNil}) {
					t.Errorf("%s, %v: %v", name, c, a)
				}
			}
			if got := looksOf(j); got != (looks{}) {
				t.Errorf("%s: it tells %v", name, got)
			}
		}
		if j != nil && *j != (journal.Journal{}) {
			t.Errorf("%s: it is another one", name)
		}
	}
}

// What is refused for its arguments breaks nothing, and does nothing to the disk, be it down or not.
func TestWrong(t *testing.T) {
	s := api.Super{Gen: 6, Tail: 2, Epoch: 3, Geo: small(6, 2)}
	for _, c := range wrong() {
		w := opened(t, imageOf(s, text("a"), text("b")))
		was, looked := w.d.Seize(), looksOf(w.j)
		a := w.do(t, c)
		if a.e != api.ErrArg && a.e != api.ErrRange {
			t.Errorf("%v: %v", c, a)
		}
		w.is(t, crashes(), api.OK)
		w.is(t, c, a.e)
		w.is(t, boots(), api.OK)
		if !likeImages(w.d.Seize(), was) || looksOf(w.j) != looked {
			t.Errorf("%v has done something", c)
		}
		for _, c := range asked() {
			w.is(t, c, api.OK)
		}
	}
}

// A Journal that is copied by value is the same one.
func TestSameOne(t *testing.T) {
	w := fresh(t, small(4, 2))
	k := *w.j
	w.is(t, appends("a"), api.OK)
	if n, e := k.Append(text("b")); n != 1 || e != api.OK {
		t.Fatal(n, e)
	}
	ok(t, k.Commit(4))
	if a, b := looksOf(w.j), looksOf(&k); a != b || a.last.Tail != 2 {
		t.Error(a, b)
	}
	ok(t, w.d.Crash())
	if e := k.Flush(); e != api.ErrDown {
		t.Error(e)
	}
	ok(t, w.d.Boot())
	if e := w.j.Flush(); e != api.ErrDown {
		t.Error(e)
	}
}

// Two journals on two disks: of one that is given calls the other knows nothing.
func TestApart(t *testing.T) {
	for _, c := range slices.Concat(asked(), wrong(), []call{crashes(0), arms(1), opening(), formatting(small(6, 2))}) {
		s := api.Super{Gen: 6, Tail: 2, Epoch: 3, Geo: small(6, 2)}
		x := imageOf(s, text("a"), text("b"))
		one, other := opened(t, x, overs(1, "p")), opened(t, x, overs(1, "q"))
		was, looked := other.d.Seize(), looksOf(other.j)
		for range 3 {
			one.do(t, c)
			one.do(t, appends("more"))
		}
		other.like(t)
		if !likeImages(other.d.Seize(), was) || looksOf(other.j) != looked {
			t.Errorf("%v: the other one tells %v", c, looksOf(other.j))
		}
		for _, c := range asked() {
			other.is(t, c, api.OK)
		}
	}
}
