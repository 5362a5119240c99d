package disk_test

import (
	"math"
	"math/rand"
	"slices"
	"strings"
	"testing"

	"keepsake/api"
	"keepsake/disk"
)

// text makes a block that is no row of one kind.
func text(seed int) string {
	b := make([]byte, api.Block)
	rand.New(rand.NewSource(int64(seed) + 8)).Read(b)
	return string(b)
}

func noughts() string { return strings.Repeat("\x00", 4096) }

func ok(t *testing.T, e api.Errno) {
	t.Helper()
	if e != api.OK {
		t.Fatal("refused:", e)
	}
}

func refused(t *testing.T, e, want api.Errno) {
	t.Helper()
	if e != want {
		t.Errorf("answered %d, asked %d", e, want)
	}
}

func must(t *testing.T, n int) *disk.Disk {
	t.Helper()
	d, e := disk.New(n)
	if d == nil || e != api.OK {
		t.Fatal("no disk of", n, e)
	}
	return d
}

func loaded(t *testing.T, x api.Image) *disk.Disk {
	t.Helper()
	d, e := disk.Load(x)
	if d == nil || e != api.OK {
		t.Fatal("not loaded:", e)
	}
	return d
}

// image makes one of n blocks of noughts, and these writes.
func image(n int, writes ...api.Put) api.Image {
	return api.Image{Blocks: slices.Repeat([]string{noughts()}, n), Cache: writes}
}

// shown are what all places show.
func shown(t *testing.T, d *disk.Disk) []string {
	t.Helper()
	var l []string
	for i := range d.Size() {
		s, e := d.Read(i)
		ok(t, e)
		l = append(l, s)
	}
	return l
}

// has says that a place shows this.
func has(t *testing.T, d *disk.Disk, i int, s string) {
	t.Helper()
	if now, e := d.Read(i); now != s || e != api.OK {
		t.Errorf("place %d has %.8q %d, asked %.8q", i, now, e, s)
	}
}

func likeImages(a, b api.Image) bool {
	return slices.Equal(a.Blocks, b.Blocks) && slices.Equal(a.Cache, b.Cache)
}

// behind is what stands on a disk behind a crash that keeps this.
func behind(t *testing.T, d *disk.Disk, keep ...int) []string {
	t.Helper()
	ok(t, d.Crash(keep...))
	ok(t, d.Boot())
	return shown(t, d)
}

// far are numbers that no place, size or step has.
func far() []int {
	return []int{math.MinInt64, math.MinInt64 + 1, -1 << 32, -4096, -2, -1, 1 << 16, 1 << 32, math.MaxInt64 - 1, math.MaxInt64}
}

func TestExample(t *testing.T) {
	d := must(t, 8)
	ok(t, d.Write(1, full('a')))
	ok(t, d.Write(1, full('b')))
	ok(t, d.Crash(0))
	ok(t, d.Boot())
	has(t, d, 1, full('a'))
}

// P8.1.
func TestNew(t *testing.T) {
	for _, n := range []int{8, 9, 100, 1023, 1024} {
		d := must(t, n)
		if d.Size() != n || d.Down() {
			t.Errorf("size %d, down %v, asked %d", d.Size(), d.Down(), n)
		}
		if l := shown(t, d); len(l) != n || slices.ContainsFunc(l, func(s string) bool { return s != noughts() }) {
			t.Errorf("%d blocks are not noughts", n)
		}
		if x := d.Seize(); len(x.Blocks) != n || len(x.Cache) != 0 {
			t.Errorf("%d blocks and %d writes are seized, asked %d", len(x.Blocks), len(x.Cache), n)
		}
		ok(t, d.Write(n-1, text(1)))
		ok(t, d.Flush())
		has(t, d, n-1, text(1))
	}
	for _, n := range append(far(), 0, 1, 7, 1025, 2048) {
		if d, e := disk.New(n); d != nil || e != api.ErrArg {
			t.Errorf("New(%d): %v %d", n, d, e)
		}
	}
}

// P8.1: two disks have nothing of each other, nor two blocks of one.
func TestNewApart(t *testing.T) {
	c, d := must(t, 8), must(t, 8)
	ok(t, c.Write(3, text(1)))
	ok(t, c.Flush())
	ok(t, c.Over(4, text(2)))
	for i, s := range shown(t, d) {
		if s != noughts() {
			t.Errorf("place %d of the other disk", i)
		}
	}
	for i, s := range shown(t, c) {
		if i != 3 && i != 4 && s != noughts() {
			t.Errorf("place %d beside what is written", i)
		}
	}
}

// P8.1: images that may be.
func TestLoad(t *testing.T) {
	many := make([]api.Put, 4096)
	for i := range many {
		many[i] = api.Put{At: i % 1024, Data: full(i)}
	}
	last := api.Put{At: 7, Data: text(3)}
	for name, x := range map[string]api.Image{
		"fewest blocks":     image(8),
		"most blocks":       image(1024),
		"an empty cache":    {Blocks: image(8).Blocks, Cache: []api.Put{}},
		"most writes":       image(1024, many...),
		"the last place":    image(8, last),
		"the first place":   image(8, api.Put{At: 0, Data: text(4)}),
		"one place, thrice": image(9, last, api.Put{At: 7, Data: text(5)}, api.Put{At: 7, Data: text(6)}),
	} {
		for i := range x.Blocks {
			x.Blocks[i] = text(i % 50)
		}
		d := loaded(t, x)
		if d.Size() != len(x.Blocks) || d.Down() || !likeImages(d.Seize(), x) {
			t.Error(name)
		}
		agree(t, d, newPlain(x))
		ok(t, d.Flush())
		p := newPlain(x)
		p.do(call{kind: toFlush})
		agree(t, d, p)
	}
}

// P8.1: images that may not be.
func TestLoadRefused(t *testing.T) {
	good := api.Put{At: 3, Data: text(1)}
	wrong := func(x api.Image, what ...any) {
		t.Helper()
		if d, e := disk.Load(x); d != nil || e != api.ErrArg {
			t.Error(append(what, d, e)...)
		}
	}
	wrong(api.Image{}, "nothing")
	wrong(api.Image{Cache: []api.Put{good}}, "no blocks, one write")
	wrong(api.Image{Blocks: []string{}, Cache: []api.Put{}}, "empty lists")
	for _, n := range []int{1, 7, 1025, 5000} {
		wrong(image(n), n, "blocks")
		wrong(image(n, good), n, "blocks, one write")
		wrong(image(n, api.Put{At: -1, Data: "a"}), n, "blocks, a wrong write")
	}
	for _, n := range []int{4097, 4098, 10000} {
		wrong(image(8, slices.Repeat([]api.Put{good}, n)...), n, "writes")
	}
	// one that is wrong among others that are not
	for _, at := range []int{0, 4, 7} {
		for _, n := range []int{0, 1, 4095, 4097, 8192} {
			x := image(8, slices.Repeat([]api.Put{good}, 8)...)
			x.Blocks[at] = strings.Repeat("a", n)
			wrong(x, "block", at, "of", n, "bytes")
			x = image(8, slices.Repeat([]api.Put{good}, 8)...)
			x.Cache[at].Data = strings.Repeat("a", n)
			wrong(x, "write", at, "of", n, "bytes")
		}
		for _, n := range append(far(), 8, 9, 1023, 1024) {
			x := image(8, slices.Repeat([]api.Put{good}, 8)...)
			x.Cache[at].At = n
			wrong(x, "write", at, "to", n)
		}
	}
}

// An image that was handed in stays as it was, whatever is done, and what is done with it does not show.
func TestLoadApart(t *testing.T) {
	blocks, writes := make([]string, 8, 20), make([]api.Put, 2, 20)
	for i := range blocks {
		blocks[i] = text(i)
	}
	writes[0], writes[1] = api.Put{At: 1, Data: text(11)}, api.Put{At: 2, Data: text(12)}
	x := api.Image{Blocks: blocks, Cache: writes}
	was := api.Image{Blocks: slices.Clone(blocks), Cache: slices.Clone(writes)}
	d := loaded(t, x)
	ok(t, d.Write(3, text(13)))
	ok(t, d.Over(4, text(14)))
	for _, w := range writes[:cap(writes)][2:] {
		if w != (api.Put{}) {
			t.Error("behind the list of writes something is written")
		}
	}
	ok(t, d.Flush())
	if !likeImages(x, was) {
		t.Error("the image that was handed in is changed")
	}
	d = loaded(t, x)
	for i := range blocks {
		blocks[i] = "gone"
	}
	writes[0], writes[1] = api.Put{At: -5}, api.Put{}
	if !likeImages(d.Seize(), was) {
		t.Error("what is done with the image shows on the disk")
	}
	agree(t, d, newPlain(was))
}

// P8.4: an image that was handed out is apart from the disk, and from another one.
func TestSeizeApart(t *testing.T) {
	for _, isDown := range []bool{false, true} {
		d := must(t, 8)
		ok(t, d.Over(0, text(1)))
		ok(t, d.Write(1, text(2)))
		ok(t, d.Write(2, text(3)))
		if isDown {
			ok(t, d.Arm(1))
			refused(t, d.Flush(), api.ErrDown)
		}
		x, y := d.Seize(), d.Seize()
		was := api.Image{Blocks: slices.Clone(x.Blocks), Cache: slices.Clone(x.Cache)}
		for i := range x.Blocks {
			x.Blocks[i] = "gone"
		}
		for i := range x.Cache {
			x.Cache[i] = api.Put{At: 99}
		}
		x.Cache = append(x.Cache, api.Put{At: 5})
		if !likeImages(y, was) || !likeImages(d.Seize(), was) {
			t.Error("what is done with an image shows")
		}
		ok(t, d.Over(3, text(4)))
		if !isDown {
			ok(t, d.Write(4, text(5)))
			ok(t, d.Flush())
		}
		ok(t, d.Crash(0, 1))
		if !likeImages(y, was) {
			t.Error("what is done with the disk shows in an image")
		}
	}
}

// P8.4: the blocks as they are, and the cache in its order.
func TestSeize(t *testing.T) {
	d := must(t, 8)
	want := image(8)
	check := func(step string) {
		t.Helper()
		if x := d.Seize(); !likeImages(x, want) {
			t.Errorf("%s: %d blocks, %d writes", step, len(x.Blocks), len(x.Cache))
		}
	}
	check("nothing done")
	for i, at := range []int{5, 1, 5, 0} {
		ok(t, d.Write(at, text(i)))
		want.Cache = append(want.Cache, api.Put{At: at, Data: text(i)})
		check("amid power, with a cache")
	}
	ok(t, d.Flush())
	want = image(8)
	want.Blocks[5], want.Blocks[1], want.Blocks[0] = text(2), text(1), text(3)
	check("behind a Flush")
	ok(t, d.Write(2, text(9)))
	want.Cache = []api.Put{{At: 2, Data: text(9)}}
	ok(t, d.Arm(1))
	check("armed")
	refused(t, d.Write(3, text(10)), api.ErrDown)
	check("the power is gone, with a cache")
	ok(t, d.Crash(0))
	want.Cache, want.Blocks[2] = nil, text(9)
	check("the power is gone, without a cache")
	ok(t, d.Boot())
	check("the power is there again")
}

// P8.2 and P8.4: every place, every length, with power and without.
func TestPlaces(t *testing.T) {
	for _, size := range []int{8, 1024} {
		for _, at := range append(far(), 0, 1, size/2, size-1, size, size+1) {
			for _, n := range []int{0, 1, 4095, 4096, 4097, 8192} {
				place(t, size, at, strings.Repeat("a", n))
			}
		}
	}
}

// place tries the calls that have a place and a text.
func place(t *testing.T, size, at int, s string) {
	t.Helper()
	want := api.OK
	switch {
	case at < 0 || at >= size:
		want = api.ErrRange
	case len(s) != 4096:
		want = api.ErrArg
	}
	d, p := must(t, size), newPlain(image(size))
	refused(t, d.Write(at, s), want)
	refused(t, p.do(call{kind: toWrite, n: at, s: s}), want)
	agree(t, d, p)
	refused(t, d.Over(at, s), want)
	refused(t, p.do(call{kind: toOver, n: at, s: s}), want)
	agree(t, d, p)
	if _, e := d.Read(at); (e == api.ErrRange) != (want == api.ErrRange) {
		t.Errorf("Read(%d) of %d: %d", at, size, e)
	}
	ok(t, d.Crash())
	was := d.Seize()
	refused(t, d.Write(at, s), api.ErrDown)
	if now, e := d.Read(at); now != "" || e != api.ErrDown {
		t.Errorf("Read(%d) without power: %d bytes %d", at, len(now), e)
	}
	if !likeImages(d.Seize(), was) {
		t.Error("something is changed without power")
	}
	other := strings.Repeat("b", len(s))
	refused(t, d.Over(at, other), want)
	if want == api.OK {
		was.Blocks[at] = other
	}
	if !likeImages(d.Seize(), was) {
		t.Errorf("Over(%d) of %d bytes without power", at, len(s))
	}
}

// P8.2: the error that is named first is told: no power, no such place, no such block, no room.
func TestOrder(t *testing.T) {
	good := api.Put{At: 1, Data: text(1)}
	d := loaded(t, image(8, slices.Repeat([]api.Put{good}, 4096)...))
	refused(t, d.Write(-1, ""), api.ErrRange)
	refused(t, d.Write(8, text(2)), api.ErrRange)
	refused(t, d.Write(0, ""), api.ErrArg)
	refused(t, d.Write(7, text(2)+"a"), api.ErrArg)
	refused(t, d.Write(7, text(2)), api.ErrFull)
	refused(t, d.Over(8, ""), api.ErrRange)
	refused(t, d.Over(7, ""), api.ErrArg)
	refused(t, d.Over(7, text(2)), api.OK)
	refused(t, d.Arm(-1), api.ErrArg)
	ok(t, d.Arm(1))
	refused(t, d.Write(7, text(2)), api.ErrFull)
	refused(t, d.Flush(), api.ErrDown)
	refused(t, d.Write(-1, ""), api.ErrDown)
	refused(t, d.Write(0, ""), api.ErrDown)
	refused(t, d.Write(0, text(2)), api.ErrDown)
	refused(t, d.Arm(-1), api.ErrDown)
	refused(t, d.Arm(0), api.ErrDown)
	refused(t, d.Flush(), api.ErrDown)
	refused(t, d.Over(8, ""), api.ErrRange)
	refused(t, d.Over(7, ""), api.ErrArg)
	if x := d.Seize(); len(x.Cache) != 4096 {
		t.Errorf("%d writes", len(x.Cache))
	}
}

// P8.2: what a place shows was written to it last.
func TestShows(t *testing.T) {
	d := must(t, 8)
	has(t, d, 2, noughts())
	for round := range 3 {
		for i := range 4 {
			ok(t, d.Write(2, text(10*round+i)))
			has(t, d, 2, text(10*round+i))
			ok(t, d.Write(i+3, text(100+i)))
			has(t, d, 2, text(10*round+i))
			has(t, d, i+3, text(100+i))
		}
		if was := d.Seize().Blocks[2]; round == 0 && was != noughts() {
			t.Error("the block is written ahead of a Flush")
		}
		ok(t, d.Flush())
		has(t, d, 2, text(10*round+3))
		if x := d.Seize(); x.Blocks[2] != text(10*round+3) || len(x.Cache) != 0 {
			t.Error("the writes are not done by a Flush, or not in their order")
		}
		ok(t, d.Flush())
		has(t, d, 2, text(10*round+3))
	}
	has(t, d, 1, noughts())
}

// P8.4: what is put over a block does not show as long as a write to it is in the cache, and is written over by that.
func TestOver(t *testing.T) {
	d := must(t, 8)
	ok(t, d.Over(1, text(1)))
	has(t, d, 1, text(1))
	ok(t, d.Write(1, text(2)))
	ok(t, d.Over(1, text(3)))
	has(t, d, 1, text(2))
	if x := d.Seize(); x.Blocks[1] != text(3) || !slices.Equal(x.Cache, []api.Put{{At: 1, Data: text(2)}}) {
		t.Error("the block is not this, or the cache is not as it was")
	}
	if l := behind(t, d); l[1] != text(3) {
		t.Error("what was put over is not there behind a crash")
	}
	ok(t, d.Write(1, text(4)))
	ok(t, d.Over(1, text(5)))
	ok(t, d.Flush())
	has(t, d, 1, text(4))
	ok(t, d.Write(1, text(6)))
	ok(t, d.Over(1, text(7)))
	if l := behind(t, d, 0); l[1] != text(6) {
		t.Error("what is kept is not done over what was put there")
	}
	ok(t, d.Crash())
	ok(t, d.Over(1, text(8)))
	if !d.Down() {
		t.Error("Over brought the power")
	}
	ok(t, d.Boot())
	has(t, d, 1, text(8))
}

// P8.2: 4096 writes have room.
func TestFull(t *testing.T) {
	d := must(t, 9)
	for round := range 2 {
		var last [9]string
		for i := range 4096 {
			last[i%9] = full(i + round)
			ok(t, d.Write(i%9, last[i%9]))
		}
		for range 3 {
			refused(t, d.Write(0, full('+')), api.ErrFull)
		}
		if x := d.Seize(); len(x.Cache) != 4096 {
			t.Fatalf("%d writes", len(x.Cache))
		}
		for i, s := range last {
			has(t, d, i, s)
		}
		ok(t, d.Flush())
		if x := d.Seize(); len(x.Cache) != 0 {
			t.Errorf("%d writes behind a Flush", len(x.Cache))
		}
		for i, s := range last {
			has(t, d, i, s)
		}
		ok(t, d.Write(0, full('+')))
		ok(t, d.Flush())
	}
	for i := range 4096 {
		ok(t, d.Write(0, full(i)))
	}
	if l := behind(t, d, 4096, 4095, 2); l[0] != full(4095) {
		t.Error("the last of 4096 is kept")
	}
	for range 4096 {
		ok(t, d.Write(0, full(9)))
	}
	refused(t, d.Write(0, full(9)), api.ErrFull)
}

// steps does what the letters say: digits arm, - arms with -1, w and f are steps, r and a are refused, o and s are none.
func steps(t *testing.T, d *disk.Disk, letters string) []api.Errno {
	t.Helper()
	var l []api.Errno
	for i, letter := range letters {
		e := api.OK
		switch letter {
		case '0', '1', '2', '3':
			e = d.Arm(int(letter - '0'))
		case '-':
			e = d.Arm(-1)
		case 'w':
			e = d.Write(i%8, text(i))
		case 'f':
			e = d.Flush()
		case 'r':
			e = d.Write(8, text(i))
		case 'a':
			e = d.Write(0, text(i)[1:])
		case 'o':
			e = d.Over(7, text(i))
		case 's':
			d.Seize()
			_, e = d.Read(1)
		default:
			t.Fatal(letters)
		}
		l = append(l, e)
	}
	return l
}

// letters writes what was answered, a letter each.
func letters(l []api.Errno) string {
	var out strings.Builder
	for _, e := range l {
		switch e {
		case api.OK:
			out.WriteByte('.')
		case api.ErrDown:
			out.WriteByte('d')
		case api.ErrRange:
			out.WriteByte('r')
		case api.ErrArg:
			out.WriteByte('a')
		default:
			out.WriteByte('?')
		}
	}
	return out.String()
}

// P8.3: at the n-th step the power goes, be it a Write or a Flush.
func TestArm(t *testing.T) {
	for _, c := range []struct {
		does, told string
		cache      int // how many writes are in it then; one is ahead of all
	}{
		{"1w", ".d", 1},
		{"1f", ".d", 1},
		{"2ww", "..d", 2},
		{"2wf", "..d", 2},
		{"2fw", "..d", 0},
		{"2ff", "..d", 0},
		{"3wfw", "...d", 0},
		{"3www", "...d", 3},
		{"0wwfw", ".....", 1},
		{"1raosw", ".ra..d", 1},
		{"2wraosf", "..ra..d", 2},
		{"1-w", ".ad", 1},
		{"-w", "a.", 2},
		{"2-ww", ".a.d", 2},
		{"10wfw", ".....", 1},
		{"12ww", "...d", 2},
		{"21w", "..d", 1},
		{"2w2ww", "....d", 3},
		{"2w1w", "...d", 2},
		{"2w0www", "......", 5},
		{"2w-w", "..ad", 2},
		{"11w", "..d", 1},
		{"1wwfs", ".dddd", 1},
		{"1f0wfra1-", ".dddddddd", 1},
		{"1wo", ".d.", 1},
		{"3ffwf", "...dd", 0},
	} {
		d := must(t, 8)
		ok(t, d.Write(0, text(99)))
		told := letters(steps(t, d, c.does))
		isDown, cache := d.Down(), len(d.Seize().Cache)
		if told != c.told || isDown != strings.Contains(c.told, "d") || cache != c.cache {
			t.Errorf("%s: %s, down %v, %d writes; asked %s, %d", c.does, told, isDown, cache, c.told, c.cache)
		}
	}
}

// P8.3: a number that is far off is reached no more than any other.
func TestArmFar(t *testing.T) {
	for _, n := range far() {
		d := must(t, 8)
		want := api.OK
		if n < 0 {
			want = api.ErrArg
		}
		refused(t, d.Arm(n), want)
		for i := range 1000 {
			ok(t, d.Write(i%8, full(i)))
			ok(t, d.Flush())
		}
		if d.Down() {
			t.Errorf("armed with %d the power is gone", n)
		}
	}
	d := must(t, 8)
	ok(t, d.Arm(4096))
	for i := range 4095 {
		ok(t, d.Write(i%8, full(i)))
	}
	refused(t, d.Write(0, full(0)), api.ErrDown)
}

// P8.3: behind an armed step the cache is what it was, and the Crash behind it says what is kept.
func TestArmedCrash(t *testing.T) {
	for _, isFlush := range []bool{false, true} {
		for keep := range 8 {
			d := must(t, 8)
			ok(t, d.Write(0, text(0)))
			ok(t, d.Flush())
			ok(t, d.Arm(3))
			want := shown(t, d)
			var kept []int
			for number := range 3 {
				if keep>>number&1 == 1 {
					kept = append(kept, number)
				}
			}
			ok(t, d.Write(0, text(1)))
			ok(t, d.Write(1, text(2)))
			if isFlush {
				refused(t, d.Flush(), api.ErrDown)
			} else {
				refused(t, d.Write(1, text(3)), api.ErrDown)
			}
			was := d.Seize()
			if was.Blocks[0] != text(0) || !slices.Equal(was.Cache, []api.Put{{At: 0, Data: text(1)}, {At: 1, Data: text(2)}}) {
				t.Error("the cache is not what it was, or something is done")
			}
			if keep&1 == 1 {
				want[0] = text(1)
			}
			if keep&2 == 2 {
				want[1] = text(2)
			}
			if now := behind(t, d, kept...); !slices.Equal(now, want) {
				t.Errorf("flush %v, kept %v", isFlush, kept)
			}
			for range 4 { // nothing is armed any more
				ok(t, d.Write(1, text(4)))
			}
		}
	}
}

// P8.3: which writes a Crash does.
func TestCrash(t *testing.T) {
	a, b, c := 'a', 'b', 'c'
	for name, x := range map[string]struct {
		keep []int
		one  rune // what place 1 has then; 0, if it is what was flushed
		two  rune
	}{
		"nothing":                {nil, 0, 0},
		"an empty list":          {[]int{}, 0, 0},
		"all":                    {[]int{0, 1, 2}, c, b},
		"all, backwards":         {[]int{2, 1, 0}, c, b},
		"any order":              {[]int{1, 2, 0}, c, b},
		"the first":              {[]int{0}, a, 0},
		"the second":             {[]int{1}, 0, b},
		"the last":               {[]int{2}, c, 0},
		"the first, twice":       {[]int{0, 0}, a, 0},
		"the last, thrice":       {[]int{2, 2, 2}, c, 0},
		"the last and the first": {[]int{2, 0}, c, 0},
		"one ahead, twice":       {[]int{0, 2, 0}, c, 0},
		"below 0":                {[]int{-1, -2, math.MinInt64}, 0, 0},
		"beyond":                 {[]int{3, 4, 1 << 32, math.MaxInt64}, 0, 0},
		"beyond and within":      {[]int{3, 1, -1}, 0, b},
		"nought and beyond":      {[]int{-3, 0, 3, 6}, a, 0},
	} {
		d := must(t, 8)
		for i := range 3 {
			ok(t, d.Write(i, full('0'+i)))
		}
		ok(t, d.Flush())
		ok(t, d.Write(1, full('a')))
		ok(t, d.Write(2, full('b')))
		ok(t, d.Write(1, full('c')))
		was := slices.Clone(x.keep)
		ok(t, d.Crash(x.keep...))
		if !slices.Equal(x.keep, was) {
			t.Error(name, "is changed")
		}
		want := []string{full('0'), full('1'), full('2'), noughts()}
		if x.one != 0 {
			want[1] = full(int(x.one))
		}
		if x.two != 0 {
			want[2] = full(int(x.two))
		}
		if s := d.Seize(); !d.Down() || len(s.Cache) != 0 || !slices.Equal(s.Blocks[:4], want) {
			t.Errorf("%s: down %v, %d writes", name, d.Down(), len(s.Cache))
		}
		// the power is gone already, and with it what could be kept
		ok(t, d.Crash(0, 1, 2))
		if s := d.Seize(); !d.Down() || len(s.Cache) != 0 || !slices.Equal(s.Blocks[:4], want) {
			t.Errorf("%s: once more: down %v, %d writes", name, d.Down(), len(s.Cache))
		}
		ok(t, d.Boot())
		if now := shown(t, d); d.Down() || !slices.Equal(now[:4], want) {
			t.Errorf("%s: booted", name)
		}
	}
}

// P8.3: a Crash where the cache is empty, or never was filled.
func TestCrashNothing(t *testing.T) {
	d := must(t, 8)
	was := shown(t, d)
	for _, keep := range [][]int{nil, {0}, {0, 1}, {-1}} {
		if now := behind(t, d, keep...); !slices.Equal(now, was) {
			t.Error(keep)
		}
	}
	ok(t, d.Write(1, text(1)))
	ok(t, d.Flush())
	if now := behind(t, d, 0); now[1] != text(1) {
		t.Error("what was flushed is gone")
	}
}

// P8.3: without power nothing that needs some is answered, up to a Boot.
func TestDown(t *testing.T) {
	for _, isCrash := range []bool{false, true} {
		d := must(t, 8)
		ok(t, d.Write(1, text(1)))
		if isCrash {
			ok(t, d.Crash())
		} else {
			ok(t, d.Arm(1))
			refused(t, d.Write(2, text(2)), api.ErrDown)
		}
		was := d.Seize()
		for range 3 {
			if s, e := d.Read(1); s != "" || e != api.ErrDown {
				t.Errorf("Read: %d bytes %d", len(s), e)
			}
			refused(t, d.Write(1, text(3)), api.ErrDown)
			refused(t, d.Flush(), api.ErrDown)
			refused(t, d.Arm(0), api.ErrDown)
			refused(t, d.Arm(5), api.ErrDown)
			if !d.Down() || d.Size() != 8 || !likeImages(d.Seize(), was) {
				t.Error("something is changed without power")
			}
		}
		ok(t, d.Boot())
		if d.Down() || len(d.Seize().Cache) != 0 {
			t.Error("no power behind a Boot, or a cache")
		}
		for i := range 8 { // what was armed ahead, or without power, is not armed
			ok(t, d.Write(i, text(i)))
		}
		ok(t, d.Flush())
	}
}

// P8.3: a Boot amid power loses the cache and what is armed, and keeps the blocks.
func TestBoot(t *testing.T) {
	d := must(t, 8)
	ok(t, d.Write(1, text(1)))
	ok(t, d.Flush())
	for range 2 {
		ok(t, d.Write(1, text(2)))
		ok(t, d.Write(2, text(3)))
		ok(t, d.Arm(2))
		ok(t, d.Boot())
		if d.Down() || len(d.Seize().Cache) != 0 {
			t.Error("no power behind a Boot, or a cache")
		}
		has(t, d, 1, text(1))
		has(t, d, 2, noughts())
		ok(t, d.Write(3, text(4)))
		ok(t, d.Write(3, text(5)))
		ok(t, d.Boot())
		has(t, d, 3, noughts())
	}
	// behind an armed step, without a Crash: the cache is lost as a whole
	ok(t, d.Write(1, text(6)))
	ok(t, d.Arm(1))
	refused(t, d.Flush(), api.ErrDown)
	ok(t, d.Boot())
	has(t, d, 1, text(1))
	if now := behind(t, d, 0); now[1] != text(1) {
		t.Error("what a Boot lost is kept by a Crash")
	}
}

// P8.3: what is armed, and not reached, is not armed any more behind a Crash and a Boot.
func TestArmedBoot(t *testing.T) {
	d := must(t, 8)
	ok(t, d.Arm(1))
	ok(t, d.Crash())
	ok(t, d.Boot())
	for i := range 3 {
		ok(t, d.Write(i, text(i)))
		ok(t, d.Flush())
	}
	ok(t, d.Arm(2))
	ok(t, d.Flush())
	ok(t, d.Boot())
	ok(t, d.Flush())
	ok(t, d.Arm(1))
	refused(t, d.Flush(), api.ErrDown)
}

// P8.7: a disk that is made of what was seized shows the same, and goes on the same; the one that was seized goes on by itself.
func TestSeized(t *testing.T) {
	r := rand.New(rand.NewSource(87))
	for range 100 {
		d := must(t, 8)
		for range r.Intn(12) {
			ok(t, d.Write(r.Intn(8), full(r.Intn(256))))
			if r.Intn(5) == 0 {
				ok(t, d.Flush())
			}
		}
		was := shown(t, d)
		if r.Intn(2) == 0 { // with power gone amid it all the same is shown
			ok(t, d.Arm(1))
			refused(t, d.Flush(), api.ErrDown)
		}
		x := d.Seize()
		one, other := loaded(t, x), loaded(t, x)
		if one.Down() || !slices.Equal(shown(t, one), was) || !likeImages(one.Seize(), x) {
			t.Fatal("the disk that is made shows something else")
		}
		keep := []int{r.Intn(12), r.Intn(12), r.Intn(12)}
		ok(t, d.Crash(keep...))
		ok(t, d.Boot())
		if !slices.Equal(shown(t, one), was) {
			t.Fatal("what is done with the seized one shows on the one that is made")
		}
		if !slices.Equal(behind(t, one, keep...), shown(t, d)) {
			t.Fatal("the disk that is made goes on otherwise behind a Crash")
		}
		ok(t, other.Flush())
		if !slices.Equal(shown(t, other), was) {
			t.Fatal("the disk that is made goes on otherwise behind a Flush")
		}
	}
}

// P8.7: nothing is armed on the disk that is made.
func TestSeizedArmed(t *testing.T) {
	d := must(t, 8)
	ok(t, d.Arm(1))
	c := loaded(t, d.Seize())
	ok(t, c.Write(1, text(1)))
	ok(t, c.Flush())
	if refused(t, d.Flush(), api.ErrDown); !d.Down() || c.Down() {
		t.Error("the power of one is the other's")
	}
}

// P8.1: of nil, and of a Disk that no call made.
func TestNone(t *testing.T) {
	var zero disk.Disk
	for _, d := range []*disk.Disk{nil, {}, &zero, new(disk.Disk)} {
		for range 2 { // and once more: nothing was done
			for _, at := range append(far(), 0, 1, 8) {
				if s, e := d.Read(at); s != "" || e != api.ErrNil {
					t.Errorf("Read(%d): %q %d", at, s, e)
				}
				refused(t, d.Write(at, text(1)), api.ErrNil)
				refused(t, d.Write(at, ""), api.ErrNil)
				refused(t, d.Over(at, text(1)), api.ErrNil)
				refused(t, d.Over(at, ""), api.ErrNil)
				refused(t, d.Arm(at), api.ErrNil)
				refused(t, d.Crash(at), api.ErrNil)
			}
			refused(t, d.Flush(), api.ErrNil)
			refused(t, d.Crash(), api.ErrNil)
			refused(t, d.Boot(), api.ErrNil)
			if x := d.Seize(); len(x.Blocks) != 0 || len(x.Cache) != 0 {
				t.Errorf("Seize: %d blocks, %d writes", len(x.Blocks), len(x.Cache))
			}
			if d.Size() != 0 || d.Down() {
				t.Errorf("size %d, down %v", d.Size(), d.Down())
			}
		}
	}
}

// P2: what is refused changes nothing, and is no step.
func TestRefusedIsNothing(t *testing.T) {
	d := must(t, 8)
	ok(t, d.Write(1, text(1)))
	ok(t, d.Arm(2))
	was := d.Seize()
	for range 5 {
		refused(t, d.Write(-1, text(2)), api.ErrRange)
		refused(t, d.Write(8, text(2)), api.ErrRange)
		refused(t, d.Write(1, text(2)[1:]), api.ErrArg)
		refused(t, d.Over(8, text(2)), api.ErrRange)
		refused(t, d.Over(1, "a"), api.ErrArg)
		refused(t, d.Arm(-1), api.ErrArg)
		d.Read(-1)
		d.Read(8)
		d.Read(1)
	}
	if d.Down() || !likeImages(d.Seize(), was) {
		t.Error("what was refused has changed something")
	}
	ok(t, d.Write(1, text(3)))
	refused(t, d.Write(1, text(4)), api.ErrDown)
}
