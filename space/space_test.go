package space_test

import (
	"math"
	"math/rand"
	"slices"
	"testing"

	"keepsake/api"
	"keepsake/space"
)

// last is the document's 2^32 - 1.
const last = 4294967295

// far are numbers that no count of blocks has.
func far() []int {
	return []int{math.MinInt64, math.MinInt64 + 1, -last - 1, -1024, -5, -4, -2, -1, 2048, last, last + 1, math.MaxInt64 - 1, math.MaxInt64}
}

// counts are those at both bounds of a shape that has so many blocks for data, beyond them, and between.
func counts(data int) []int {
	l := append(far(), 0, 1, 2, data/2, data-2, data-1, data, data+1, data+2, data+3, data+4, data+5)
	slices.Sort(l)
	return slices.Compact(l)
}

// right are shapes that may be, of the fewest and of the most blocks, and between.
func right() []api.Geo {
	return []api.Geo{
		{Blocks: 8, Lbas: 1, First: 0},
		{Blocks: 8, Lbas: 4096, First: last},
		{Blocks: 9, Lbas: 16, First: 7},
		{Blocks: 10, Lbas: 1, First: last - 1},
		{Blocks: 100, Lbas: 4095, First: 1 << 31},
		{Blocks: 1023, Lbas: 2, First: 1},
		{Blocks: 1024, Lbas: 1, First: last},
		{Blocks: 1024, Lbas: 4096, First: 0},
	}
}

// small is one of 8 blocks, of which four are for data.
func small() api.Geo { return api.Geo{Blocks: 8, Lbas: 16, First: 3} }

func wantNew(g api.Geo, used int) bool {
	shape := g.Blocks >= 8 && g.Blocks <= 1024 && g.Lbas >= 1 && g.Lbas <= 4096 && g.First >= 0 && g.First <= last
	return shape && used >= 0 && used <= g.Blocks-4
}

func must(t *testing.T, g api.Geo, used int) *space.Space {
	t.Helper()
	s, e := space.New(g, used)
	if s == nil || e != api.OK {
		t.Fatalf("New(%v, %d): %v %d", g, used, s, e)
	}
	return s
}

func ok(t *testing.T, e api.Errno) {
	t.Helper()
	if e != api.OK {
		t.Fatal("refused:", e)
	}
}

// tells holds what a space tells against numbers that were worked out by hand.
func tells(t *testing.T, s *space.Space, used, room int, open bool) {
	t.Helper()
	if u, r, o := s.Used(), s.Room(), s.Open(); u != used || r != room || o != open {
		t.Errorf("used %d, room %d, open %t, asked %d %d %t", u, r, o, used, room, open)
	}
}

// gives and refuses hold what Take or Close answered against what is asked.
func gives(t *testing.T, call func() (int, api.Errno), want int) {
	t.Helper()
	if n, e := call(); n != want || e != api.OK {
		t.Errorf("gave %d %d, asked %d", n, e, want)
	}
}

func refuses(t *testing.T, call func() (int, api.Errno), want api.Errno) {
	t.Helper()
	if n, e := call(); n != 0 || e != want {
		t.Errorf("gave %d %d, asked 0 %d", n, e, want)
	}
}

// plain is a space as the chapter's words tell it once more: the numbers that are taken, and those that are left, in their order.
type plain struct{ taken, left []int }

func plainOf(data, used int) *plain {
	p := &plain{}
	for i := range data {
		p.left = append(p.left, i)
	}
	p.taken, p.left = slices.Clone(p.left[:used]), p.left[used:]
	return p
}

// give takes a number, if more are left than are kept.
func (p *plain) give(kept int, why api.Errno) (int, api.Errno) {
	if len(p.left) <= kept {
		return 0, why
	}
	n := p.left[0]
	p.taken, p.left = append(p.taken, n), p.left[1:]
	return n, api.OK
}

func (p *plain) back(used int) api.Errno {
	if used < 0 || used > len(p.taken) {
		return api.ErrArg
	}
	p.left = append(slices.Clone(p.taken[used:]), p.left...)
	p.taken = p.taken[:used]
	return api.OK
}

// like holds what a space tells against the plain one.
func like(t *testing.T, s *space.Space, p *plain) {
	t.Helper()
	room := 0
	if len(p.left) > 1 {
		room = len(p.left) - 1
	}
	tells(t, s, len(p.taken), room, len(p.left) > 0)
}

// The calls that turn a space, as numbers: from back on they give back, of back itself up to none.
const (
	take = iota
	closing
	back
)

// step does one call on both and holds what they answer, and what the space tells then, against each other.
func step(t *testing.T, s *space.Space, p *plain, call int) {
	t.Helper()
	n, m, e, f := 0, 0, api.OK, api.OK
	switch call {
	case take:
		n, e = s.Take()
		m, f = p.give(1, api.ErrFull)
	case closing:
		n, e = s.Close()
		m, f = p.give(0, api.ErrLimit)
	default:
		e, f = s.Back(call-back), p.back(call-back)
	}
	if n != m || e != f {
		t.Errorf("call %d: gave %d %d, asked %d %d", call, n, e, m, f)
	}
	like(t, s, p)
}

func TestExample(t *testing.T) {
	s := must(t, api.Geo{Blocks: 8, Lbas: 1}, 0)
	for want := range 3 {
		gives(t, s.Take, want)
	}
	refuses(t, s.Take, api.ErrFull)
	gives(t, s.Close, 3)
	if s.Open() {
		t.Error("an epoch is open")
	}
	refuses(t, s.Close, api.ErrLimit)
}

// P13.1: shapes that may be, and how many are taken from the start on.
func TestNew(t *testing.T) {
	for _, g := range right() {
		for _, used := range counts(g.Blocks - 4) {
			checkNew(t, g, used)
		}
	}
}

// P13.1: by hand.
func TestNewByHand(t *testing.T) {
	for _, c := range []struct {
		blocks, used, room int
		open               bool
	}{
		{8, 0, 3, true}, {8, 1, 2, true}, {8, 2, 1, true}, {8, 3, 0, true}, {8, 4, 0, false},
		{9, 0, 4, true}, {9, 4, 0, true}, {9, 5, 0, false},
		{1024, 0, 1019, true}, {1024, 1, 1018, true}, {1024, 1018, 1, true}, {1024, 1019, 0, true}, {1024, 1020, 0, false},
	} {
		tells(t, must(t, api.Geo{Blocks: c.blocks, Lbas: 1}, c.used), c.used, c.room, c.open)
	}
	for _, c := range []struct{ blocks, used int }{{8, -1}, {8, 5}, {8, 8}, {9, 6}, {1024, 1021}, {1024, 1024}, {7, 0}, {7, 3}, {1025, 0}} {
		if s, e := space.New(api.Geo{Blocks: c.blocks, Lbas: 1}, c.used); s != nil || e != api.ErrArg {
			t.Errorf("New of %d blocks, %d: %v %d", c.blocks, c.used, s, e)
		}
	}
}

// P13.1: each number of the shape at its bounds and beyond, whatever the others are.
func TestNewShapes(t *testing.T) {
	for _, blocks := range append(far(), 0, 1, 4, 7, 8, 9, 1023, 1024, 1025) {
		for _, lbas := range append(far(), 0, 1, 2, 4095, 4096, 4097) {
			for _, first := range append(far(), 0, 1, last-1) {
				for _, used := range []int{math.MinInt64, -1, 0, 1, 4, blocks - 5, blocks - 4, blocks - 3, math.MaxInt64} {
					checkNew(t, api.Geo{Blocks: blocks, Lbas: lbas, First: first}, used)
				}
			}
		}
	}
}

// checkNew holds New of whatever it is given against what is asked.
func checkNew(t *testing.T, g api.Geo, used int) {
	t.Helper()
	s, e := space.New(g, used)
	if !wantNew(g, used) {
		if s != nil || e != api.ErrArg {
			t.Errorf("New(%v, %d): %v %d", g, used, s, e)
		}
		return
	}
	if s == nil || e != api.OK {
		t.Fatalf("New(%v, %d): %v %d", g, used, s, e)
	}
	like(t, s, plainOf(g.Blocks-4, used))
}

// P13.1: of nil, and of a Space that no call made, also behind calls that it refused.
func TestNone(t *testing.T) {
	var none *space.Space
	for what, s := range map[string]*space.Space{"nil": none, "a Space": {}, "a new one": new(space.Space)} {
		for range 3 {
			refuses(t, s.Take, api.ErrNil)
			refuses(t, s.Close, api.ErrNil)
			for _, used := range append(far(), 0, 1, 4) {
				if e := s.Back(used); e != api.ErrNil {
					t.Errorf("Back(%d) of %s: %d", used, what, e)
				}
			}
			tells(t, s, 0, 0, false)
		}
	}
	refusedOne, _ := space.New(small(), 5)
	refuses(t, refusedOne.Take, api.ErrNil)
	tells(t, refusedOne, 0, 0, false)
}

// P13.2, P13.5: Take until it is refused, and once more; then Close, until it is refused, and once more; then both.
func TestTakeAll(t *testing.T) {
	for _, g := range right() {
		data := g.Blocks - 4
		for _, used := range []int{0, 1, 2, data - 2, data - 1, data} {
			s, p := must(t, g, used), plainOf(data, used)
			for range data - used - 1 {
				gives(t, s.Take, len(p.taken))
				p.give(1, api.ErrFull)
				like(t, s, p)
			}
			for range 2 {
				refuses(t, s.Take, api.ErrFull)
				like(t, s, p)
			}
			if used < data {
				tells(t, s, data-1, 0, true)
				gives(t, s.Close, data-1)
			}
			for range 2 {
				tells(t, s, data, 0, false)
				refuses(t, s.Close, api.ErrLimit)
				tells(t, s, data, 0, false)
				refuses(t, s.Take, api.ErrFull)
			}
		}
	}
}

// P13.2, P13.5: Close until it is refused, and once more; behind each of them Take is what is left for it.
func TestCloseAll(t *testing.T) {
	for _, g := range right() {
		data := g.Blocks - 4
		for _, used := range []int{0, 1, data - 1, data} {
			s, p := must(t, g, used), plainOf(data, used)
			for range data - used {
				like(t, s, p)
				gives(t, s.Close, len(p.taken))
				p.give(0, api.ErrLimit)
			}
			for range 2 {
				refuses(t, s.Close, api.ErrLimit)
				tells(t, s, data, 0, false)
				refuses(t, s.Take, api.ErrFull)
				tells(t, s, data, 0, false)
			}
		}
	}
}

// P13.2: by hand, closings amid what is taken.
func TestCloseAmid(t *testing.T) {
	s := must(t, api.Geo{Blocks: 10, Lbas: 1}, 1)
	tells(t, s, 1, 4, true)
	gives(t, s.Take, 1)
	tells(t, s, 2, 3, true)
	gives(t, s.Close, 2)
	tells(t, s, 3, 2, true)
	gives(t, s.Close, 3)
	tells(t, s, 4, 1, true)
	gives(t, s.Take, 4)
	tells(t, s, 5, 0, true)
	refuses(t, s.Take, api.ErrFull)
	tells(t, s, 5, 0, true)
	gives(t, s.Close, 5)
	tells(t, s, 6, 0, false)
	refuses(t, s.Take, api.ErrFull)
	refuses(t, s.Close, api.ErrLimit)
	tells(t, s, 6, 0, false)
}

// P13.3: what is given back is given out again; all else is refused, and turns nothing.
func TestBack(t *testing.T) {
	for _, g := range right() {
		data := g.Blocks - 4
		for _, used := range []int{0, 1, 3, data - 1, data} {
			for _, to := range append(counts(data), used-1, used, used+1) {
				s, p := must(t, g, used), plainOf(data, used)
				want := api.OK
				if to < 0 || to > used {
					want = api.ErrArg
				}
				if e := s.Back(to); e != want {
					t.Errorf("Back(%d) of %d: %d, asked %d", to, used, e, want)
				}
				p.back(to)
				like(t, s, p)
				for range 3 {
					step(t, s, p, take)
				}
				for range 3 {
					step(t, s, p, closing)
				}
			}
		}
	}
}

// P13.3: by hand, also where none was left, and more than once.
func TestBackByHand(t *testing.T) {
	s := must(t, small(), 4)
	tells(t, s, 4, 0, false)
	ok(t, s.Back(4))
	tells(t, s, 4, 0, false)
	ok(t, s.Back(3))
	tells(t, s, 3, 0, true)
	if e := s.Back(4); e != api.ErrArg {
		t.Error("Back of more than are taken:", e)
	}
	tells(t, s, 3, 0, true)
	refuses(t, s.Take, api.ErrFull)
	ok(t, s.Back(1))
	tells(t, s, 1, 2, true)
	gives(t, s.Take, 1)
	gives(t, s.Take, 2)
	refuses(t, s.Take, api.ErrFull)
	gives(t, s.Close, 3)
	refuses(t, s.Close, api.ErrLimit)
	ok(t, s.Back(0))
	tells(t, s, 0, 3, true)
	ok(t, s.Back(0))
	tells(t, s, 0, 3, true)
	if e := s.Back(-1); e != api.ErrArg {
		t.Error("Back(-1):", e)
	}
	gives(t, s.Close, 0)
	gives(t, s.Take, 1)
	tells(t, s, 2, 1, true)
}

// P13.2, P13.3, P2: all rows of five calls, from each number on that may be taken at the start.
func TestAnyOrder(t *testing.T) {
	calls := []int{take, closing, back + math.MinInt64, back - 1, back, back + 1, back + 2, back + 3, back + 4, back + 5, back + last}
	for used := range 5 {
		for row := range len(calls) * len(calls) * len(calls) * len(calls) * len(calls) {
			s, p := must(t, small(), used), plainOf(4, used)
			like(t, s, p)
			for range 5 {
				step(t, s, p, calls[row%len(calls)])
				row /= len(calls)
			}
		}
		if t.Failed() {
			return
		}
	}
}

// P13.2 to P13.5, P2: long rows of calls on one space, of which no few are refused.
func TestLong(t *testing.T) {
	r := rand.New(rand.NewSource(13))
	for _, g := range right() {
		data := g.Blocks - 4
		for range 20 {
			used := r.Intn(data + 1)
			s, p := must(t, g, used), plainOf(data, used)
			for range 300 {
				call := r.Intn(2)
				if r.Intn(8) == 0 {
					call = back + len(p.taken) - r.Intn(12) + 3
				}
				for range 1 + r.Intn(5) {
					step(t, s, p, call)
				}
			}
		}
	}
}

// P13.4: an epoch that is open can be closed, whatever was taken, and how.
func TestClosing(t *testing.T) {
	r := rand.New(rand.NewSource(4))
	for _, g := range right() {
		data := g.Blocks - 4
		for used := range data + 1 {
			s := must(t, g, used)
			for range r.Intn(4) {
				s.Take()
			}
			for r.Intn(4) == 0 {
				s.Close()
			}
			open, at := s.Open(), s.Used()
			n, e := s.Close()
			if open != (e == api.OK) || open != (at < data) || open && n != at {
				t.Errorf("%d of %d are taken, open %t: Close gives %d %d", at, data, open, n, e)
			}
		}
	}
}

// P13.4, P13.5: each number is given out once, one behind the other, from what New was given on, and no more than there are.
func TestNumbers(t *testing.T) {
	r := rand.New(rand.NewSource(5))
	for _, g := range right() {
		data := g.Blocks - 4
		for range 20 {
			used := r.Intn(data + 1)
			s := must(t, g, used)
			var got []int
			for range 3 * data {
				call := s.Take
				if r.Intn(3) == 0 {
					call = s.Close
				}
				if n, e := call(); e == api.OK {
					got = append(got, n)
				}
			}
			if len(got) != data-used {
				t.Errorf("%d of %d were given out behind %d", len(got), data, used)
			}
			for i, n := range got {
				if n != used+i {
					t.Errorf("number %d is %d, asked %d", i, n, used+i)
				}
			}
			if s.Used() != data || s.Open() {
				t.Errorf("used %d of %d, open %t", s.Used(), data, s.Open())
			}
		}
	}
}

// P13.5: whatever they are taken for, all are closings in one space, and all but the last one are not in the other.
func TestAsMany(t *testing.T) {
	for _, g := range right() {
		a, b, data := must(t, g, 0), must(t, g, 0), g.Blocks-4
		for i := range data {
			gives(t, a.Close, i)
			if i < data-1 {
				gives(t, b.Take, i)
			}
		}
		refuses(t, b.Take, api.ErrFull)
		gives(t, b.Close, data-1)
		refuses(t, a.Close, api.ErrLimit)
		refuses(t, b.Close, api.ErrLimit)
	}
}

// P13.4: what was given back may be given out twice, and nothing else.
func TestTwice(t *testing.T) {
	r := rand.New(rand.NewSource(6))
	for _, g := range right() {
		s := must(t, g, 0)
		out := map[int]bool{}
		for range 4000 {
			if r.Intn(10) == 0 {
				to := s.Used() - r.Intn(9)
				if s.Back(to) == api.OK {
					for n := range out {
						if n >= to {
							delete(out, n)
						}
					}
				}
				continue
			}
			call := s.Take
			if r.Intn(3) == 0 {
				call = s.Close
			}
			n, e := call()
			if e == api.OK && (out[n] || n != len(out)) {
				t.Fatalf("%d is given out, where %d are", n, len(out))
			}
			if e == api.OK {
				out[n] = true
			}
		}
	}
}

// Two spaces of one shape, and the shape itself, have nothing of each other.
func TestApart(t *testing.T) {
	g := small()
	a, b := must(t, g, 1), must(t, g, 1)
	gives(t, a.Take, 1)
	gives(t, a.Take, 2)
	tells(t, b, 1, 2, true)
	gives(t, a.Close, 3)
	tells(t, b, 1, 2, true)
	gives(t, b.Take, 1)
	tells(t, a, 4, 0, false)
	ok(t, a.Back(0))
	tells(t, b, 2, 1, true)
	g.Blocks = 1024
	tells(t, a, 0, 3, true)
	tells(t, b, 2, 1, true)
	tells(t, must(t, g, 1), 1, 1018, true)
	if small() != (api.Geo{Blocks: 8, Lbas: 16, First: 3}) {
		t.Error("the shape was turned")
	}
}

// P13.2: where its places and its first epoch are turns nothing of what a space answers.
func TestShapeElse(t *testing.T) {
	for _, lbas := range []int{1, 2, 4095, 4096} {
		for _, first := range []int{0, 1, last - 1, last} {
			s, p := must(t, api.Geo{Blocks: 9, Lbas: lbas, First: first}, 0), plainOf(5, 0)
			for _, call := range []int{take, closing, take, take, closing, closing, take, back + 2, closing, take, back + 9, closing, closing, closing} {
				step(t, s, p, call)
			}
		}
	}
}

// P1: whatever is handed in, the answers are those of the chapter's words.
func FuzzCalls(f *testing.F) {
	f.Add(8, 1, 0, 0, 2, "tttttccbtc")
	f.Add(1024, 4096, last, 1019, 1019, "tcbctcbtc")
	f.Add(1024, 4096, last+1, 0, -1, "tcb")
	f.Add(9, 16, 7, 5, 6, "btcbt")
	f.Add(7, 0, -1, 1, math.MinInt64, "t")
	f.Add(math.MaxInt64, math.MinInt64, math.MaxInt64, math.MinInt64, math.MaxInt64, "")
	f.Fuzz(func(t *testing.T, blocks, lbas, first, used, to int, calls string) {
		g := api.Geo{Blocks: blocks, Lbas: lbas, First: first}
		checkNew(t, g, used)
		s, e := space.New(g, used)
		if e != api.OK {
			return
		}
		p := plainOf(blocks-4, used)
		for _, c := range []byte(calls) {
			switch c {
			case 't':
				step(t, s, p, take)
			case 'c':
				step(t, s, p, closing)
			case 'b':
				if e, f := s.Back(to), p.back(to); e != f {
					t.Errorf("Back(%d): %d, asked %d", to, e, f)
				}
			default:
				step(t, s, p, back+int(c)-9)
			}
			like(t, s, p)
		}
	})
}
