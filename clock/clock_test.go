package clock_test

import (
	"math"
	"math/rand"
	"slices"
	"testing"

	"keepsake/api"
	"keepsake/clock"
)

const (
	// end is the document's 2^40.
	end   = 1099511627776
	least = math.MinInt64
	most  = math.MaxInt64
)

// inner are times between the bounds, of all sizes.
func inner() []int { return []int{2, 5, 255, 65536, 4294967295, 4294967296, end / 2, end - 2} }

// times are those at both bounds, beyond them, and between; and those beside shown.
func times(shown ...int) []int {
	l := append(inner(), least, least+1, -end-1, -end, -4294967296, -2, -1, 0, 1, end-1, end, end+1, end+2, 2*end, 1<<62, most-1, most)
	for _, t := range shown {
		l = append(l, t-1, t, t+1)
	}
	slices.Sort(l)
	return slices.Compact(l)
}

// starts are what a clock may be made of.
func starts() []int { return append(inner(), 0, 1, end-1, end) }

func must(t *testing.T, now int) *clock.Clock {
	t.Helper()
	c, e := clock.New(now)
	if c == nil || e != api.OK {
		t.Fatalf("New(%d): %v %d", now, c, e)
	}
	return c
}

// made makes a clock and a plain one beside it.
func made(t *testing.T, now int) (*clock.Clock, *plain) {
	t.Helper()
	p, e := plainOf(now)
	if e != api.OK {
		t.Fatalf("%d may not be", now)
	}
	return must(t, now), p
}

// tick tells the clock a time and holds what it answers against what is asked.
func tick(t *testing.T, c *clock.Clock, now int, want api.Errno) {
	t.Helper()
	if e := c.Tick(now); e != want {
		t.Errorf("Tick(%d) of a clock that shows %d: %d, asked %d", now, c.Now(), e, want)
	}
}

// shows holds what a clock tells against what it is to show: Past is to be true of just the times up to it.
func shows(t *testing.T, c *clock.Clock, now int) {
	t.Helper()
	if n := c.Now(); n != now {
		t.Errorf("it shows %d, asked %d", n, now)
	}
	for _, x := range times(now) {
		if past, want := c.Past(x), now >= x; past != want {
			t.Errorf("Past(%d) of a clock that shows %d: %t", x, now, past)
		}
	}
}

// like holds what a clock tells against the plain one.
func like(t *testing.T, c *clock.Clock, p *plain) {
	t.Helper()
	if n := c.Now(); n != p.now() {
		t.Errorf("it shows %d, asked %d", n, p.now())
	}
	for _, x := range times(p.now()) {
		if past, want := c.Past(x), p.past(x); past != want {
			t.Errorf("Past(%d) of a clock that shows %d: %t", x, p.now(), past)
		}
	}
}

// step tells both the same time and holds them against each other.
func step(t *testing.T, c *clock.Clock, p *plain, now int) {
	t.Helper()
	tick(t, c, now, p.tick(now))
	like(t, c, p)
}

// none are clocks that no call made.
func none() map[string]*clock.Clock {
	return map[string]*clock.Clock{"nil": nil, "zero": {}, "new": new(clock.Clock)}
}

// The chapter's example.
func TestExample(t *testing.T) {
	c := must(t, 5)
	tick(t, c, 3, api.ErrBack)
	if n := c.Now(); n != 5 {
		t.Error(n)
	}
}

// P22.1: worked out by hand, and not by the plain clock.
func TestByHand(t *testing.T) {
	c := must(t, 7)
	shows(t, c, 7)
	for _, x := range []struct {
		t     int
		why   api.Errno
		shows int
	}{
		{7, api.OK, 7}, {6, api.ErrBack, 7}, {0, api.ErrBack, 7}, {-1, api.ErrArg, 7}, {8, api.OK, 8}, {7, api.ErrBack, 8},
		{1099511627777, api.ErrArg, 8}, {9223372036854775807, api.ErrArg, 8}, {-9223372036854775808, api.ErrArg, 8},
		{4294967296, api.OK, 4294967296}, {0, api.ErrBack, 4294967296}, {8, api.ErrBack, 4294967296},
		{1099511627775, api.OK, 1099511627775}, {1099511627776, api.OK, 1099511627776}, {1099511627775, api.ErrBack, 1099511627776},
		{1099511627776, api.OK, 1099511627776}, {1099511627777, api.ErrArg, 1099511627776}, {0, api.ErrBack, 1099511627776},
	} {
		tick(t, c, x.t, x.why)
		shows(t, c, x.shows)
	}
	for _, x := range []struct {
		t    int
		past bool
	}{{1099511627776, true}, {1099511627777, false}, {0, true}, {-1, true}, {9223372036854775807, false}, {-9223372036854775808, true}} {
		if c.Past(x.t) != x.past {
			t.Errorf("Past(%d): not %t", x.t, x.past)
		}
	}
}

// P22.1: New at both bounds, beyond them, and between, and what is told of the clock behind it; where it is refused there is none (P1).
func TestNew(t *testing.T) {
	right := 0
	for _, now := range times() {
		c, e := clock.New(now)
		p, want := plainOf(now)
		if e != want || (c == nil) != (p == nil) {
			t.Fatalf("New(%d): %v %d, asked %d", now, c, e, want)
		}
		if c == nil {
			continue
		}
		right++
		like(t, c, p)
		shows(t, c, now)
		tick(t, c, now, api.OK)
		shows(t, c, now)
	}
	if right != len(starts()) {
		t.Errorf("%d times may be, asked %d", right, len(starts()))
	}
	for _, now := range []int{-1, end + 1, least, most} {
		if c, e := clock.New(now); c != nil || e != api.ErrArg {
			t.Errorf("New(%d): %v %d", now, c, e)
		}
	}
}

// P22.1: one Tick of clocks that show each of the times that may be, to all times; Now and Past behind it. What is refused changes nothing (P2): the next Tick is answered as if it had not been.
func TestTick(t *testing.T) {
	for _, now := range starts() {
		for _, to := range times(now) {
			c, p := made(t, now)
			like(t, c, p)
			step(t, c, p, to)
			shows(t, c, p.now())
			for _, next := range times(now, to) {
				c, p := made(t, now)
				step(t, c, p, to)
				step(t, c, p, next)
			}
		}
	}
}

// P22.1: a time that may not be and is less than what the clock shows, too, is ErrArg, be the clock's time whatever.
func TestOrder(t *testing.T) {
	for _, now := range starts() {
		c := must(t, now)
		for _, to := range []int{-1, -2, -end, least + 1, least, end + 1, most - 1, most} {
			tick(t, c, to, api.ErrArg)
		}
		for to := range min(now, 50) {
			tick(t, c, to, api.ErrBack)
			tick(t, c, now-1-to, api.ErrBack)
		}
		shows(t, c, now)
	}
}

// P22.1, P1: of nil, and of a clock that no call made, and these are as they were behind it: even what would be refused of another one is ErrNil.
func TestNone(t *testing.T) {
	for name, c := range none() {
		for _, x := range times() {
			if e := c.Tick(x); e != api.ErrNil {
				t.Errorf("%s: Tick(%d): %d", name, x, e)
			}
			if n := c.Now(); n != 0 {
				t.Errorf("%s: it shows %d behind Tick(%d)", name, n, x)
			}
			for _, y := range times(x) {
				if c.Past(y) {
					t.Errorf("%s: Past(%d) behind Tick(%d)", name, y, x)
				}
			}
		}
		if c != nil && *c != (clock.Clock{}) {
			t.Errorf("%s: it is %v", name, *c)
		}
	}
}

// P22.1: a clock that shows 0 is one that was made.
func TestZero(t *testing.T) {
	c := must(t, 0)
	if c.Now() != 0 || !c.Past(0) || !c.Past(-1) || c.Past(1) {
		t.Error("not at 0")
	}
	tick(t, c, -1, api.ErrArg)
	tick(t, c, 0, api.OK)
	shows(t, c, 0)
	tick(t, c, 1, api.OK)
	shows(t, c, 1)
	tick(t, c, 0, api.ErrBack)
	shows(t, c, 1)
}

// P22.1, P22.3: through each step up to a bound, one by one, and back.
func TestSteps(t *testing.T) {
	for _, now := range []int{0, 4294967290, end - 300} {
		c := must(t, now)
		for x := now; x <= now+300; x++ {
			tick(t, c, x, api.OK)
			shows(t, c, x)
			if x > 0 {
				tick(t, c, x-1, api.ErrBack)
			}
		}
		for x := now + 299; x >= now; x-- {
			tick(t, c, x, api.ErrBack)
		}
		shows(t, c, now+300)
	}
}

// kept is what a clock has shown and what was past, as it was asked on the way.
type kept struct {
	shown int
	past  []int
}

// on holds a clock against what it has shown: never less, and what was past is so still (P22.3).
func (k *kept) on(t *testing.T, c *clock.Clock, asked []int) {
	t.Helper()
	n := c.Now()
	if n < k.shown {
		t.Fatalf("it shows %d behind %d", n, k.shown)
	}
	k.shown = n
	for _, x := range k.past {
		if !c.Past(x) {
			t.Fatalf("%d is past no more", x)
		}
	}
	for _, x := range asked {
		if c.Past(x) {
			k.past = append(k.past, x)
		}
	}
	slices.Sort(k.past)
	k.past = slices.Compact(k.past)
}

// anyTime is a time at random: mostly near to what is shown, and else small, great, at a bound, or one that may not be.
func anyTime(r *rand.Rand, shown int) int {
	switch r.Intn(40) {
	case 0:
		return int(r.Uint64())
	case 1:
		return r.Intn(end + 1)
	case 2:
		l := times()
		return l[r.Intn(len(l))]
	case 3:
		return r.Intn(20)
	case 4:
		return end - 4 + r.Intn(7)
	default:
		return shown - 3 + r.Intn(8)
	}
}

// P22.1, P22.3: rows of Ticks at random, taken and refused, against the plain clock.
func TestRows(t *testing.T) {
	r := rand.New(rand.NewSource(22))
	taken, refused := 0, 0
	for range 300 {
		c, p := made(t, starts()[r.Intn(len(starts()))])
		var k kept
		for range 80 {
			x := anyTime(r, p.now())
			had := len(p.took)
			step(t, c, p, x)
			if len(p.took) > had {
				taken++
			} else {
				refused++
			}
			k.on(t, c, []int{x, anyTime(r, p.now())})
		}
	}
	if taken < 5000 || refused < 5000 {
		t.Errorf("%d taken, %d refused", taken, refused)
	}
}

// P22.1: all rows of four Ticks of few times, from each of them on.
func TestAllRows(t *testing.T) {
	few := []int{-1, 0, 1, 2, end, end + 1}
	rows := int(math.Pow(float64(len(few)), 4))
	for _, now := range []int{0, 1, 2, end} {
		for row := range rows {
			c, p := made(t, now)
			var k kept
			for range 4 {
				x := few[row%len(few)]
				row /= len(few)
				tick(t, c, x, p.tick(x))
				if c.Now() != p.now() {
					t.Fatalf("it shows %d, asked %d", c.Now(), p.now())
				}
				k.on(t, c, few)
			}
			like(t, c, p)
		}
	}
}

// P22.1: Now and Past turn nothing, however often and of whatever they are asked.
func TestAsked(t *testing.T) {
	for _, now := range starts() {
		c := must(t, now)
		for range 3 {
			shows(t, c, now)
		}
		tick(t, c, now, api.OK)
		shows(t, c, now)
	}
}

// P22.1: two clocks side by side: what one is told the other does not know.
func TestApart(t *testing.T) {
	for _, now := range starts() {
		told, other := must(t, now), must(t, now)
		later := must(t, 0)
		for _, x := range times(now) {
			told.Tick(x)
			shows(t, other, now)
			shows(t, later, 0)
		}
		shows(t, told, end)
		tick(t, other, now, api.OK)
		shows(t, other, now)
		tick(t, later, 1, api.OK)
		shows(t, later, 1)
		shows(t, told, end)
		if told == other {
			t.Error("they are one")
		}
	}
}

// P22.2: any two times, in either order, against the words, and by what follows from them: from 0 to 2^40, not less than either as far as that may be, and one of those that were handed in or of the bounds.
func TestClamp(t *testing.T) {
	l := times()
	for _, a := range l {
		for _, b := range l {
			got := clock.Clamp(a, b)
			if want := clamp(a, b); got != want || clock.Clamp(b, a) != want {
				t.Errorf("Clamp(%d, %d): %d and %d, asked %d", a, b, got, clock.Clamp(b, a), want)
			}
			if got < 0 || got > end || (got < a || got < b) && got != end || !slices.Contains([]int{a, b, 0, end}, got) {
				t.Errorf("Clamp(%d, %d): %d", a, b, got)
			}
			if _, e := clock.New(got); e != api.OK {
				t.Errorf("Clamp(%d, %d): no clock shows %d", a, b, got)
			}
		}
	}
}

// P22.2: worked out by hand.
func TestClampByHand(t *testing.T) {
	for _, x := range [][3]int{
		{0, 0, 0}, {-1, 0, 0}, {-1, -1, 0}, {1, 0, 1}, {1, -1, 1}, {1, 1, 1}, {5, 3, 5}, {5, 5, 5}, {5, 8, 8},
		{least, least, 0}, {least, -1, 0}, {least, 5, 5}, {least, most, end}, {most, most, end}, {most, 5, end}, {most, -1, end},
		{end, end, end}, {end, 0, end}, {end - 1, 5, end - 1}, {end - 1, end, end}, {end + 1, 0, end}, {end + 1, end, end}, {end + 1, least, end},
	} {
		if a, b := clock.Clamp(x[0], x[1]), clock.Clamp(x[1], x[0]); a != x[2] || b != x[2] {
			t.Errorf("Clamp(%d, %d): %d, and %d the other way round, asked %d", x[0], x[1], a, b, x[2])
		}
	}
}

// P22.2: at random, against the words.
func TestClampRandom(t *testing.T) {
	r := rand.New(rand.NewSource(222))
	for range 20000 {
		a := anyTime(r, r.Intn(end+1))
		b := anyTime(r, a)
		if got, want := clock.Clamp(a, b), clamp(a, b); got != want {
			t.Fatalf("Clamp(%d, %d): %d, asked %d", a, b, got, want)
		}
	}
}

func FuzzCalls(f *testing.F) {
	f.Add(5, 3, 1, "ttt")
	f.Add(0, 0, 1, "tutvtwt")
	f.Add(end, end, -1, "tutu")
	f.Add(end-3, end-3, 1, "tutututut")
	f.Add(-1, -1, 1, "tut")
	f.Add(end+1, least, most, "tut")
	f.Add(most, most, 1, "tut")
	f.Add(least, most, least, "wtut")
	f.Fuzz(func(t *testing.T, now, to, by int, turns string) {
		if got, want := clock.Clamp(now, to), clamp(now, to); got != want || clock.Clamp(to, now) != want {
			t.Fatalf("Clamp(%d, %d): %d, asked %d", now, to, got, want)
		}
		c, e := clock.New(now)
		p, want := plainOf(now)
		if e != want || (c == nil) != (p == nil) {
			t.Fatalf("New(%d): %v %d, asked %d", now, c, e, want)
		}
		if p == nil {
			p = &plain{}
		}
		var k kept
		for _, turn := range []byte(turns[:min(len(turns), 40)]) {
			switch turn % 4 {
			case 0:
				step(t, c, p, to)
			case 1:
				to += by
			case 2:
				to = p.now() + int(turn) - 9
			default:
				to, by = by, to
			}
			k.on(t, c, []int{to, by})
		}
	})
}
