package retain_test

import (
	"fmt"
	"math"
	"math/rand"
	"slices"
	"strconv"
	"strings"
	"testing"

	"keepsake/api"
	"keepsake/retain"
)

const (
	least = math.MinInt64
	most  = math.MaxInt64
)

var root = strings.Repeat("r", 32)

// Records of each kind.

func closeAt(epoch, time int) api.Record {
	return api.Record{Kind: closing, Epoch: epoch, Time: time, Count: 3, Root: root}
}

func keep(epoch, time, target, until int) api.Record {
	return api.Record{Kind: retaining, Epoch: epoch, Time: time, Target: target, Until: until}
}

func hold(epoch, time, target int, name string) api.Record {
	return api.Record{Kind: holding, Epoch: epoch, Time: time, Target: target, Name: name}
}

func release(epoch, time int, name string) api.Record {
	return api.Record{Kind: releasing, Epoch: epoch, Time: time, Name: name}
}

func purge(epoch, time, target, until int) api.Record {
	return api.Record{Kind: purging, Epoch: epoch, Time: time, Target: target, Until: until}
}

func must(t *testing.T, first int) *retain.Book {
	t.Helper()
	b, e := retain.New(first)
	if b == nil || e != api.OK {
		t.Fatalf("New(%d): %v %d", first, b, e)
	}
	return b
}

// made makes a book that took all these records, and a plain one beside it.
func made(t *testing.T, first int, l ...api.Record) (*retain.Book, *plain) {
	t.Helper()
	p, e := plainOf(first)
	if e != api.OK {
		t.Fatalf("%d may not be", first)
	}
	b := must(t, first)
	for _, r := range l {
		if e := p.apply(r); e != api.OK {
			t.Fatalf("%v is refused: %d", r, e)
		}
		takes(t, b, r, api.OK)
	}
	return b, p
}

// may holds what May answers against what is asked, and asks twice, as May changes nothing.
func may(t *testing.T, b *retain.Book, r api.Record, want api.Errno) {
	t.Helper()
	for range 2 {
		if e := b.May(r); e != want {
			t.Fatalf("May(%v): %d, asked %d", r, e, want)
		}
	}
}

func takes(t *testing.T, b *retain.Book, r api.Record, want api.Errno) {
	t.Helper()
	if e := b.Apply(r); e != want {
		t.Fatalf("Apply(%v): %d, asked %d", r, e, want)
	}
}

// told is what a book tells: of all of it, and of an epoch.
type told struct{ epoch, now, holds int }

type of struct {
	until int
	held  string
	gone  bool
}

// is holds what a book tells of all of it against what is asked.
func is(t *testing.T, b *retain.Book, want told) {
	t.Helper()
	if got := (told{b.Epoch(), b.Now(), b.Holds()}); got != want {
		t.Fatalf("it tells %v, asked %v", got, want)
	}
}

// has holds what a book tells of an epoch against what is asked; names stand behind each other with a blank between.
func has(t *testing.T, b *retain.Book, epoch int, want of) {
	t.Helper()
	if got := (of{b.Until(epoch), strings.Join(b.Held(epoch), " "), b.Gone(epoch)}); got != want {
		t.Fatalf("of %d it tells %v, asked %v", epoch, got, want)
	}
}

// farEpochs are epochs at the bounds, beyond them, and between.
func farEpochs() []int {
	return []int{least, -lastEpoch - 1, -1, 0, 1, 2, 1 << 31, lastEpoch - 1, lastEpoch, lastEpoch + 1, lastEpoch + 2, lastTime, most}
}

// epochs are those that may make a difference: at the bounds, and all about the ones that were ever meant or open.
func epochs(p *plain) []int {
	l := append(farEpochs(), p.first-1, p.first, p.first+1)
	for _, r := range p.took {
		l = append(l, r.Epoch, r.Epoch+1, r.Target, r.Target+1)
	}
	slices.Sort(l)
	return slices.Compact(l)
}

// like holds all that a book tells against the plain one.
func like(t *testing.T, b *retain.Book, p *plain) {
	t.Helper()
	is(t, b, told{p.epoch(), p.now(), p.holds()})
	for _, epoch := range epochs(p) {
		has(t, b, epoch, of{p.until(epoch), strings.Join(p.held(epoch), " "), p.gone(epoch)})
	}
}

// step asks both of a record, and lets both take it. What only asks, and what is refused, changes nothing.
func step(t *testing.T, b *retain.Book, p *plain, r api.Record) api.Errno {
	t.Helper()
	want := p.may(r)
	may(t, b, r, want)
	like(t, b, p)
	takes(t, b, r, want)
	p.apply(r)
	like(t, b, p)
	return want
}

// none are books that no call made.
func none() map[string]*retain.Book {
	return map[string]*retain.Book{"nil": nil, "zero": {}, "new": new(retain.Book)}
}

// The chapter's example.
func TestExample(t *testing.T) {
	b := must(t, 0)
	takes(t, b, closeAt(0, 0), api.OK)
	takes(t, b, keep(1, 0, 0, 9), api.OK)
	may(t, b, purge(1, 5, 0, 9), api.ErrEarly)
	takes(t, b, purge(1, 5, 0, 9), api.ErrEarly)
	if b.Gone(0) {
		t.Error("it was purged")
	}
	takes(t, b, purge(1, 9, 0, 9), api.OK)
	if !b.Gone(0) {
		t.Error("it was not purged")
	}
}

// P23.1: New at both bounds, beyond them, and between, with what is told of the book behind it; where it is refused there is none (P1).
func TestNew(t *testing.T) {
	for _, first := range []int{0, 1, 2, 1 << 31, 4294967294, 4294967295} {
		b, p := made(t, first)
		is(t, b, told{first, 0, 0})
		like(t, b, p)
		for _, epoch := range append(farEpochs(), first-1, first, first+1) {
			has(t, b, epoch, of{})
			if l := b.Held(epoch); len(l) != 0 {
				t.Errorf("Held(%d): %q", epoch, l)
			}
		}
		may(t, b, closeAt(first, 0), api.OK)
		may(t, b, closeAt(first, lastTime), api.OK)
		may(t, b, release(first, 0, "a"), api.ErrNone)
	}
	for _, first := range []int{-1, 4294967296, 4294967297, least, least + 1, -4294967296, lastTime, most - 1, most} {
		if b, e := retain.New(first); b != nil || e != api.ErrArg {
			t.Errorf("New(%d): %v %d", first, b, e)
		}
	}
}

// right are records of each kind which the book of shelf takes.
func right() []api.Record {
	return []api.Record{closeAt(9, 20), keep(9, 20, 8, 40), hold(9, 20, 8, "new"), release(9, 20, "a"), purge(9, 20, 8, 0)}
}

// shelf is a book from 5 on, in whose open epoch, 9, it is 20: 5 must be kept until 30, and is held; 6 was purged; 7 must be kept until 10; of 8 nothing was said; "gone" was released.
func shelf() []api.Record {
	return []api.Record{
		closeAt(5, 1), closeAt(6, 2), closeAt(7, 3), closeAt(8, 4),
		keep(9, 5, 5, 30), hold(9, 6, 5, "a"), keep(9, 7, 6, 7), purge(9, 8, 6, 7), keep(9, 9, 7, 10),
		hold(9, 10, 7, "gone"), release(9, 20, "gone"),
	}
}

// P23.2: worked out by hand, and not by the plain book: each answer by each kind that can have it.
func TestByHand(t *testing.T) {
	b, _ := made(t, 5, shelf()...)
	looks := func() {
		t.Helper()
		is(t, b, told{9, 20, 1})
		for epoch, want := range map[int]of{4: {}, 5: {30, "a", false}, 6: {7, "", true}, 7: {10, "", false}, 8: {}, 9: {}, 10: {}} {
			has(t, b, epoch, want)
		}
	}
	looks()
	for _, x := range []struct {
		r   api.Record
		why api.Errno
	}{
		{closeAt(9, 20), api.OK}, {closeAt(9, 21), api.OK}, {closeAt(9, lastTime), api.OK},
		{closeAt(9, 19), api.ErrChain}, {closeAt(8, 20), api.ErrChain}, {closeAt(10, 20), api.ErrChain}, {closeAt(9, 0), api.ErrChain},
		{closeAt(9, lastTime+1), api.ErrArg}, {closeAt(9, -1), api.ErrArg}, {closeAt(-1, 20), api.ErrArg}, {closeAt(lastEpoch+1, 20), api.ErrArg},

		{keep(9, 20, 5, 30), api.OK}, {keep(9, 20, 5, 31), api.OK}, {keep(9, 20, 5, 29), api.ErrLess}, {keep(9, 20, 5, 0), api.ErrLess}, {keep(9, 20, 5, lastTime), api.OK},
		{keep(9, 20, 7, 9), api.ErrLess}, {keep(9, 20, 7, 10), api.OK}, {keep(9, 20, 7, 11), api.OK}, {keep(9, 20, 8, 0), api.OK}, {keep(9, 20, 8, 1), api.OK},
		{keep(9, 20, 4, 30), api.ErrNone}, {keep(9, 20, 0, 30), api.ErrNone}, {keep(9, 20, 6, 30), api.ErrPurged}, {keep(9, 20, 6, 7), api.ErrPurged}, {keep(9, 20, 6, 6), api.ErrPurged},
		{keep(9, 19, 5, 30), api.ErrChain}, {keep(8, 20, 5, 30), api.ErrChain}, {keep(10, 20, 5, 30), api.ErrChain},
		{keep(9, 20, 9, 30), api.ErrArg}, {keep(9, 20, 10, 30), api.ErrArg}, {keep(9, 20, -1, 30), api.ErrArg}, {keep(9, 20, 5, -1), api.ErrArg}, {keep(9, 20, 5, lastTime+1), api.ErrArg},

		{hold(9, 20, 5, "b"), api.OK}, {hold(9, 20, 7, "b"), api.OK}, {hold(9, 20, 8, "gone"), api.OK}, {hold(9, 20, 7, "gone"), api.OK},
		{hold(9, 20, 5, "a"), api.ErrTwice}, {hold(9, 20, 7, "a"), api.ErrTwice}, {hold(9, 20, 6, "a"), api.ErrPurged}, {hold(9, 20, 6, "b"), api.ErrPurged},
		{hold(9, 20, 4, "a"), api.ErrNone}, {hold(9, 20, 4, "b"), api.ErrNone}, {hold(9, 20, 0, "b"), api.ErrNone},
		{hold(9, 19, 5, "b"), api.ErrChain}, {hold(8, 20, 5, "b"), api.ErrChain}, {hold(10, 20, 5, "b"), api.ErrChain}, {hold(8, 20, 4, "a"), api.ErrChain},
		{hold(9, 20, 9, "b"), api.ErrArg}, {hold(9, 20, -1, "b"), api.ErrArg}, {hold(9, 20, 5, ""), api.ErrArg}, {hold(9, 20, 5, "B"), api.ErrArg}, {hold(9, 20, 5, strings.Repeat("b", 17)), api.ErrArg},
		{hold(9, 20, 5, strings.Repeat("b", 16)), api.OK},

		{release(9, 20, "a"), api.OK}, {release(9, 21, "a"), api.OK}, {release(9, 20, "b"), api.ErrNone}, {release(9, 20, "gone"), api.ErrNone}, {release(9, 20, "aa"), api.ErrNone},
		{release(9, 19, "a"), api.ErrChain}, {release(8, 20, "a"), api.ErrChain}, {release(10, 20, "a"), api.ErrChain}, {release(8, 20, "b"), api.ErrChain}, {release(9, 20, ""), api.ErrArg},

		{purge(9, 20, 7, 10), api.OK}, {purge(9, 20, 8, 0), api.OK}, {purge(9, 20, 7, 9), api.ErrArg}, {purge(9, 20, 7, 11), api.ErrArg}, {purge(9, 20, 7, 0), api.ErrArg}, {purge(9, 20, 8, 1), api.ErrArg},
		{purge(9, 20, 5, 30), api.ErrEarly}, {purge(9, 29, 5, 30), api.ErrEarly}, {purge(9, 29, 5, 29), api.ErrEarly}, {purge(9, 30, 5, 30), api.ErrHeld}, {purge(9, 31, 5, 30), api.ErrHeld}, {purge(9, 30, 5, 29), api.ErrHeld},
		{purge(9, 20, 6, 7), api.ErrPurged}, {purge(9, 20, 6, 8), api.ErrPurged}, {purge(9, 20, 4, 0), api.ErrNone}, {purge(9, 20, 0, 0), api.ErrNone},
		{purge(9, 19, 8, 0), api.ErrChain}, {purge(8, 20, 7, 10), api.ErrChain}, {purge(10, 20, 8, 0), api.ErrChain},
		{purge(9, 20, 9, 0), api.ErrArg}, {purge(9, 20, -1, 0), api.ErrArg}, {purge(9, 20, 8, -1), api.ErrArg}, {purge(9, 20, 8, lastTime+1), api.ErrArg},

		{api.Record{}, api.ErrArg}, {api.Record{Epoch: 9, Time: 20}, api.ErrArg}, {api.Record{Kind: 6, Epoch: 9, Time: 20}, api.ErrArg}, {api.Record{Kind: -1, Epoch: 9, Time: 20}, api.ErrArg},
	} {
		may(t, b, x.r, x.why)
		if x.why != api.OK {
			takes(t, b, x.r, x.why)
		}
		looks()
		takes(t, b.Copy(), x.r, x.why)
		looks()
	}
}

// P23.3: worked out by hand: what is told behind each record that was taken.
func TestTaken(t *testing.T) {
	for _, x := range []struct {
		r     api.Record
		epoch int
		all   told
		its   of
	}{
		{closeAt(9, 21), 9, told{10, 21, 1}, of{}},
		{closeAt(9, lastTime), 5, told{10, lastTime, 1}, of{30, "a", false}},
		{keep(9, 22, 5, 31), 5, told{9, 22, 1}, of{31, "a", false}},
		{keep(9, 20, 8, lastTime), 8, told{9, 20, 1}, of{lastTime, "", false}},
		{keep(9, 20, 7, 10), 7, told{9, 20, 1}, of{10, "", false}},
		{hold(9, 23, 5, "0"), 5, told{9, 23, 2}, of{30, "0 a", false}},
		{hold(9, 23, 5, "b"), 5, told{9, 23, 2}, of{30, "a b", false}},
		{hold(9, 23, 8, "gone"), 8, told{9, 23, 2}, of{0, "gone", false}},
		{release(9, 24, "a"), 5, told{9, 24, 0}, of{30, "", false}},
		{purge(9, 25, 7, 10), 7, told{9, 25, 1}, of{10, "", true}},
		{purge(9, 20, 8, 0), 8, told{9, 20, 1}, of{0, "", true}},
	} {
		b, _ := made(t, 5, shelf()...)
		rest := []int{4, 5, 6, 7, 8, 9, 10}
		ahead := map[int]of{}
		for _, epoch := range rest {
			ahead[epoch] = of{b.Until(epoch), strings.Join(b.Held(epoch), " "), b.Gone(epoch)}
		}
		takes(t, b, x.r, api.OK)
		is(t, b, x.all)
		has(t, b, x.epoch, x.its)
		for _, epoch := range rest {
			if meant := x.r.Target == epoch || x.r.Name == "a" && epoch == 5; !meant {
				has(t, b, epoch, ahead[epoch])
			}
		}
	}
}

// wrongs are records that may not be: r, that may, with one thing that may not.
func wrongs(r api.Record) []api.Record {
	var l []api.Record
	with := func(turn func(r *api.Record)) {
		w := r
		turn(&w)
		if w != r && !mayBe(w) {
			l = append(l, w)
		}
	}
	for _, n := range []int{least, -1, 0, 1, 2, 3, 4, 5, 6, 9, 255, 256, 4096, 4097, lastEpoch, lastEpoch + 1, lastTime, lastTime + 1, most} {
		with(func(r *api.Record) { r.Kind = n })
		with(func(r *api.Record) { r.Epoch = n })
		with(func(r *api.Record) { r.Time = n })
		with(func(r *api.Record) { r.Count = n })
		with(func(r *api.Record) { r.Target = n })
		with(func(r *api.Record) { r.Until = n })
	}
	for _, s := range []string{"", "a", "A", "a b", "a-", "\x00", strings.Repeat("a", 17), root[:31], root, root + "r"} {
		with(func(r *api.Record) { r.Root = s })
		with(func(r *api.Record) { r.Name = s })
	}
	return l
}

// P23.2: of each kind, a record that may not be is ErrArg, whatever else is wrong with it, and changes nothing (P2).
func TestWrong(t *testing.T) {
	b, p := made(t, 5, shelf()...)
	for i, r := range right() {
		if r.Kind != i+1 {
			t.Fatalf("%v stands at %d", r, i)
		}
		may(t, b, r, api.OK)
		l := wrongs(r)
		if len(l) < 30 {
			t.Fatalf("only %d", len(l))
		}
		for _, w := range l {
			may(t, b, w, api.ErrArg)
			takes(t, b, w, api.ErrArg)
			if w.Time != r.Time {
				w.Epoch--
				may(t, b, w, api.ErrArg)
				continue
			}
			w.Time--
			may(t, b, w, api.ErrArg)
		}
		like(t, b, p)
	}
	for _, r := range right() {
		takes(t, b.Copy(), r, api.OK)
	}
}

// full is shelf with as many holds as may be.
func full() []api.Record {
	l := shelf()
	for i := range mostHolds - 1 {
		l = append(l, hold(9, 20, 5+2*(i%2), "h"+strconv.Itoa(i)))
	}
	return l
}

// P23.2: each thing of a record at all that may make a difference, with each other one: whatever is wrong with it at once, the first of the chapter's order is told.
func TestOrder(t *testing.T) {
	names := []string{"", "a", "b", "h0", "gone", "No"}
	times := []int{-1, 0, 9, 10, 19, 20, 21, 29, 30, 31, lastTime, lastTime + 1}
	for at, row := range [][]api.Record{nil, shelf(), full()} {
		b, p := made(t, 5, row...)
		seen := map[api.Errno]int{}
		for kind := range 7 {
			for _, epoch := range []int{-1, 5, 8, 9, 10, lastEpoch + 1} {
				for _, time := range times {
					for _, target := range []int{-1, 0, 4, 5, 6, 7, 8, 9, 10} {
						for _, until := range []int{-1, 0, 7, 9, 10, 11, 29, 30, 31, lastTime + 1} {
							for _, name := range names {
								r := api.Record{Kind: kind, Epoch: epoch, Time: time, Target: target, Until: until, Name: name}
								for _, r.Root = range []string{"", root} {
									want := p.may(r)
									if e := b.May(r); e != want {
										t.Fatalf("May(%v): %d, asked %d", r, e, want)
									}
									seen[want]++
								}
							}
						}
					}
				}
			}
		}
		like(t, b, p)
		asked := [][]api.Errno{
			{api.OK, api.ErrArg, api.ErrChain, api.ErrNone},
			{api.OK, api.ErrArg, api.ErrChain, api.ErrNone, api.ErrPurged, api.ErrLess, api.ErrTwice, api.ErrEarly, api.ErrHeld},
			{api.OK, api.ErrArg, api.ErrChain, api.ErrNone, api.ErrPurged, api.ErrLess, api.ErrTwice, api.ErrFull, api.ErrEarly, api.ErrHeld},
		}[at]
		for _, e := range asked {
			if seen[e] == 0 {
				t.Errorf("nothing was %d", e)
			}
		}
		if len(seen) != len(asked) {
			t.Errorf("answered: %v", seen)
		}
	}
}

// P23.2: the Epoch one less than the open one, that one, and one more, from each of the firsts on, and behind closures.
func TestEpochs(t *testing.T) {
	for _, first := range []int{0, 1, 5, 1 << 31, lastEpoch - 4} {
		b, p := made(t, first)
		for open := first; open < first+4; open++ {
			for _, epoch := range []int{open - 2, open - 1, open + 1, open + 2, -1, lastEpoch + 1} {
				want := api.ErrChain
				if epoch < 0 || epoch > lastEpoch {
					want = api.ErrArg
				}
				takes(t, b, closeAt(epoch, open), want)
				takes(t, b, release(epoch, open, "a"), want)
			}
			like(t, b, p)
			for target := first - 1; target <= open; target++ {
				want := api.OK
				switch {
				case target < 0 || target >= open:
					want = api.ErrArg
				case target < first:
					want = api.ErrNone
				}
				for _, r := range []api.Record{keep(open, open, target, 3), hold(open, open, target, "a"), purge(open, open, target, 0)} {
					may(t, b, r, want)
					takes(t, b.Copy(), r, want)
				}
			}
			if e := step(t, b, p, closeAt(open, open)); e != api.OK {
				t.Fatal(e)
			}
		}
	}
}

// P23.2, P23.3: the Time one less than the book's, the same, one more, of each kind: each is taken in turn, and the book's time is its own.
func TestTimes(t *testing.T) {
	for _, now := range []int{0, 1, 2, 1 << 32, lastTime - 20, lastTime} {
		b, p := made(t, 0, closeAt(0, 0), closeAt(1, now))
		for _, r := range []api.Record{keep(2, 0, 0, 0), hold(2, 0, 0, "a"), release(2, 0, "a"), purge(2, 0, 0, 0), closeAt(2, 0)} {
			for _, r.Time = range []int{p.now() - 1, p.now() + 1, p.now()} {
				want := api.OK
				switch {
				case r.Time < 0 || r.Time > lastTime:
					want = api.ErrArg
				case r.Time < p.now():
					want = api.ErrChain
				}
				may(t, b, r, want)
				c := b.Copy()
				takes(t, c, r, want)
				if now := c.Now(); want == api.OK && now != r.Time {
					t.Fatalf("%d behind %v", now, r)
				}
			}
			for _, r.Time = range []int{p.now() - 1, p.now()} {
				step(t, b, p, r)
			}
			like(t, b, p)
		}
		if b.Epoch() != 3 {
			t.Fatalf("epoch %d is open", b.Epoch())
		}
	}
}

// P23.2: a release means no epoch: neither that 0 is less than first nor that it was purged is told of it, and it is for no other name.
func TestRelease(t *testing.T) {
	for _, first := range []int{0, 7} {
		b, p := made(t, first, closeAt(first, 0), closeAt(first+1, 0), hold(first+2, 0, first+1, "a"), hold(first+2, 0, first+1, "b"), purge(first+2, 0, first, 0))
		open := first + 2
		for _, x := range []struct {
			name string
			why  api.Errno
		}{{"c", api.ErrNone}, {"a", api.OK}, {"a", api.ErrNone}, {"b", api.OK}, {"b", api.ErrNone}, {"a", api.ErrNone}} {
			if e := step(t, b, p, release(open, 0, x.name)); e != x.why {
				t.Fatalf("%s: %d", x.name, e)
			}
		}
		is(t, b, told{open, 0, 0})
	}
}

// P23.2: each kind with a Target that was purged, or one that was not, and what else would be wrong with it.
func TestPurged(t *testing.T) {
	b, p := made(t, 3, closeAt(3, 0), closeAt(4, 0), keep(5, 0, 3, 4), keep(5, 0, 4, 4), hold(5, 4, 4, "a"), purge(5, 4, 3, 4))
	for _, r := range []api.Record{
		keep(5, 4, 3, 4), keep(5, 4, 3, 5), keep(5, 4, 3, 3), hold(5, 4, 3, "b"), hold(5, 4, 3, "a"), purge(5, 4, 3, 4), purge(5, 4, 3, 3), purge(5, lastTime, 3, 4),
	} {
		if e := step(t, b, p, r); e != api.ErrPurged {
			t.Fatalf("%v: %d", r, e)
		}
	}
	has(t, b, 3, of{4, "", true})
	has(t, b, 4, of{4, "a", false})
	for _, r := range []api.Record{keep(5, 4, 4, 5), hold(5, 4, 4, "b"), release(5, 4, "a"), release(5, 4, "b"), purge(5, 5, 4, 5)} {
		if e := step(t, b, p, r); e != api.OK {
			t.Fatalf("%v: %d", r, e)
		}
	}
	has(t, b, 4, of{5, "", true})
	has(t, b, 3, of{4, "", true})
}

// P23.2, P23.5: Until one less than until when the Target must be kept, the same, one more, for both kinds that say it, at bounds and between.
func TestUntil(t *testing.T) {
	for _, until := range []int{0, 1, 9, 1 << 32, lastTime - 1, lastTime} {
		b, p := made(t, 0, closeAt(0, 0), closeAt(1, 0), keep(2, 0, 1, until))
		has(t, b, 0, of{})
		has(t, b, 1, of{until, "", false})
		for _, x := range []struct {
			until        int
			kept, purged api.Errno
		}{{until - 1, api.ErrLess, api.ErrArg}, {until, api.OK, api.OK}, {until + 1, api.OK, api.ErrArg}} {
			if !within(x.until, lastTime) {
				x.kept, x.purged = api.ErrArg, api.ErrArg
			}
			may(t, b, keep(2, 0, 1, x.until), x.kept)
			may(t, b, purge(2, until, 1, x.until), x.purged)
			c := b.Copy()
			takes(t, c, keep(2, 0, 1, x.until), x.kept)
			if x.kept == api.OK {
				has(t, c, 1, of{x.until, "", false})
			}
			c = b.Copy()
			takes(t, c, purge(2, until, 1, x.until), x.purged)
			has(t, c, 1, of{until, "", x.purged == api.OK})
			like(t, b, p)
		}
	}
}

// P23.2, P23.6: a purge at a Time one less than until when the Target must be kept, at it, and one more; by that of the record, not the book's.
func TestEarly(t *testing.T) {
	for _, until := range []int{0, 1, 9, 1 << 32, lastTime - 1, lastTime} {
		for _, time := range []int{until - 1, until, until + 1} {
			b, p := made(t, 2, closeAt(2, 0), keep(3, 0, 2, until))
			want := api.OK
			switch {
			case !within(time, lastTime):
				want = api.ErrArg
			case time < until:
				want = api.ErrEarly
			}
			if e := step(t, b, p, purge(3, time, 2, until)); e != want {
				t.Fatalf("purge at %d of one kept until %d: %d", time, until, e)
			}
			has(t, b, 2, of{until, "", want == api.OK})
		}
	}
}

// P23.2, P23.6: a purge of an epoch that holds have, and behind the release of one, and of the last; a hold of another epoch is none.
func TestHeldUp(t *testing.T) {
	b, p := made(t, 0, closeAt(0, 0), closeAt(1, 0), closeAt(2, 0), hold(3, 0, 1, "a"), hold(3, 0, 1, "b"), hold(3, 0, 0, "c"))
	steps := []struct {
		r   api.Record
		why api.Errno
	}{
		{purge(3, 0, 1, 0), api.ErrHeld}, {purge(3, 0, 1, 1), api.ErrHeld}, {purge(3, 0, 0, 0), api.ErrHeld}, {purge(3, 0, 2, 0), api.OK},
		{release(3, 0, "a"), api.OK}, {purge(3, 0, 1, 0), api.ErrHeld}, {release(3, 0, "b"), api.OK}, {hold(3, 0, 1, "a"), api.OK}, {purge(3, 0, 1, 0), api.ErrHeld},
		{keep(3, 0, 1, 2), api.OK}, {purge(3, 1, 1, 2), api.ErrEarly}, {purge(3, 2, 1, 2), api.ErrHeld}, {release(3, 1, "a"), api.OK},
		{purge(3, 1, 1, 2), api.ErrEarly}, {purge(3, 2, 1, 1), api.ErrArg}, {purge(3, 2, 1, 2), api.OK}, {purge(3, 2, 0, 0), api.ErrHeld}, {release(3, 2, "c"), api.OK}, {purge(3, 2, 0, 0), api.OK},
	}
	for i, x := range steps {
		if e := step(t, b, p, x.r); e != x.why {
			t.Fatalf("%d: %v: %d, asked %d", i, x.r, e, x.why)
		}
	}
	for epoch := range 3 {
		if !b.Gone(epoch) {
			t.Errorf("%d was not purged", epoch)
		}
	}
}

// P23.2: a name that a hold has, held again of the same epoch and of another one, and held anew behind its release, of each.
func TestTwice(t *testing.T) {
	b, p := made(t, 0, closeAt(0, 0), closeAt(1, 0))
	for i, x := range []struct {
		r    api.Record
		why  api.Errno
		zero string
		one  string
	}{
		{hold(2, 0, 0, "a"), api.OK, "a", ""}, {hold(2, 0, 0, "a"), api.ErrTwice, "a", ""}, {hold(2, 0, 1, "a"), api.ErrTwice, "a", ""},
		{hold(2, 0, 1, "aa"), api.OK, "a", "aa"}, {hold(2, 0, 0, "aa"), api.ErrTwice, "a", "aa"},
		{release(2, 0, "a"), api.OK, "", "aa"}, {hold(2, 0, 1, "a"), api.OK, "", "a aa"}, {hold(2, 0, 0, "a"), api.ErrTwice, "", "a aa"},
		{release(2, 0, "aa"), api.OK, "", "a"}, {hold(2, 0, 0, "aa"), api.OK, "aa", "a"}, {release(2, 0, "a"), api.OK, "aa", ""}, {hold(2, 0, 0, "a"), api.OK, "a aa", ""},
	} {
		if e := step(t, b, p, x.r); e != x.why {
			t.Fatalf("%d: %v: %d", i, x.r, e)
		}
		has(t, b, 0, of{0, x.zero, false})
		has(t, b, 1, of{0, x.one, false})
	}
}

// P23.2: 63, 64 and 65 holds, of one epoch and of two, and one more behind a release; and that a name that a hold has is told ahead of that there is no room.
func TestFull(t *testing.T) {
	for _, by := range []int{1, 2} {
		b, p := made(t, 0, closeAt(0, 0), closeAt(1, 0))
		name := func(i int) string { return "h" + strconv.Itoa(i) }
		for i := range 64 {
			is(t, b, told{2, 0, i})
			if e := step(t, b, p, hold(2, 0, i%by, name(i))); e != api.OK {
				t.Fatalf("the hold %d: %d", i, e)
			}
		}
		is(t, b, told{2, 0, 64})
		for range 3 {
			for _, target := range []int{0, 1} {
				if e := step(t, b, p, hold(2, 0, target, name(64))); e != api.ErrFull {
					t.Fatalf("the hold 64: %d", e)
				}
				if e := step(t, b, p, hold(2, 0, target, name(63))); e != api.ErrTwice {
					t.Fatalf("the hold 63 anew: %d", e)
				}
			}
			if e := step(t, b, p, release(2, 0, name(64))); e != api.ErrNone {
				t.Fatalf("release of none: %d", e)
			}
			if e := step(t, b, p, release(2, 0, name(7))); e != api.OK {
				t.Fatalf("release: %d", e)
			}
			is(t, b, told{2, 0, 63})
			if e := step(t, b, p, hold(2, 0, 1, name(7))); e != api.OK {
				t.Fatalf("behind a release: %d", e)
			}
			is(t, b, told{2, 0, 64})
		}
		for i := range 64 {
			if e := step(t, b, p, release(2, 0, name(i))); e != api.OK {
				t.Fatalf("release of %d: %d", i, e)
			}
		}
		is(t, b, told{2, 0, 0})
		step(t, b, p, hold(2, 0, 0, name(64)))
		is(t, b, told{2, 0, 1})
	}
}

// P23.2, P23.3: closures up to the epoch 2^32 - 1; behind it none is open, which is told as 2^32, and nothing is taken any more.
func TestEnd(t *testing.T) {
	b, p := made(t, lastEpoch-2, closeAt(lastEpoch-2, 1), closeAt(lastEpoch-1, 1))
	is(t, b, told{4294967295, 1, 0})
	for _, r := range []api.Record{keep(lastEpoch, 1, lastEpoch-1, 5), hold(lastEpoch, 1, lastEpoch-1, "a"), purge(lastEpoch, 2, lastEpoch-2, 0), closeAt(lastEpoch, 3)} {
		if e := step(t, b, p, r); e != api.OK {
			t.Fatalf("%v: %d", r, e)
		}
	}
	behind := func() {
		t.Helper()
		is(t, b, told{4294967296, 3, 1})
		has(t, b, 4294967293, of{0, "", true})
		has(t, b, 4294967294, of{5, "a", false})
		has(t, b, 4294967295, of{})
		has(t, b, 4294967296, of{})
	}
	behind()
	for epoch, all := range map[int]api.Errno{4294967294: api.ErrChain, 4294967295: api.ErrChain, 4294967296: api.ErrArg, 4294967297: api.ErrArg} {
		for _, r := range []api.Record{closeAt(epoch, 3), keep(epoch, 3, lastEpoch-1, 6), hold(epoch, 3, lastEpoch-3, "b"), release(epoch, 3, "a"), purge(epoch, 6, lastEpoch-1, 5), keep(epoch, 3, lastEpoch, 6)} {
			want := all
			if r.Target >= epoch {
				want = api.ErrArg
			}
			if e := step(t, b, p, r); e != want {
				t.Fatalf("%v: %d, asked %d", r, e, want)
			}
		}
		behind()
	}
	c := b.Copy()
	takes(t, c, closeAt(lastEpoch, 3), api.ErrChain)
	is(t, c, told{4294967296, 3, 1})
	one, _ := made(t, lastEpoch, closeAt(lastEpoch, 0))
	is(t, one, told{4294967296, 0, 0})
	takes(t, one, closeAt(lastEpoch, 0), api.ErrChain)
	takes(t, one, closeAt(lastEpoch+1, 0), api.ErrArg)
	is(t, one, told{4294967296, 0, 0})
}

// P23.4: Held in order, whatever the order in which the holds came; of other epochs none.
func TestHeldOrder(t *testing.T) {
	names := []string{"0", "00", "01", "1", "10", "9", "a", "a0", "aa", "aaaaaaaaaaaaaaaa", "ab", "b", "z", "zz"}
	r := rand.New(rand.NewSource(23))
	for range 60 {
		b, p := made(t, 0, closeAt(0, 0), closeAt(1, 0))
		for _, i := range r.Perm(len(names)) {
			step(t, b, p, hold(2, 0, 0, names[i]))
		}
		for range 5 {
			if l := b.Held(0); !slices.Equal(l, names) {
				t.Fatalf("Held: %q", l)
			}
		}
		if l := b.Held(1); len(l) != 0 {
			t.Fatalf("Held of another one: %q", l)
		}
		if l := b.Copy().Held(0); !slices.Equal(l, names) {
			t.Fatalf("Held of a copy: %q", l)
		}
		for _, i := range r.Perm(len(names)) {
			step(t, b, p, release(2, 0, names[i]))
		}
		if l := b.Held(0); len(l) != 0 {
			t.Fatalf("Held of released ones: %q", l)
		}
	}
}

// P23.4: what Held hands out is the caller's own.
func TestHeldOwn(t *testing.T) {
	b, p := made(t, 5, full()...)
	for _, epoch := range []int{5, 7} {
		l := b.Held(epoch)
		if len(l) < 31 {
			t.Fatalf("Held: %q", l)
		}
		other := b.Held(epoch)
		for i := range l {
			l[i] = "turned"
		}
		l = append(l[:1], "more", "yet")
		_ = append(l, "and")
		if !slices.Equal(other, p.held(epoch)) {
			t.Fatalf("the other one: %q", other)
		}
		like(t, b, p)
	}
	may(t, b, release(9, 20, "turned"), api.ErrNone)
}

// follow makes a book by New and Apply, one by one, up to the first that is refused.
func follow(t *testing.T, first int, l []api.Record) (*retain.Book, int, api.Errno) {
	t.Helper()
	b := must(t, first)
	for i, r := range l {
		if e := b.Apply(r); e != api.OK {
			return b, i, e
		}
	}
	return b, len(l), api.OK
}

// replays holds Replay against New and Apply, one by one, and against the plain book, also where records come behind it.
func replays(t *testing.T, first int, l []api.Record) {
	t.Helper()
	p, _ := plainOf(first)
	var want api.Errno
	for _, r := range l {
		if want = p.apply(r); want != api.OK {
			break
		}
	}
	own := slices.Clone(l)
	b, n, e := retain.Replay(first, l...)
	if b == nil || n != len(p.took) || e != want {
		t.Fatalf("Replay: %v %d %d, asked %d %d", b, n, e, len(p.took), want)
	}
	if !slices.Equal(own, l) {
		t.Fatal("the records were turned")
	}
	for i := range l {
		l[i] = api.Record{Kind: closing, Epoch: 99, Root: "turned"}
	}
	like(t, b, p)
	c, k, f := follow(t, first, own)
	if k != n || f != e {
		t.Fatalf("one by one: %d %d", k, f)
	}
	like(t, c, p)
	copy(l, own)
	for _, r := range append(slices.Clone(own[n:min(n+3, len(own))]), closeAt(p.epoch(), p.now())) {
		step(t, b, p, r)
	}
}

// P23.3: Replay of no records, of records that are all taken, and of ones of which one amid is refused, by each place and each way.
func TestReplay(t *testing.T) {
	for _, first := range []int{0, 1, 5, lastEpoch - 1, lastEpoch} {
		b, n, e := retain.Replay(first)
		if b == nil || n != 0 || e != api.OK {
			t.Fatalf("Replay(%d): %v %d %d", first, b, n, e)
		}
		is(t, b, told{first, 0, 0})
		replays(t, first, nil)
		replays(t, first, []api.Record{})
	}
	for _, row := range [][]api.Record{shelf(), full(), append(full(), closeAt(9, 20), closeAt(10, 22), hold(11, 22, 10, "a"))} {
		for k := range len(row) + 1 {
			replays(t, 5, slices.Clone(row[:k]))
			for _, wrong := range []api.Record{{}, closeAt(4, 3), closeAt(99, lastTime), keep(9, 20, 6, 9), hold(9, 30, 4, "zz"), release(5, 0, "none"), purge(9, 20, 7, 9)} {
				l := slices.Insert(slices.Clone(row), k, wrong)
				replays(t, 5, l)
			}
		}
	}
}

// P23.3: worked out by hand: Replay ends at the first record that is refused, and tells the book of those ahead; what is behind is not taken, were it right or not.
func TestReplayByHand(t *testing.T) {
	for _, x := range []struct {
		at  int
		r   api.Record
		why api.Errno
		all told
	}{
		{0, closeAt(4, 0), api.ErrChain, told{5, 0, 0}}, {0, api.Record{}, api.ErrArg, told{5, 0, 0}}, {0, release(5, 0, "a"), api.ErrNone, told{5, 0, 0}},
		{1, closeAt(5, 2), api.ErrChain, told{6, 1, 0}}, {1, keep(6, 1, 4, 9), api.ErrNone, told{6, 1, 0}},
		{5, keep(9, 5, 5, 29), api.ErrLess, told{9, 5, 0}}, {5, purge(9, 29, 5, 30), api.ErrEarly, told{9, 5, 0}},
		{6, hold(9, 6, 7, "a"), api.ErrTwice, told{9, 6, 1}}, {6, purge(9, 30, 5, 30), api.ErrHeld, told{9, 6, 1}},
		{8, hold(9, 8, 6, "b"), api.ErrPurged, told{9, 8, 1}}, {11, closeAt(9, 19), api.ErrChain, told{9, 20, 1}}, {11, purge(9, 20, 7, 11), api.ErrArg, told{9, 20, 1}},
	} {
		b, n, e := retain.Replay(5, slices.Insert(shelf(), x.at, x.r)...)
		if b == nil || n != x.at || e != x.why {
			t.Fatalf("%v at %d: %v %d %d", x.r, x.at, b, n, e)
		}
		is(t, b, x.all)
		_, p := made(t, 5, shelf()[:x.at]...)
		like(t, b, p)
	}
	b, n, e := retain.Replay(5, shelf()...)
	if b == nil || n != 11 || e != api.OK {
		t.Fatalf("all: %v %d %d", b, n, e)
	}
	is(t, b, told{9, 20, 1})
}

// P23.3: Replay of a first that may not be: New's error, no book, and 0, whatever the records are.
func TestReplayRefused(t *testing.T) {
	for _, first := range []int{-1, 4294967296, least, most, lastTime} {
		for _, l := range [][]api.Record{nil, shelf(), {closeAt(first, 0)}, {{}}} {
			if b, n, e := retain.Replay(first, l...); b != nil || n != 0 || e != api.ErrArg {
				t.Errorf("Replay(%d): %v %d %d", first, b, n, e)
			}
		}
	}
}

// P23.4: a Copy that is turned behind it, and a book that is turned behind its Copy: the other one tells in each case what it did.
func TestCopy(t *testing.T) {
	rows := [][]api.Record{nil, {closeAt(5, 3)}, shelf(), full()}
	for _, row := range rows {
		for _, r := range append(right(), closeAt(5, 9), keep(6, 9, 5, 4), hold(6, 9, 5, "x"), purge(6, 9, 5, 0), keep(9, 50, 7, 60), hold(9, 21, 7, "x"), release(9, 21, "h3"), purge(9, 90, 7, 10)) {
			b, p := made(t, 5, row...)
			c, q := b.Copy(), p.copied()
			if c == nil || c == b {
				t.Fatal("they are one")
			}
			like(t, c, q)
			step(t, c, q, r)
			like(t, b, p)
			d, o := b.Copy(), p.copied()
			step(t, b, p, r)
			like(t, d, o)
			like(t, c, q)
			for _, s := range append(right(), closeAt(5, 9), hold(6, 9, 5, "y")) {
				step(t, d, o, s)
				like(t, b, p)
				like(t, c, q)
			}
			for _, s := range right() {
				step(t, b, p, s)
				like(t, c, q)
				like(t, d, o)
			}
			like(t, c.Copy().Copy(), q)
		}
	}
}

// P23.1, P1: of nil, and of a Book that no call made, and these are as they were behind it: even what would be refused of another one is ErrNil.
func TestNone(t *testing.T) {
	records := append(right(), api.Record{}, closeAt(0, 0), closeAt(-1, -1), hold(1, 0, 0, "a"), release(0, 0, "a"), api.Record{Kind: most, Epoch: least, Target: most})
	for name, b := range none() {
		for _, r := range records {
			if e := b.May(r); e != api.ErrNil {
				t.Errorf("%s: May(%v): %d", name, r, e)
			}
			if e := b.Apply(r); e != api.ErrNil {
				t.Errorf("%s: Apply(%v): %d", name, r, e)
			}
			is(t, b, told{})
			for _, epoch := range farEpochs() {
				has(t, b, epoch, of{})
				if l := b.Held(epoch); l != nil {
					t.Errorf("%s: Held(%d): %q", name, epoch, l)
				}
			}
			if c := b.Copy(); c != nil {
				t.Errorf("%s: Copy: %v", name, c)
			}
		}
		if b != nil && *b != (retain.Book{}) {
			t.Errorf("%s: it is %v", name, *b)
		}
	}
}

// P23.3: two books side by side, of which one is given records and the other not.
func TestApart(t *testing.T) {
	for _, row := range [][]api.Record{nil, shelf()} {
		given, p := made(t, 5, row...)
		other, q := made(t, 5, row...)
		late := must(t, 0)
		for _, r := range append(shelf(), right()...) {
			step(t, given, p, r)
			like(t, other, q)
			is(t, late, told{})
		}
		for _, r := range right() {
			step(t, other, q, r)
			like(t, given, p)
		}
	}
}

// few are records of each kind, of the first and the last closed epoch and the names a and b, at the book's time or one later.
func few(p *plain) []api.Record {
	open, now := p.epoch(), p.now()
	last := open - 1
	return []api.Record{
		closeAt(open, now), closeAt(open, now+1),
		keep(open, now, last, 2), keep(open, now, p.first, 1), keep(open, now, last, p.until(last)-1),
		hold(open, now, last, "a"), hold(open, now+1, p.first, "b"), hold(open, now, p.first-1, "b"),
		release(open, now, "a"), release(open, now, "b"),
		purge(open, now, last, p.until(last)), purge(open, now+1, p.first, 1), purge(open, now, p.first, 0),
	}
}

// walk goes through all rows of so many of these records that are taken, and of one that is refused behind them, from a book on, which is as it was behind each.
func walk(t *testing.T, b *retain.Book, p *plain, depth int) {
	if depth == 0 {
		return
	}
	for _, r := range few(p) {
		c, q := b.Copy(), p.copied()
		want := q.apply(r)
		if e := c.May(r); e != want {
			t.Fatalf("May(%v) behind %v: %d, asked %d", r, p.took, e, want)
		}
		if e := c.Apply(r); e != want {
			t.Fatalf("Apply(%v) behind %v: %d, asked %d", r, p.took, e, want)
		}
		like(t, c, q)
		if want == api.OK {
			walk(t, c, q, depth-1)
		}
	}
	like(t, b, p)
}

// P23.2, P23.3: all short rows of records that may make a difference.
func TestAllRows(t *testing.T) {
	for _, first := range []int{0, 5} {
		b, p := made(t, first)
		walk(t, b, p, 4)
		b, p = made(t, first, closeAt(first, 0), closeAt(first+1, 0))
		walk(t, b, p, 5)
	}
}

// kept is what was ever told of epochs: until when they must be kept, and that they were purged.
type kept struct {
	until map[int]int
	gone  map[int]bool
}

// on holds a book against what it told of these epochs: never less, and what was purged is so still (P23.5).
func (k *kept) on(t *testing.T, b *retain.Book, asked []int) {
	t.Helper()
	for _, epoch := range asked {
		until, gone := b.Until(epoch), b.Gone(epoch)
		if until < k.until[epoch] || k.gone[epoch] && !gone {
			t.Fatalf("of %d: %d %t behind %d %t", epoch, until, gone, k.until[epoch], k.gone[epoch])
		}
		k.until[epoch], k.gone[epoch] = until, gone
	}
}

// only holds it against what was purged by a record that was taken: its time is past until when the epoch must be kept, no hold has it (P23.6), and nothing else was purged.
func only(t *testing.T, ahead, b *retain.Book, r api.Record, asked []int) {
	t.Helper()
	for _, epoch := range asked {
		if ahead.Gone(epoch) == b.Gone(epoch) {
			continue
		}
		if r.Kind != purging || r.Target != epoch || b.Now() < ahead.Until(epoch) || b.Until(epoch) != ahead.Until(epoch) || len(ahead.Held(epoch)) != 0 || len(b.Held(epoch)) != 0 {
			t.Fatalf("%v: %d was purged", r, epoch)
		}
	}
}

// near is a number about n, or, now and then, one far away.
func near(r *rand.Rand, n int) int {
	switch r.Intn(40) {
	case 0:
		return int(r.Uint64())
	case 1:
		return []int{-1, 0, lastEpoch, lastEpoch + 1, lastTime, lastTime + 1}[r.Intn(6)]
	case 2, 3, 4, 5:
		return n - 2 + r.Intn(5)
	}
	return n
}

// anyRecord is a record at random, mostly one that may be, about what the book has.
func anyRecord(r *rand.Rand, p *plain, names int) api.Record {
	open := p.epoch()
	x := api.Record{Epoch: near(r, open), Time: near(r, p.now())}
	if r.Intn(3) == 0 {
		x.Time += r.Intn(4)
	}
	target := max(p.first, open-1-r.Intn(max(1, min(open-p.first, 6))))
	if r.Intn(30) == 0 {
		target = p.first - 1
	}
	name := "n" + strconv.Itoa(r.Intn(names))
	switch r.Intn(12) {
	case 0:
		x.Kind, x.Count, x.Root = closing, r.Intn(4098), root
	case 1, 2:
		x.Kind, x.Target, x.Until = retaining, target, near(r, p.until(target)-1+r.Intn(5))
	case 3, 4, 5, 6, 7:
		x.Kind, x.Target, x.Name = holding, target, name
	case 8, 9:
		x.Kind, x.Name = releasing, name
	default:
		x.Kind, x.Target, x.Until = purging, target, near(r, p.until(target))
	}
	if r.Intn(40) == 0 {
		x.Kind = r.Intn(8) - 1
	}
	return x
}

// P23.2, P23.3, P23.5, P23.6: rows of records at random, taken and refused, against the plain book.
func TestRows(t *testing.T) {
	r := rand.New(rand.NewSource(2323))
	answers := map[api.Errno]int{}
	for row := range 120 {
		first := []int{0, 1, 5, lastEpoch - 3, lastEpoch, r.Intn(lastEpoch)}[row%6]
		b, p := made(t, first)
		k := kept{map[int]int{}, map[int]bool{}}
		names := []int{3, 12, 300}[row%3]
		for range 150 {
			x := anyRecord(r, p, names)
			ahead := b.Copy()
			answers[step(t, b, p, x)]++
			l := epochs(p)
			k.on(t, b, l)
			only(t, ahead, b, x, l)
		}
		c, n, e := retain.Replay(first, p.took...)
		if n != len(p.took) || e != api.OK {
			t.Fatalf("Replay: %d %d, asked %d", n, e, len(p.took))
		}
		like(t, c, p)
	}
	for _, e := range []api.Errno{api.OK, api.ErrArg, api.ErrChain, api.ErrNone, api.ErrPurged, api.ErrLess, api.ErrTwice, api.ErrEarly, api.ErrHeld} {
		if answers[e] < 20 {
			t.Errorf("%d was answered %d times", e, answers[e])
		}
	}
}

// P23.2, P23.5: long rows: many epochs, each kept, held and purged in its time.
func TestLong(t *testing.T) {
	b := must(t, 3)
	for epoch := 3; epoch < 3000; epoch++ {
		name := fmt.Sprintf("e%d", epoch)
		for _, r := range []api.Record{
			closeAt(epoch, epoch), keep(epoch+1, epoch, epoch, epoch+40), hold(epoch+1, epoch, epoch, name),
		} {
			takes(t, b, r, api.OK)
		}
		if old := epoch - 40; old >= 3 {
			takes(t, b, purge(epoch+1, epoch, old, epoch), api.ErrHeld)
			takes(t, b, release(epoch+1, epoch, fmt.Sprintf("e%d", old)), api.OK)
			takes(t, b, purge(epoch+1, epoch, old, epoch), api.OK)
			takes(t, b, purge(epoch+1, epoch, old+1, epoch+1), api.ErrEarly)
		}
	}
	is(t, b, told{3000, 2999, 40})
	for epoch := range 3100 {
		switch {
		case epoch < 3 || epoch > 2999:
			has(t, b, epoch, of{})
		case epoch <= 2959:
			has(t, b, epoch, of{epoch + 40, "", true})
		default:
			has(t, b, epoch, of{epoch + 40, fmt.Sprintf("e%d", epoch), false})
		}
	}
}

func FuzzCalls(f *testing.F) {
	f.Add(0, int64(1), "\x00\x03\x05\x08")
	f.Add(5, int64(20), "abcdefghijklm")
	f.Add(lastEpoch, int64(lastTime), "\x00\x01\x02")
	f.Add(lastEpoch-1, int64(lastTime-1), "\x01\x01\x02\x05\x0a")
	f.Add(-1, int64(0), "a")
	f.Add(lastEpoch+1, int64(-1), "b")
	f.Fuzz(func(t *testing.T, first int, seed int64, turns string) {
		p, want := plainOf(first)
		b, e := retain.New(first)
		if e != want || (b == nil) != (p == nil) {
			t.Fatalf("New(%d): %v %d, asked %d", first, b, e, want)
		}
		if p == nil {
			p = &plain{}
		}
		r := rand.New(rand.NewSource(seed))
		k := kept{map[int]int{}, map[int]bool{}}
		for _, turn := range []byte(turns[:min(len(turns), 60)]) {
			x := anyRecord(r, p, 4)
			if l := few(p); int(turn) < 8*len(l) {
				x = l[int(turn)%len(l)]
			}
			ahead := b.Copy()
			step(t, b, p, x)
			l := epochs(p)
			k.on(t, b, l)
			only(t, ahead, b, x, l)
		}
	})
}
