package model_test

import (
	"fmt"
	"math"
	"math/rand"
	"slices"
	"strings"
	"testing"

	"keepsake/api"
	"keepsake/model"
)

const (
	least = math.MinInt64
	most  = math.MaxInt64
)

// Calls of each kind.

func writes(lba int, data string) api.Call { return api.Call{Kind: write, Lba: lba, Data: data} }

func reads(lba int) api.Call { return api.Call{Kind: read, Lba: lba} }

func readsAt(lba, epoch int) api.Call { return api.Call{Kind: readAt, Lba: lba, Epoch: epoch} }

func syncs() api.Call { return api.Call{Kind: sync} }

func closes() api.Call { return api.Call{Kind: closing} }

func keeps(epoch, until int) api.Call { return api.Call{Kind: keep, Epoch: epoch, Time: until} }

func holds(epoch int, name string) api.Call { return api.Call{Kind: hold, Epoch: epoch, Name: name} }

func releases(name string) api.Call { return api.Call{Kind: release, Name: name} }

func purges(epoch int) api.Call { return api.Call{Kind: purge, Epoch: epoch} }

func stats() api.Call { return api.Call{Kind: stat} }

func ticks(time int) api.Call { return api.Call{Kind: tick, Time: time} }

// small is a shape of ten places, from epoch 5 on, with room for row.
func small(room int) api.Geo { return api.Geo{Blocks: room + 5, Lbas: 10, First: 5} }

func must(t *testing.T, g api.Geo) *model.Model {
	t.Helper()
	m, e := model.New(g)
	if m == nil || e != api.OK {
		t.Fatalf("New(%v): %v %d", g, m, e)
	}
	return m
}

// made makes a model that took all these calls, and a plain one beside it.
func made(t *testing.T, g api.Geo, l ...api.Call) (*model.Model, *plain) {
	t.Helper()
	p, e := plainOf(g)
	if e != api.OK {
		t.Fatalf("%v may not be", g)
	}
	m := must(t, g)
	for _, c := range l {
		want := p.do(c)
		if want.Err != api.OK {
			t.Fatalf("%v is refused: %d", c, want.Err)
		}
		does(t, m, c, want)
	}
	return m, p
}

// does holds what a call is answered against what is asked.
func does(t *testing.T, m *model.Model, c api.Call, want api.Answer) {
	t.Helper()
	if got := m.Do(c); got != want {
		t.Fatalf("Do(%s): %v, asked %v", short(c), got, want)
	}
}

// is asks no more of a call than whether it is refused.
func is(t *testing.T, m *model.Model, c api.Call, want api.Errno) {
	t.Helper()
	does(t, m, c, api.Answer{Err: want})
}

// short is a call in words that are not too many.
func short(c api.Call) string {
	if len(c.Data) > 20 {
		c.Data = fmt.Sprintf("%d bytes", len(c.Data))
	}
	return fmt.Sprintf("%+v", c)
}

// far are numbers at the bounds of all that is asked, beyond them, and between.
func far() []int {
	return []int{least, -lastEpoch - 1, -1, 0, 1, 1 << 31, lastEpoch - 1, lastEpoch, lastEpoch + 1, lastTime, lastTime + 1, most}
}

// epochs are those that may make a difference.
func epochs(p *plain) []int {
	l := far()
	for epoch := p.geo.First - 1; epoch <= p.epoch()+1; epoch++ {
		l = append(l, epoch)
	}
	slices.Sort(l)
	return slices.Compact(l)
}

// lbas are the places that may make a difference: those that were ever written to, and those at the bounds and beyond them.
func lbas(p *plain) []int {
	l := []int{least, -1, 0, p.geo.Lbas - 1, p.geo.Lbas, p.geo.Lbas + 1, most}
	for _, t := range p.row {
		if t.call.Kind == write {
			l = append(l, t.call.Lba)
		}
	}
	slices.Sort(l)
	return slices.Compact(l)
}

// like holds all that a model tells against the plain one.
func like(t *testing.T, m *model.Model, p *plain) {
	t.Helper()
	if got, want := m.Epoch(), p.epoch(); got != want {
		t.Fatalf("Epoch: %d, asked %d", got, want)
	}
	if got, want := m.Records(), p.records(); !slices.Equal(got, want) {
		t.Fatalf("Records: %v, asked %v", got, want)
	}
	does(t, m, stats(), api.Answer{Stat: p.stat()})
	for _, epoch := range epochs(p) {
		if got, want := m.Gone(epoch), p.gone(epoch); got != want {
			t.Fatalf("Gone(%d): %v, asked %v", epoch, got, want)
		}
		for _, lba := range lbas(p) {
			got, ok := m.Block(epoch, lba)
			if want, is := p.block(epoch, lba); got != want || ok != is {
				t.Fatalf("Block(%d, %d): %q %v, asked %q %v", epoch, lba, got, ok, want, is)
			}
			c := readsAt(lba, epoch)
			does(t, m, c, p.do(c))
		}
	}
	for _, lba := range lbas(p) {
		does(t, m, reads(lba), p.do(reads(lba)))
	}
}

// step lets both do a call. What is refused, and what only asks, turns nothing: the model is the same as its copy of ahead.
func step(t *testing.T, m *model.Model, p *plain, c api.Call) api.Errno {
	t.Helper()
	ahead, n := m.Copy(), len(p.row)
	want := p.do(c)
	does(t, m, c, want)
	if turned := len(p.row) > n; m.Same(ahead) && turned && !(c.Kind == tick && c.Time == p.row[n].time) || !m.Same(ahead) && !turned {
		t.Fatalf("behind Do(%s) it is the same as ahead: %v", short(c), m.Same(ahead))
	}
	return want.Err
}

// none are models that no call made.
func none() map[string]*model.Model {
	return map[string]*model.Model{"nil": nil, "zero": {}, "new": new(model.Model)}
}

// The chapter's example.
func TestExample(t *testing.T) {
	m := must(t, api.Geo{Blocks: 8, Lbas: 4, First: 0})
	for i := range 3 {
		is(t, m, writes(i, "a"), api.OK)
	}
	is(t, m, writes(0, "a"), api.ErrFull)
	is(t, m, closes(), api.OK)
	is(t, m, closes(), api.ErrLimit)
}

// P24.1: New of shapes at each bound, one beyond, and one short of it, with what is told of the model behind it; where it is refused there is none (P1).
func TestNew(t *testing.T) {
	for _, blocks := range []int{7, 8, 9, 500, 1023, 1024, 1025, 0, -8, least, most} {
		for _, lbas := range []int{0, 1, 2, 77, 4095, 4096, 4097, -1, least, most} {
			for _, first := range []int{-1, 0, 1, 1 << 31, lastEpoch - 1, lastEpoch, lastEpoch + 1, least, most} {
				fresh(t, api.Geo{Blocks: blocks, Lbas: lbas, First: first})
			}
		}
	}
	m, e := model.New(api.Geo{})
	if m != nil || e != api.ErrArg {
		t.Errorf("New of nothing: %v %d", m, e)
	}
}

// fresh holds a model of that shape, if there may be one, against what the chapter says of it with nothing done.
func fresh(t *testing.T, g api.Geo) {
	t.Helper()
	m, e := model.New(g)
	p, want := plainOf(g)
	if e != want || (m == nil) != (want != api.OK) {
		t.Fatalf("New(%v): %v %d, asked %d", g, m, e, want)
	}
	if m == nil {
		return
	}
	does(t, m, stats(), api.Answer{Stat: api.Stat{Epoch: g.First, Free: g.Blocks - 5}})
	if m.Epoch() != g.First || len(m.Records()) != 0 || !m.Same(must(t, g)) || !m.Same(m.Copy()) {
		t.Fatalf("of %v it tells %d %v", g, m.Epoch(), m.Records())
	}
	like(t, m, p)
	is(t, m, ticks(-1), api.ErrArg)
	is(t, m, ticks(0), api.OK)
	is(t, m, reads(0), api.ErrNone)
	is(t, m, readsAt(g.Lbas-1, g.First), api.ErrNone)
	is(t, m, reads(g.Lbas), api.ErrRange)
	like(t, m, p)
}

// P24.2: of kinds that are none ErrArg, whatever else stands in the call, and nothing is turned.
func TestKinds(t *testing.T) {
	m, p := made(t, small(40), shelf()...)
	full, q := made(t, small(len(shelf())), shelf()...)
	for _, kind := range []int{0, -1, -2, 12, 13, 14, 15, 16, 255, 256, 257, 267, 1 << 32, 1<<32 + 1, least, least + 1, most} {
		for _, c := range []api.Call{{}, writes(1, "a"), reads(-1), keeps(5, 40), holds(4, "No"), ticks(-1), {Lba: 1, Epoch: 7, Time: 90, Data: "a", Name: "a", Keep: []int{1}}} {
			c.Kind = kind
			is(t, m, c, api.ErrArg)
			is(t, full, c, api.ErrArg)
		}
	}
	like(t, m, p)
	like(t, full, q)
}

// shelf is a row for a shape like small, at the end of which epoch 9 is open and it is 20: 5 must be kept until 30, and is held; 6 was purged; 7 must be kept until 10; of 8 nothing was said; "gone" was released.
//
// Place 0: of 5, and of 7. 1: of 5, then of 6. 2: twice of 6. 3: of 9 alone, twice. 4: of 5, of 8 and of 9. 5: empty, of 7. All others: none.
func shelf() []api.Call {
	return []api.Call{
		ticks(1), writes(0, "zero of 5"), writes(1, "one of 5"), writes(4, "four of 5"), closes(),
		ticks(2), writes(1, "one of 6"), writes(2, "two of 6"), writes(2, "two of 6, again"), closes(),
		ticks(3), writes(0, "zero of 7"), writes(5, ""), closes(),
		ticks(4), writes(4, "four of 8"), closes(),
		ticks(5), keeps(5, 30), ticks(6), holds(5, "a"), ticks(7), keeps(6, 7), ticks(8), purges(6), ticks(9), keeps(7, 10),
		writes(3, "three of 9"), ticks(10), holds(7, "gone"), ticks(20), releases("gone"), writes(4, "four of 9"), writes(3, "three of 9, again"),
	}
}

// shelfUses is how many blocks shelf takes: 12 writes, 4 closures, and 7 other records.
const shelfUses = 12 + 4 + 7

// P24.2: worked out by hand, and not by the plain model: each answer of each kind that can have it, and what there is then.
func TestByHand(t *testing.T) {
	m, _ := made(t, small(40), shelf()...)
	stands := api.Stat{Epoch: 9, Clock: 20, Free: 40 - shelfUses, Records: 11, Places: 6, Holds: 1}
	does(t, m, stats(), api.Answer{Stat: stands})
	long := strings.Repeat("x", 4000)
	for _, x := range []struct {
		c    api.Call
		why  api.Errno
		data string
		turn func(s *api.Stat)
	}{
		{writes(0, "a"), api.OK, "", func(s *api.Stat) { s.Free-- }},
		{writes(9, "a"), api.OK, "", func(s *api.Stat) { s.Free--; s.Places++ }},
		{writes(6, ""), api.OK, "", func(s *api.Stat) { s.Free--; s.Places++ }},
		{writes(4, long), api.OK, "", func(s *api.Stat) { s.Free-- }},
		{writes(4, long+"x"), api.ErrArg, "", nil},
		{writes(10, "a"), api.ErrRange, "", nil},
		{writes(10, long+"x"), api.ErrRange, "", nil},
		{writes(-1, "a"), api.ErrRange, "", nil},

		{reads(0), api.OK, "zero of 7", nil},
		{reads(1), api.ErrPurged, "", nil},
		{reads(2), api.ErrPurged, "", nil},
		{reads(3), api.OK, "three of 9, again", nil},
		{reads(4), api.OK, "four of 9", nil},
		{reads(5), api.OK, "", nil},
		{reads(6), api.ErrNone, "", nil},
		{reads(9), api.ErrNone, "", nil},
		{reads(10), api.ErrRange, "", nil},
		{reads(-1), api.ErrRange, "", nil},

		{readsAt(0, 4), api.ErrNone, "", nil},
		{readsAt(0, 5), api.OK, "zero of 5", nil},
		{readsAt(0, 6), api.OK, "zero of 5", nil},
		{readsAt(0, 7), api.OK, "zero of 7", nil},
		{readsAt(0, 9), api.OK, "zero of 7", nil},
		{readsAt(0, 10), api.ErrNone, "", nil},
		{readsAt(1, 5), api.OK, "one of 5", nil},
		{readsAt(1, 6), api.ErrPurged, "", nil},
		{readsAt(1, 9), api.ErrPurged, "", nil},
		{readsAt(2, 5), api.ErrNone, "", nil},
		{readsAt(2, 6), api.ErrPurged, "", nil},
		{readsAt(2, 10), api.ErrNone, "", nil},
		{readsAt(3, 8), api.ErrNone, "", nil},
		{readsAt(3, 9), api.OK, "three of 9, again", nil},
		{readsAt(4, 7), api.OK, "four of 5", nil},
		{readsAt(4, 8), api.OK, "four of 8", nil},
		{readsAt(4, 9), api.OK, "four of 9", nil},
		{readsAt(5, 6), api.ErrNone, "", nil},
		{readsAt(5, 8), api.OK, "", nil},
		{readsAt(10, 4), api.ErrRange, "", nil},
		{readsAt(-1, 9), api.ErrRange, "", nil},
		{readsAt(6, 9), api.ErrNone, "", nil},

		{syncs(), api.OK, "", nil},
		{closes(), api.OK, "", func(s *api.Stat) { s.Free--; s.Epoch++; s.Records++ }},

		{keeps(5, 30), api.OK, "", func(s *api.Stat) { s.Free--; s.Records++ }},
		{keeps(5, 29), api.ErrLess, "", nil},
		{keeps(5, 31), api.OK, "", func(s *api.Stat) { s.Free--; s.Records++ }},
		{keeps(8, 0), api.OK, "", func(s *api.Stat) { s.Free--; s.Records++ }},
		{keeps(8, lastTime), api.OK, "", func(s *api.Stat) { s.Free--; s.Records++ }},
		{keeps(8, lastTime+1), api.ErrArg, "", nil},
		{keeps(8, -1), api.ErrArg, "", nil},
		{keeps(6, 40), api.ErrPurged, "", nil},
		{keeps(6, 6), api.ErrPurged, "", nil},
		{keeps(6, -1), api.ErrArg, "", nil},
		{keeps(4, 40), api.ErrNone, "", nil},
		{keeps(4, -1), api.ErrNone, "", nil},
		{keeps(10, 40), api.ErrNone, "", nil},
		{keeps(10, -1), api.ErrNone, "", nil},
		{keeps(9, 40), api.ErrOpen, "", nil},
		{keeps(9, -1), api.ErrOpen, "", nil},

		{holds(5, "b"), api.OK, "", func(s *api.Stat) { s.Free--; s.Records++; s.Holds++ }},
		{holds(8, "gone"), api.OK, "", func(s *api.Stat) { s.Free--; s.Records++; s.Holds++ }},
		{holds(5, "a"), api.ErrTwice, "", nil},
		{holds(8, "a"), api.ErrTwice, "", nil},
		{holds(6, "a"), api.ErrPurged, "", nil},
		{holds(9, "a"), api.ErrOpen, "", nil},
		{holds(4, "a"), api.ErrNone, "", nil},
		{holds(10, "b"), api.ErrNone, "", nil},
		{holds(10, "B"), api.ErrArg, "", nil},
		{holds(9, ""), api.ErrArg, "", nil},
		{holds(4, strings.Repeat("b", 17)), api.ErrArg, "", nil},
		{holds(7, strings.Repeat("b", 16)), api.OK, "", func(s *api.Stat) { s.Free--; s.Records++; s.Holds++ }},

		{releases("a"), api.OK, "", func(s *api.Stat) { s.Free--; s.Records++; s.Holds-- }},
		{releases("gone"), api.ErrNone, "", nil},
		{releases("b"), api.ErrNone, "", nil},
		{releases("A"), api.ErrArg, "", nil},
		{releases(""), api.ErrArg, "", nil},

		{purges(7), api.OK, "", func(s *api.Stat) { s.Free--; s.Records++ }},
		{purges(8), api.OK, "", func(s *api.Stat) { s.Free--; s.Records++ }},
		{purges(5), api.ErrEarly, "", nil},
		{purges(6), api.ErrPurged, "", nil},
		{purges(9), api.ErrOpen, "", nil},
		{purges(4), api.ErrNone, "", nil},
		{purges(10), api.ErrNone, "", nil},

		{ticks(20), api.OK, "", nil},
		{ticks(21), api.OK, "", func(s *api.Stat) { s.Clock = 21 }},
		{ticks(lastTime), api.OK, "", func(s *api.Stat) { s.Clock = lastTime }},
		{ticks(19), api.ErrBack, "", nil},
		{ticks(0), api.ErrBack, "", nil},
		{ticks(-1), api.ErrArg, "", nil},
		{ticks(lastTime + 1), api.ErrArg, "", nil},
	} {
		n := m.Copy()
		does(t, n, x.c, api.Answer{Err: x.why, Data: x.data})
		want := stands
		if x.turn != nil {
			x.turn(&want)
		}
		does(t, n, stats(), api.Answer{Stat: want})
		if same := x.turn == nil; n.Same(m) != same || m.Same(n) != same {
			t.Errorf("behind Do(%s) it is the same as ahead: %v", short(x.c), !same)
		}
		does(t, m, stats(), api.Answer{Stat: stands})
	}
}

// P24.2, P24.3: worked out by hand: the records of shelf, and what is told of its blocks and epochs.
func TestLooksByHand(t *testing.T) {
	m, p := made(t, small(40), shelf()...)
	like(t, m, p)
	root := strings.Repeat("\x00", 32)
	want := []api.Record{
		{Kind: recClose, Epoch: 5, Time: 1, Count: 3, Root: root},
		{Kind: recClose, Epoch: 6, Time: 2, Count: 2, Root: root},
		{Kind: recClose, Epoch: 7, Time: 3, Count: 2, Root: root},
		{Kind: recClose, Epoch: 8, Time: 4, Count: 1, Root: root},
		{Kind: recRetain, Epoch: 9, Time: 5, Target: 5, Until: 30},
		{Kind: recHold, Epoch: 9, Time: 6, Target: 5, Name: "a"},
		{Kind: recRetain, Epoch: 9, Time: 7, Target: 6, Until: 7},
		{Kind: recPurge, Epoch: 9, Time: 8, Target: 6, Until: 7},
		{Kind: recRetain, Epoch: 9, Time: 9, Target: 7, Until: 10},
		{Kind: recHold, Epoch: 9, Time: 10, Target: 7, Name: "gone"},
		{Kind: recRelease, Epoch: 9, Time: 20, Name: "gone"},
	}
	if got := m.Records(); !slices.Equal(got, want) {
		t.Errorf("Records: %v", got)
	}
	if m.Epoch() != 9 {
		t.Errorf("Epoch: %d", m.Epoch())
	}
	for epoch := 3; epoch < 12; epoch++ {
		if m.Gone(epoch) != (epoch == 6) {
			t.Errorf("Gone(%d): %v", epoch, m.Gone(epoch))
		}
	}
	blocks := map[[2]int]string{
		{5, 0}: "zero of 5", {5, 1}: "one of 5", {5, 4}: "four of 5", {6, 1}: "one of 6", {6, 2}: "two of 6, again",
		{7, 0}: "zero of 7", {7, 5}: "", {8, 4}: "four of 8", {9, 3}: "three of 9, again", {9, 4}: "four of 9",
	}
	for epoch := 3; epoch < 12; epoch++ {
		for lba := -2; lba < 13; lba++ {
			want, is := blocks[[2]int{epoch, lba}]
			if data, ok := m.Block(epoch, lba); data != want || ok != is {
				t.Errorf("Block(%d, %d): %q %v", epoch, lba, data, ok)
			}
		}
	}
}

// crowd is shelf, and as many holds as may be.
func crowd() []api.Call {
	l := shelf()
	for i := range mostHolds - 1 {
		l = append(l, holds(5+2*(i%2), fmt.Sprintf("h%d", i)))
	}
	return l
}

// P24.2: each thing of a call at all that may make a difference, with each other one, where there is room, none, and not one block: whatever is wrong at once, the first of the table's order is told, and nothing is turned then.
func TestOrder(t *testing.T) {
	noneLeft := append(shelf(), closes())
	for _, x := range []struct {
		room  int
		row   []api.Call
		asked []api.Errno
	}{
		{3, nil, []api.Errno{api.OK, api.ErrRange, api.ErrArg, api.ErrNone, api.ErrOpen}},
		{shelfUses + 9, shelf(), []api.Errno{api.OK, api.ErrRange, api.ErrArg, api.ErrNone, api.ErrOpen, api.ErrPurged, api.ErrLess, api.ErrTwice, api.ErrEarly, api.ErrBack}},
		{shelfUses, shelf(), []api.Errno{api.OK, api.ErrRange, api.ErrArg, api.ErrNone, api.ErrOpen, api.ErrPurged, api.ErrLess, api.ErrTwice, api.ErrEarly, api.ErrBack, api.ErrFull}},
		{shelfUses, noneLeft, []api.Errno{api.OK, api.ErrRange, api.ErrArg, api.ErrNone, api.ErrOpen, api.ErrPurged, api.ErrLess, api.ErrTwice, api.ErrEarly, api.ErrBack, api.ErrFull, api.ErrLimit}},
		{shelfUses + 70, append(crowd(), ticks(30)), []api.Errno{api.OK, api.ErrRange, api.ErrArg, api.ErrNone, api.ErrOpen, api.ErrPurged, api.ErrLess, api.ErrTwice, api.ErrHeld, api.ErrBack, api.ErrFull}},
	} {
		m, p := made(t, small(x.room), x.row...)
		ahead := m.Copy()
		seen := map[api.Errno]int{}
		each(func(c api.Call) {
			q := plain{p.made, p.geo, p.row}
			want := q.do(c)
			seen[want.Err]++
			on := m
			if len(q.row) != len(p.row) {
				on = m.Copy()
			}
			does(t, on, c, want)
		})
		if !m.Same(ahead) {
			t.Errorf("it was turned")
		}
		like(t, m, p)
		for _, e := range x.asked {
			if seen[e] == 0 {
				t.Errorf("nothing was %d", e)
			}
		}
		if len(seen) != len(x.asked) {
			t.Errorf("answered: %v", seen)
		}
	}
}

// each goes through calls of all kinds, and some that are none, with each thing of them at all that may make a difference.
func each(do func(c api.Call)) {
	times := []int{-1, 0, 7, 10, 19, 20, 21, 29, 30, 31, lastTime, lastTime + 1}
	datas := []string{"", strings.Repeat("d", 4001)}
	for kind := -1; kind <= 15; kind++ {
		for _, lba := range []int{-1, 0, 1, 3, 6, 9, 10} {
			for _, epoch := range []int{-1, 0, 4, 5, 6, 7, 8, 9, 10, 11, lastEpoch + 1} {
				for _, time := range times {
					for _, name := range []string{"", "a", "b", "h0", "gone", "No"} {
						do(api.Call{Kind: kind, Lba: lba, Epoch: epoch, Time: time, Data: datas[(lba+epoch+time)&1], Name: name})
					}
				}
			}
		}
	}
}

// P24.2: CallWrite of places at the bounds and beyond them, with bytes at the bound and beyond it, and what is read behind it.
func TestWrite(t *testing.T) {
	for _, lbas := range []int{1, 2, 10, 4095, 4096} {
		m, p := made(t, api.Geo{Blocks: 100, Lbas: lbas, First: 3})
		for _, n := range []int{0, 1, 3999, 4000, 4001, 4096, 8001} {
			for _, lba := range []int{least, least + 1, -lastEpoch - 1, -4096, -1, 0, lbas / 2, lbas - 1, lbas, lbas + 1, 4096, lastEpoch + 1, most} {
				c := writes(lba, strings.Repeat(string(rune('a'+n%26)), n))
				want := api.OK
				if lba < 0 || lba >= lbas {
					want = api.ErrRange
				} else if n > 4000 {
					want = api.ErrArg
				}
				is(t, m, c, want)
				p.do(c)
				data, ok := m.Block(3, lba)
				if want == api.OK && (data != c.Data || !ok) {
					t.Fatalf("Block(3, %d): %q %v", lba, data, ok)
				}
				if want == api.OK {
					does(t, m, reads(lba), api.Answer{Data: c.Data})
				}
			}
			like(t, m, p)
		}
	}
}

// P24.2: all bytes there are may be written, and are read as they were.
func TestBytes(t *testing.T) {
	var all strings.Builder
	for i := range 256 {
		all.WriteByte(byte(i))
	}
	m := must(t, small(3))
	is(t, m, writes(4, all.String()), api.OK)
	does(t, m, reads(4), api.Answer{Data: all.String()})
}

// P24.2, P24.6: writes until no room is left, of shapes with little and with as much as may be: then the epoch can be closed once, and no more is done.
func TestFull(t *testing.T) {
	for _, blocks := range []int{8, 9, 12, 1023, 1024} {
		room := blocks - 5
		m, p := made(t, api.Geo{Blocks: blocks, Lbas: 7, First: 0})
		for i := range room {
			does(t, m, stats(), api.Answer{Stat: api.Stat{Free: room - i, Places: min(i, 7)}})
			is(t, m, writes(i%7, fmt.Sprint(i)), api.OK)
			p.do(writes(i%7, fmt.Sprint(i)))
		}
		is(t, m, writes(0, "a"), api.ErrFull)
		is(t, m, writes(7, "a"), api.ErrRange)
		is(t, m, writes(0, strings.Repeat("a", 4001)), api.ErrArg)
		like(t, m, p)
		is(t, m, closes(), api.OK)
		does(t, m, stats(), api.Answer{Stat: api.Stat{Epoch: 1, Records: 1, Places: min(room, 7)}})
		for _, c := range []api.Call{writes(0, "a"), keeps(0, 5), holds(0, "a"), purges(0)} {
			is(t, m, c, api.ErrFull)
		}
		is(t, m, releases("a"), api.ErrNone)
		is(t, m, closes(), api.ErrLimit)
		is(t, m, syncs(), api.OK)
		is(t, m, ticks(3), api.OK)
		does(t, m, reads(0), api.Answer{Data: fmt.Sprint((room - 1) / 7 * 7)})
		does(t, m, stats(), api.Answer{Stat: api.Stat{Epoch: 1, Clock: 3, Records: 1, Places: min(room, 7)}})
	}
}

// P24.2: what is sealed with no room left, of each kind, by what else is wrong with it: the book's errors are told ahead of ErrFull.
func TestFullBook(t *testing.T) {
	row := []api.Call{closes(), closes(), keeps(5, 9), holds(5, "a"), purges(6), ticks(4)}
	for _, room := range []int{5, 6} {
		m, p := made(t, small(room), row...)
		full := api.OK
		if room == 5 {
			full = api.ErrFull
		}
		for _, x := range []struct {
			c   api.Call
			why api.Errno
		}{
			{keeps(5, 8), api.ErrLess}, {keeps(5, 9), full}, {keeps(6, 9), api.ErrPurged}, {keeps(7, 9), api.ErrOpen}, {keeps(8, 9), api.ErrNone}, {keeps(5, lastTime+1), api.ErrArg},
			{holds(5, "a"), api.ErrTwice}, {holds(5, "b"), full}, {holds(6, "b"), api.ErrPurged}, {holds(7, "b"), api.ErrOpen}, {holds(4, "b"), api.ErrNone}, {holds(5, "-"), api.ErrArg},
			{releases("a"), full}, {releases("b"), api.ErrNone}, {releases("-"), api.ErrArg},
			{purges(5), api.ErrEarly}, {purges(6), api.ErrPurged}, {purges(7), api.ErrOpen}, {purges(8), api.ErrNone},
			{writes(0, "a"), full}, {closes(), api.OK},
		} {
			is(t, m.Copy(), x.c, x.why)
		}
		like(t, m, p)
		is(t, m, ticks(9), api.OK)
		is(t, m, purges(5), api.ErrHeld)
		p.do(ticks(9))
		like(t, m, p)
	}
	m, _ := made(t, small(3), closes(), closes(), keeps(5, 9))
	for _, x := range []struct {
		now int
		why api.Errno
	}{{8, api.ErrEarly}, {9, api.ErrFull}, {10, api.ErrFull}} {
		is(t, m, ticks(x.now), api.OK)
		is(t, m, purges(5), x.why)
		is(t, m, purges(6), api.ErrFull)
		if m.Gone(5) || m.Gone(6) {
			t.Error("it was purged")
		}
	}
}

// P24.2: CallRead and CallReadAt of places never written, written once, written again in the same epoch, and in later ones, as of each epoch there is, and of those that are none.
func TestRead(t *testing.T) {
	for _, first := range []int{0, 1, 5, 1 << 31, lastEpoch - 4} {
		g := api.Geo{Blocks: 40, Lbas: 6, First: first}
		m, p := made(t, g)
		for i := range 4 {
			for _, c := range []api.Call{writes(i, fmt.Sprint(i)), writes(4, fmt.Sprint("four ", i)), writes(4, fmt.Sprint("four again ", i)), closes()} {
				step(t, m, p, c)
				like(t, m, p)
			}
		}
		for i := range 4 {
			for epoch := first - 1; epoch <= first+5; epoch++ {
				want := api.Answer{Err: api.ErrNone}
				if epoch >= first+i && epoch <= first+4 {
					want = api.Answer{Data: fmt.Sprint(i)}
				}
				does(t, m, readsAt(i, epoch), want)
				four := api.Answer{Data: fmt.Sprint("four again ", min(epoch-first, 3))}
				if epoch < first || epoch > first+4 {
					four = api.Answer{Err: api.ErrNone}
				}
				does(t, m, readsAt(4, epoch), four)
				does(t, m, readsAt(5, epoch), api.Answer{Err: api.ErrNone})
				does(t, m, readsAt(6, epoch), api.Answer{Err: api.ErrRange})
			}
			does(t, m, reads(i), api.Answer{Data: fmt.Sprint(i)})
		}
		for _, epoch := range far() {
			if epoch < first || epoch > first+4 {
				is(t, m, readsAt(4, epoch), api.ErrNone)
				is(t, m, readsAt(-1, epoch), api.ErrRange)
			}
		}
		does(t, m, reads(4), api.Answer{Data: "four again 3"})
		is(t, m, reads(5), api.ErrNone)
	}
}

// P24.2: of a place whose newest version's epoch was purged nothing is read as of it, though an older one was not; one that is written behind is read; and an older purge does no harm to a newer one.
func TestReadPurged(t *testing.T) {
	row := []api.Call{writes(1, "a"), closes(), writes(1, "b"), closes(), writes(1, "c"), closes()}
	for gone := 5; gone < 8; gone++ {
		m, p := made(t, small(20), append(row, purges(gone))...)
		for i, data := range []string{"a", "b", "c"} {
			want := api.Answer{Data: data}
			if 5+i == gone {
				want = api.Answer{Err: api.ErrPurged}
			}
			does(t, m, readsAt(1, 5+i), want)
			if i == 2 {
				does(t, m, reads(1), want)
				does(t, m, readsAt(1, 8), want)
			}
			if got, ok := m.Block(5+i, 1); got != data || !ok {
				t.Errorf("Block(%d, 1): %q %v", 5+i, got, ok)
			}
		}
		like(t, m, p)
		step(t, m, p, writes(1, "d"))
		does(t, m, reads(1), api.Answer{Data: "d"})
		does(t, m, readsAt(1, 8), api.Answer{Data: "d"})
		like(t, m, p)
	}
}

// P24.2: CallSync turns nothing, and is never refused.
func TestSync(t *testing.T) {
	for _, room := range []int{shelfUses, shelfUses + 1} {
		m, p := made(t, small(room), shelf()...)
		for _, c := range []api.Call{syncs(), {Kind: sync, Lba: -1, Epoch: -1, Time: -1, Data: strings.Repeat("a", 5000), Name: "No", Keep: []int{-1}}, closes(), syncs()} {
			is(t, m, c, api.OK)
			p.do(c)
			like(t, m, p)
		}
	}
}

// P24.2: the Count of a closure: how many places have a version of the open epoch, with no place, one, the same one twice, many; versions of epochs ahead do not count.
func TestLeaves(t *testing.T) {
	var all []int
	for lba := range 10 {
		all = append(all, lba)
	}
	m, p := made(t, small(200))
	for i, x := range []struct {
		lbas []int
		want int
	}{{nil, 0}, {[]int{3}, 1}, {[]int{3, 3}, 1}, {[]int{9, 0, 9, 0, 9}, 2}, {nil, 0}, {all, 10}, {[]int{9}, 1}, {append(all, all...), 10}, {nil, 0}} {
		for _, lba := range x.lbas {
			step(t, m, p, writes(lba, "a"))
		}
		step(t, m, p, ticks(3*i))
		step(t, m, p, closes())
		l := m.Records()
		want := api.Record{Kind: recClose, Epoch: 5 + i, Time: 3 * i, Count: x.want, Root: string(make([]byte, 32))}
		if len(l) != i+1 || l[i] != want {
			t.Fatalf("Records: %v, asked %v at the end", l, want)
		}
		if m.Epoch() != 6+i {
			t.Fatalf("Epoch: %d", m.Epoch())
		}
		like(t, m, p)
	}
}

// P24.2: CallClose with no block left, with one, and with two.
func TestLastBlocks(t *testing.T) {
	for room := range 5 {
		m, p := made(t, small(max(room, 3)))
		for range max(room, 3) - room {
			step(t, m, p, writes(2, "a"))
		}
		for i := range room + 1 {
			is(t, m, closes(), api.OK)
			p.do(closes())
			if m.Epoch() != 6+i {
				t.Fatalf("Epoch: %d", m.Epoch())
			}
			like(t, m, p)
		}
		is(t, m, closes(), api.ErrLimit)
		is(t, m, closes(), api.ErrLimit)
		like(t, m, p)
	}
}

// P24.2: CallClose at the epochs 2^32 - 2 and 2^32 - 1: the last one is not closed, however much room there is; all else may be done in it.
func TestLastEpoch(t *testing.T) {
	for _, first := range []int{lastEpoch - 2, lastEpoch - 1, lastEpoch} {
		m, p := made(t, api.Geo{Blocks: 30, Lbas: 3, First: first})
		for epoch := first; epoch < lastEpoch; epoch++ {
			step(t, m, p, writes(1, fmt.Sprint(epoch)))
			is(t, m, closes(), api.OK)
			p.do(closes())
			if m.Epoch() != epoch+1 {
				t.Fatalf("Epoch: %d", m.Epoch())
			}
			like(t, m, p)
		}
		is(t, m, closes(), api.ErrLimit)
		for _, c := range []api.Call{writes(1, "last"), reads(1), readsAt(1, lastEpoch), readsAt(1, lastEpoch-1), keeps(lastEpoch-1, 3), keeps(lastEpoch, 3), holds(lastEpoch-1, "a"), holds(lastEpoch, "b"), purges(lastEpoch - 2), purges(lastEpoch), releases("a"), ticks(9), purges(lastEpoch - 1), reads(1)} {
			step(t, m, p, c)
			is(t, m, closes(), api.ErrLimit)
			like(t, m, p)
		}
	}
}

// meant are epochs about those of a model: one less than First, First, an inner one, the last closed one, the open one, one more, and some that are far.
func meant(p *plain) []int {
	return append(far(), p.geo.First-1, p.geo.First, p.geo.First+1, p.epoch()-1, p.epoch(), p.epoch()+1)
}

// P24.2: each call that means an epoch, with epochs that are none, open, closed and purged, each on a model of its own.
func TestMeant(t *testing.T) {
	for _, first := range []int{0, 1, 5, lastEpoch - 5} {
		for closed := range 4 {
			row := []api.Call{writes(0, "a")}
			for range closed {
				row = append(row, closes())
			}
			if closed > 2 {
				row = append(row, purges(first+1))
			}
			m, p := made(t, api.Geo{Blocks: 20, Lbas: 2, First: first}, row...)
			for _, epoch := range meant(p) {
				want := api.OK
				switch {
				case epoch < first || epoch > first+closed:
					want = api.ErrNone
				case epoch == first+closed:
					want = api.ErrOpen
				case closed > 2 && epoch == first+1:
					want = api.ErrPurged
				}
				for _, c := range []api.Call{keeps(epoch, 7), keeps(epoch, 0), holds(epoch, "x"), purges(epoch)} {
					n, q := m.Copy(), p.copied()
					is(t, n, c, want)
					q.do(c)
					like(t, n, q)
				}
			}
			like(t, m, p)
		}
	}
}

// P24.2: CallRetain by its Time, behind nothing said, and behind a deadline.
func TestRetain(t *testing.T) {
	for _, until := range []int{0, 1, 9, lastTime - 1, lastTime} {
		m, p := made(t, small(40), ticks(4), closes(), closes(), keeps(5, until))
		for _, time := range []int{least, -1, 0, 1, 3, 4, 5, until - 1, until, until + 1, lastTime - 1, lastTime, lastTime + 1, most} {
			want := api.OK
			switch {
			case time < 0 || time > lastTime:
				want = api.ErrArg
			case time < until:
				want = api.ErrLess
			}
			n := m.Copy()
			is(t, n, keeps(5, time), want)
			if want == api.ErrLess {
				want = api.OK
			}
			is(t, n, keeps(6, time), want)
			l := n.Records()
			if last := (api.Record{Kind: recRetain, Epoch: 7, Time: 4, Target: 6, Until: time}); want == api.OK && l[len(l)-1] != last {
				t.Errorf("Records: %v", l)
			}
		}
		like(t, m, p)
	}
}

// P24.2: CallHold and CallRelease by their Name.
func TestNames(t *testing.T) {
	m, p := made(t, small(40), ticks(4), closes(), closes())
	right := []string{"a", "z", "0", "9", "az09", strings.Repeat("a", 15), strings.Repeat("z", 16), "0123456789abcdef"}
	wrong := []string{"", strings.Repeat("a", 17), strings.Repeat("a", 5000), "A", "aB", "a ", " a", "-", "a_b", "`", "{", "/", ":", "\x00", "a\x00", "\xff", "\xe9", "\u00e9", "a\n", "aaaaaaaaaaaaaaaA"}
	for _, name := range right {
		n, q := m.Copy(), p.copied()
		is(t, n, releases(name), api.ErrNone)
		for i, c := range []api.Call{holds(5, name), holds(5, name), holds(6, name), releases(name), releases(name), holds(6, name)} {
			want := []api.Errno{api.OK, api.ErrTwice, api.ErrTwice, api.OK, api.ErrNone, api.OK}[i]
			is(t, n, c, want)
			q.do(c)
			like(t, n, q)
		}
	}
	for _, name := range wrong {
		for _, epoch := range []int{4, 5, 6, 7, 8} {
			is(t, m, holds(epoch, name), api.ErrArg)
		}
		is(t, m, releases(name), api.ErrArg)
	}
	like(t, m, p)
}

// P24.2: 64 holds may be, 65 not; behind a release another one may.
func TestManyHolds(t *testing.T) {
	m, p := made(t, small(200), closes(), closes(), closes(), purges(7))
	for i := range mostHolds {
		if e := step(t, m, p, holds(5+i%2, fmt.Sprint(i))); e != api.OK {
			t.Fatalf("the hold %d is refused: %d", i, e)
		}
	}
	like(t, m, p)
	for _, x := range []struct {
		c   api.Call
		why api.Errno
	}{
		{holds(5, "more"), api.ErrFull}, {holds(6, "0"), api.ErrTwice}, {holds(7, "more"), api.ErrPurged}, {holds(8, "more"), api.ErrOpen}, {holds(5, "More"), api.ErrArg},
		{releases("more"), api.ErrNone}, {releases("63"), api.OK}, {holds(6, "more"), api.OK}, {holds(6, "63"), api.ErrFull}, {releases("0"), api.OK}, {holds(5, "63"), api.OK}, {holds(5, "0"), api.ErrFull},
		{purges(5), api.ErrHeld},
	} {
		is(t, m, x.c, x.why)
		p.do(x.c)
		like(t, m, p)
	}
	for i := range mostHolds {
		step(t, m, p, releases(fmt.Sprint(i)))
	}
	step(t, m, p, releases("more"))
	does(t, m, stats(), api.Answer{Stat: p.stat()})
	if p.holds() != 0 {
		t.Fatalf("%d are left", p.holds())
	}
	is(t, m, purges(5), api.OK)
	is(t, m, purges(6), api.OK)
}

// P24.2: CallPurge ahead of, at and behind the deadline, under a hold and behind its release, twice, and of an epoch that nothing was said of; the Time of the call says nothing.
func TestPurge(t *testing.T) {
	for _, until := range []int{0, 1, 9, lastTime} {
		for _, now := range []int{0, 1, 8, 9, 10, lastTime - 1, lastTime} {
			m, p := made(t, small(40), writes(1, "a"), closes(), writes(2, "b"), closes(), keeps(5, until), holds(5, "a"), ticks(now))
			want := api.OK
			if now < until {
				want = api.ErrEarly
			}
			held := want
			if want == api.OK {
				held = api.ErrHeld
			}
			is(t, m, purges(5), held)
			like(t, m, p)
			is(t, m, holds(6, "b"), api.OK)
			is(t, m, releases("a"), api.OK)
			p.do(holds(6, "b"))
			p.do(releases("a"))
			is(t, m, api.Call{Kind: purge, Epoch: 5, Time: until + 7, Lba: -1, Name: "No"}, want)
			p.do(purges(5))
			like(t, m, p)
			if m.Gone(5) != (want == api.OK) || m.Gone(6) {
				t.Fatalf("at %d, kept until %d: %v", now, until, m.Gone(5))
			}
			l := m.Records()
			if last := (api.Record{Kind: recPurge, Epoch: 7, Time: now, Target: 5, Until: until}); want == api.OK && l[len(l)-1] != last {
				t.Fatalf("Records: %v", l)
			}
			if want == api.OK {
				want = api.ErrPurged
			}
			is(t, m, purges(5), want)
			is(t, m, purges(6), api.ErrHeld)
			is(t, m, releases("b"), api.OK)
			is(t, m, purges(6), api.OK)
		}
	}
}

// P24.2: CallTick back, to the same, on, to what is no time; and the Time of what is sealed behind it, whatever the time of that ahead.
func TestTick(t *testing.T) {
	m, p := made(t, small(200))
	shows := 0
	for _, x := range []struct {
		to  int
		why api.Errno
	}{
		{-1, api.ErrArg}, {0, api.OK}, {5, api.OK}, {4, api.ErrBack}, {5, api.OK}, {0, api.ErrBack}, {-1, api.ErrArg}, {least, api.ErrArg}, {6, api.OK}, {most, api.ErrArg}, {lastTime + 1, api.ErrArg}, {5, api.ErrBack},
		{1 << 32, api.OK}, {1<<32 - 1, api.ErrBack}, {lastTime - 1, api.OK}, {lastTime, api.OK}, {lastTime, api.OK}, {lastTime - 1, api.ErrBack}, {lastTime + 1, api.ErrArg}, {0, api.ErrBack},
	} {
		is(t, m, ticks(x.to), x.why)
		p.do(ticks(x.to))
		if x.why == api.OK {
			shows = x.to
		}
		for _, c := range []api.Call{closes(), keeps(p.geo.First, lastTime), holds(p.geo.First, "a"), releases("a")} {
			is(t, m, c, api.OK)
			p.do(c)
			l := m.Records()
			if l[len(l)-1].Time != shows || l[len(l)-1].Kind == 0 {
				t.Fatalf("behind %d: %v", x.to, l[len(l)-1])
			}
		}
		if got := m.Do(stats()).Stat.Clock; got != shows {
			t.Fatalf("behind %d the clock shows %d, asked %d", x.to, got, shows)
		}
		like(t, m, p)
	}
}

// P24.2, P1: what the answer of a call that tells neither data nor numbers is there: none; nor beside an error; and what a call says that its kind does not ask turns nothing.
func TestAnswers(t *testing.T) {
	m, _ := made(t, small(60), shelf()...)
	full := api.Call{Lba: 3, Epoch: 8, Time: 31, Data: "data", Name: "name", Keep: []int{1, 2}}
	for kind := range 16 {
		c := full
		c.Kind = kind
		n := m.Copy()
		got := n.Do(c)
		want := map[int]api.Answer{
			read:    {Data: "three of 9, again"},
			readAt:  {Err: api.ErrNone},
			release: {Err: api.ErrNone},
			stat:    {Stat: api.Stat{Epoch: 9, Clock: 20, Free: 60 - shelfUses, Records: 11, Places: 6, Holds: 1}},
		}[kind]
		if kind < write || kind > tick {
			want.Err = api.ErrArg
		}
		if got != want {
			t.Errorf("Do(%s): %v, asked %v", short(c), got, want)
		}
		bare := map[int]api.Call{
			write: writes(3, "data"), closing: closes(), keep: keeps(8, 31), hold: holds(8, "name"), purge: purges(8), tick: ticks(31),
		}[kind]
		o := m.Copy()
		if bare.Kind != 0 {
			is(t, o, bare, api.OK)
		}
		if !n.Same(o) {
			t.Errorf("Do(%s) turns more than it says", short(c))
		}
	}
	if !slices.Equal(full.Keep, []int{1, 2}) {
		t.Error("what was handed in was turned")
	}
}

// P24.3: Block, Gone and Epoch of epochs far beyond, and of places that are none, behind each call of shelf; Block tells what was purged, too.
func TestLooks(t *testing.T) {
	m, p := made(t, small(40))
	like(t, m, p)
	for _, c := range shelf() {
		step(t, m, p, c)
		like(t, m, p)
	}
	for _, epoch := range far() {
		if m.Gone(epoch) {
			t.Errorf("Gone(%d)", epoch)
		}
		for _, lba := range far() {
			if data, ok := m.Block(epoch, lba); data != "" || ok {
				t.Errorf("Block(%d, %d): %q", epoch, lba, data)
			}
		}
	}
	if data, ok := m.Block(6, 1); data != "one of 6" || !ok || !m.Gone(6) {
		t.Errorf("of a purged epoch: %q %v", data, ok)
	}
}

// Rule 3: what Records hands out is the caller's own.
func TestOwn(t *testing.T) {
	m, p := made(t, small(40), shelf()...)
	l := m.Records()
	for i := range l {
		l[i] = api.Record{Kind: -1}
	}
	_ = append(l[:1], api.Record{Name: "x"})
	like(t, m, p)
	a, b := m.Records(), m.Records()
	a[0].Kind = 77
	if b[0].Kind != recClose {
		t.Error("two lists are one")
	}
	long := append(m.Records(), api.Record{Kind: 9})
	step(t, m, p, closes())
	if long[len(long)-1].Kind != 9 {
		t.Error("a list that was handed out is turned")
	}
	_ = append(m.Records(), api.Record{Kind: 9})
	like(t, m, p)
	step(t, m, p, closes())
	like(t, m, p)
}

// P24.3: Same of models that took the same, or what comes to the same, and of those that differ in one thing alone; whichever stands on which side.
func TestSame(t *testing.T) {
	base := []api.Call{ticks(3), writes(1, "a"), closes(), keeps(5, 9), writes(2, "b")}
	add := func(l ...api.Call) []api.Call { return append(slices.Clone(base), l...) }
	g := small(40)
	for _, x := range []struct {
		name  string
		a     api.Geo
		left  []api.Call
		b     api.Geo
		right []api.Call
		want  bool
	}{
		{"nothing", g, nil, g, nil, true},
		{"the same", g, base, g, base, true},
		{"asked between", g, base, g, add(reads(1), readsAt(1, 5), syncs(), stats(), ticks(3)), true},
		{"ticked in two steps", g, add(ticks(9)), g, add(ticks(4), ticks(7), ticks(9)), true},
		{"Blocks", g, base, api.Geo{Blocks: 46, Lbas: 10, First: 5}, base, false},
		{"Lbas", g, base, api.Geo{Blocks: 45, Lbas: 11, First: 5}, base, false},
		{"First", g, nil, api.Geo{Blocks: 45, Lbas: 10, First: 6}, nil, false},
		{"First, behind a closure", g, []api.Call{closes()}, api.Geo{Blocks: 45, Lbas: 10, First: 6}, nil, false},
		{"clock", g, base, g, add(ticks(4)), false},
		{"one more block", g, base, g, add(writes(2, "b")), false},
		{"one more record", g, base, g, add(keeps(5, 9)), false},
		{"a closure", g, base, g, add(closes()), false},
		{"what is said", g, add(keeps(5, 10)), g, add(keeps(5, 11)), false},
		{"which name", g, add(holds(5, "a")), g, add(holds(5, "b")), false},
		{"the kind of a record", g, add(keeps(5, 9)), g, add(holds(5, "a")), false},
		{"the time of a record", g, add(holds(5, "a"), ticks(4)), g, add(ticks(4), holds(5, "a")), false},
		{"the order of records", g, add(holds(5, "a"), holds(5, "b")), g, add(holds(5, "b"), holds(5, "a")), false},
		{"a hold that was released", g, add(holds(5, "a"), releases("a")), g, add(holds(5, "b"), releases("b")), false},
		{"which epoch", g, []api.Call{closes(), closes(), purges(5)}, g, []api.Call{closes(), closes(), purges(6)}, false},
		{"data of a version", g, add(writes(3, "c")), g, add(writes(3, "d")), false},
		{"less data", g, add(writes(3, "c")), g, add(writes(3, "")), false},
		{"place of a version", g, add(writes(3, "c")), g, add(writes(4, "c")), false},
		{"epoch of a version", g, []api.Call{writes(1, "a"), writes(1, "b"), closes()}, g, []api.Call{writes(1, "a"), closes(), writes(1, "b")}, false},
		{"epoch of a version alone", g, []api.Call{writes(1, "a"), closes(), writes(2, "b"), closes(), writes(1, "a"), closes()}, g, []api.Call{writes(1, "a"), closes(), writes(1, "b"), closes(), writes(2, "a"), closes()}, false},
		{"the order of versions", g, add(writes(3, "c"), writes(4, "d")), g, add(writes(4, "d"), writes(3, "c")), false},
		{"the order of versions of one place", g, add(writes(3, "c"), writes(3, "d")), g, add(writes(3, "d"), writes(3, "c")), false},
		{"an older version of one place", g, add(writes(3, "c"), writes(3, "d")), g, add(writes(3, "e"), writes(3, "d")), false},
		{"a write instead of a record", g, add(writes(3, "c")), g, add(holds(5, "a")), false},
		{"a record ahead of a write", g, add(writes(3, "c"), holds(5, "a")), g, add(holds(5, "a"), writes(3, "c")), true},
	} {
		a, _ := made(t, x.a, x.left...)
		b, _ := made(t, x.b, x.right...)
		if a.Same(b) != x.want || b.Same(a) != x.want {
			t.Errorf("%s: %v and %v, asked %v", x.name, a.Same(b), b.Same(a), x.want)
		}
		for _, m := range []*model.Model{a, b} {
			if c := m.Copy(); !m.Same(m) || !m.Same(c) || !c.Same(m) || !c.Copy().Same(m) {
				t.Errorf("%s: it is not the same as itself", x.name)
			}
			for name, o := range none() {
				if m.Same(o) || o.Same(m) {
					t.Errorf("%s: it is the same as %s", x.name, name)
				}
			}
		}
	}
	for left, m := range none() {
		for right, o := range none() {
			if m.Same(o) {
				t.Errorf("%s is the same as %s", left, right)
			}
		}
	}
}

// further are calls that the model of shelf takes, each of which turns it.
func further() []api.Call {
	return []api.Call{writes(0, "more"), writes(6, "more"), ticks(40), closes(), keeps(5, 50), keeps(8, 3), holds(5, "b"), releases("a"), purges(7), purges(8)}
}

// P24.3: a Copy that is turned behind it, and a model that is turned behind its Copy: the other one is told in each case as it was.
func TestCopy(t *testing.T) {
	for _, c := range further() {
		m, p := made(t, small(40), shelf()...)
		twin, _ := made(t, small(40), shelf()...)
		n := m.Copy()
		like(t, n, p)
		is(t, n, c, api.OK)
		like(t, m, p)
		if !m.Same(twin) || m.Same(n) {
			t.Errorf("behind Do(%s) of its copy: %v %v", short(c), m.Same(twin), m.Same(n))
		}
		n = m.Copy()
		is(t, m, c, api.OK)
		like(t, n, p)
		if !n.Same(twin) || m.Same(n) {
			t.Errorf("behind Do(%s) its copy is turned", short(c))
		}
	}
	m, p := made(t, small(60), shelf()...)
	n, q := m.Copy(), p.copied()
	for i, c := range further() {
		d := further()[len(further())-1-i]
		step(t, m, p, c)
		step(t, n, q, d)
		like(t, m, p)
		like(t, n, q)
	}
	if n == m || n.Copy() == n {
		t.Error("a copy is the same thing")
	}
	for name, m := range none() {
		if n := m.Copy(); n != nil {
			t.Errorf("a copy of %s", name)
		}
	}
}

// A value that was parted by * is one model still, so that none of both tells what the other does not.
func TestParted(t *testing.T) {
	m, p := made(t, small(40), shelf()...)
	n := *m
	step(t, &n, p, writes(1, "x"))
	like(t, m, p)
	step(t, m, p, closes())
	like(t, &n, p)
}

// letters are calls of which rows are made: of each kind what is taken, and what is refused.
func letters() []api.Call {
	return []api.Call{
		writes(0, "a"), writes(1, "b"), writes(2, "c"), closes(), ticks(2), ticks(1), keeps(5, 2), keeps(6, 1), holds(5, "a"), holds(6, "b"), releases("a"), releases("b"), purges(5), purges(6), reads(0), readsAt(1, 5), syncs(), stats(), {Kind: 12},
	}
}

// P24.2 to P24.4: all short rows of calls, on shapes with room for one, and for more of them than there are.
func TestShortRows(t *testing.T) {
	var rows func(m *model.Model, p *plain, left int)
	rows = func(m *model.Model, p *plain, left int) {
		if left == 0 {
			return
		}
		for _, c := range letters() {
			n, q := m.Copy(), p.copied()
			step(t, n, q, c)
			does(t, n, stats(), api.Answer{Stat: q.stat()})
			does(t, n, reads(0), q.do(reads(0)))
			does(t, n, readsAt(1, 5), q.do(readsAt(1, 5)))
			if left == 1 {
				looks(t, n, q)
			}
			rows(n, q, left-1)
		}
	}
	for _, g := range []api.Geo{{Blocks: 8, Lbas: 2, First: 5}, {Blocks: 30, Lbas: 3, First: 5}} {
		m, p := made(t, g)
		rows(m, p, 3)
		m, p = made(t, g, writes(0, "z"), closes())
		rows(m, p, 3)
	}
}

// looks holds against the plain model what is told of a few epochs and places.
func looks(t *testing.T, m *model.Model, p *plain) {
	t.Helper()
	if got, want := m.Records(), p.records(); m.Epoch() != p.epoch() || !slices.Equal(got, want) {
		t.Fatalf("it tells %d %v, asked %d %v", m.Epoch(), got, p.epoch(), want)
	}
	for epoch := p.geo.First - 1; epoch <= p.epoch()+1; epoch++ {
		if m.Gone(epoch) != p.gone(epoch) {
			t.Fatalf("Gone(%d): %v", epoch, m.Gone(epoch))
		}
		for lba := -1; lba < 4; lba++ {
			got, ok := m.Block(epoch, lba)
			if want, is := p.block(epoch, lba); got != want || ok != is {
				t.Fatalf("Block(%d, %d): %q %v, asked %q %v", epoch, lba, got, ok, want, is)
			}
		}
	}
}

// someCall is one of any kind, of which more than every second one may be taken.
func someCall(r *rand.Rand, p *plain) api.Call {
	open := p.epoch()
	epoch := p.geo.First + r.Intn(open-p.geo.First+1)
	if r.Intn(8) == 0 {
		epoch = p.geo.First - 1 + r.Intn(open-p.geo.First+3)
	}
	time := p.time() + r.Intn(5)
	if r.Intn(6) == 0 {
		time = p.until(epoch) - 1 + r.Intn(3)
	}
	c := api.Call{Kind: write + r.Intn(tick), Lba: r.Intn(p.geo.Lbas), Epoch: epoch, Time: time, Data: fmt.Sprint("d", r.Intn(1000)), Name: fmt.Sprint("n", r.Intn(4))}
	switch r.Intn(20) {
	case 0:
		c.Lba = r.Intn(3*p.geo.Lbas) - p.geo.Lbas
	case 1:
		c.Kind = r.Intn(20) - 3
	case 2:
		c.Name = "No"
	case 3:
		c.Data = strings.Repeat("d", 3998+r.Intn(5))
	case 4:
		c.Time = far()[r.Intn(len(far()))]
	case 5, 6, 7:
		c.Kind = write
	}
	return c
}

// row is some call, but that the clock is put far on in few of them: nothing is early behind it.
func row(r *rand.Rand, p *plain) api.Call {
	for {
		c := someCall(r, p)
		if c.Kind != tick || c.Time < p.time()+1000 || r.Intn(50) == 0 {
			return c
		}
	}
}

// P24.1 to P24.6: rows of many calls at random, of many shapes, held against the chapter's words; with a copy at some place of the row, which stays as it was.
func TestRows(t *testing.T) {
	r := rand.New(rand.NewSource(24))
	seen := map[api.Errno]int{}
	for range 150 {
		g := api.Geo{Blocks: 8 + r.Intn(60), Lbas: 1 + r.Intn(6), First: []int{0, 1, 5, lastEpoch - 6}[r.Intn(4)]}
		m, p := made(t, g)
		kept, its := m.Copy(), p.copied()
		for i := range 90 {
			seen[step(t, m, p, row(r, p))]++
			looks(t, m, p)
			does(t, m, stats(), api.Answer{Stat: p.stat()})
			if i == 30 {
				kept, its = m.Copy(), p.copied()
			}
		}
		like(t, m, p)
		like(t, kept, its)
	}
	for e := api.OK; e <= api.ErrPurged; e++ {
		// nothing is nil, and bytes are not taken
		if isTold := e != api.ErrNil && e != api.ErrForm; isTold != (seen[e] > 0) {
			t.Errorf("%d was told %d times", e, seen[e])
		}
	}
}

// P24.4: what is refused turns nothing, nor does what only asks: a row with all such calls between the others ends as the row without them.
func TestRefused(t *testing.T) {
	m, p := made(t, small(shelfUses+1))
	for _, c := range append(shelf(), writes(1, "last")) {
		ahead := m.Copy()
		each := append(letters(), shelf()...)
		each = append(each, further()...)
		for _, d := range each {
			q := plain{p.made, p.geo, p.row}
			if want := q.do(d); want.Err != api.OK || len(q.row) == len(p.row) {
				does(t, m, d, want)
			}
		}
		if !m.Same(ahead) {
			t.Fatalf("it was turned ahead of Do(%s)", short(c))
		}
		step(t, m, p, c)
	}
	twin, _ := made(t, small(shelfUses+1), append(shelf(), writes(1, "last"))...)
	if !m.Same(twin) {
		t.Error("it is not the same as without what was refused")
	}
	like(t, m, p)
}

// P24.5: what was read as of a closed epoch is read so behind each call, until the epoch that it is of is purged.
func TestOnceWritten(t *testing.T) {
	r := rand.New(rand.NewSource(5))
	purged := 0
	for range 60 {
		m, p := made(t, api.Geo{Blocks: 80, Lbas: 4, First: 5})
		was := map[[2]int]api.Answer{}
		of := map[[2]int]int{}
		for range 100 {
			c := row(r, p)
			e := step(t, m, p, c)
			for at, want := range was {
				if m.Gone(of[at]) && want.Err == api.OK {
					want = api.Answer{Err: api.ErrPurged}
					was[at] = want
					purged++
				}
				does(t, m, readsAt(at[0], at[1]), want)
			}
			if c.Kind != closing || e != api.OK {
				continue
			}
			epoch := m.Epoch() - 1
			for lba := range 4 {
				at := [2]int{lba, epoch}
				was[at] = m.Do(readsAt(lba, epoch))
				of[at] = -1
				if v, ok := p.newest(lba, epoch); ok {
					of[at] = v.epoch
				}
			}
		}
	}
	if purged < 20 {
		t.Errorf("only %d were purged", purged)
	}
}

// P24.6: whatever was written, an epoch that is open can be closed, as long as a block is left and it is not the last one; and one block is left, until an epoch was closed with the last one.
func TestClosing(t *testing.T) {
	r := rand.New(rand.NewSource(6))
	ended := 0
	for range 80 {
		m, p := made(t, api.Geo{Blocks: 8 + r.Intn(20), Lbas: 1 + r.Intn(4), First: []int{0, 7, lastEpoch - 4}[r.Intn(3)]})
		isEnd := false
		for range 60 {
			want := api.OK
			if isEnd || m.Epoch() == lastEpoch {
				want = api.ErrLimit
			}
			n := m.Copy()
			is(t, n, closes(), want)
			free := m.Do(stats()).Stat.Free
			c := row(r, p)
			if e := step(t, m, p, c); c.Kind == closing && e == api.OK && free == 0 {
				isEnd = true
				ended++
			}
		}
	}
	if ended < 20 {
		t.Errorf("only %d came to the end", ended)
	}
}

// P24.1: each call of nil and of a Model that no call made: ErrNil, empty, false, none, nil, 0, whatever it is; and they are as they were behind it.
func TestNone(t *testing.T) {
	for name, m := range none() {
		for range 2 {
			each := append(letters(), shelf()...)
			for kind := -2; kind < 20; kind++ {
				each = append(each, api.Call{Kind: kind, Lba: -1, Epoch: -1, Time: -1, Data: strings.Repeat("a", 5000), Name: "No"})
			}
			for _, c := range each {
				does(t, m, c, api.Answer{Err: api.ErrNil})
			}
			for _, n := range far() {
				if data, ok := m.Block(n, 0); data != "" || ok || m.Gone(n) {
					t.Errorf("%s tells something of %d", name, n)
				}
			}
			if m.Epoch() != 0 || len(m.Records()) != 0 || m.Copy() != nil || m.Same(m) || m.Same(nil) || m.Same(must(t, small(3))) {
				t.Errorf("%s tells something", name)
			}
		}
		if m != nil && *m != (model.Model{}) {
			t.Errorf("%s was turned", name)
		}
	}
}

// Rule 6: two models side by side, of which one is given calls and the other not; and two that are given unlike ones, by turns.
func TestSideBySide(t *testing.T) {
	a, p := made(t, small(60))
	b, q := made(t, small(60))
	still, s := made(t, small(60), shelf()...)
	l := append(shelf(), further()...)
	for i, c := range l {
		step(t, a, p, c)
		like(t, b, q)
		step(t, b, q, l[(i*7+3)%len(l)])
		like(t, a, p)
	}
	like(t, still, s)
	if twin, _ := made(t, small(60), shelf()...); !still.Same(twin) {
		t.Error("one that was given nothing was turned")
	}
}

// P1, P2: rows of calls made of any bytes.
func FuzzCalls(f *testing.F) {
	f.Add([]byte{0, 0, 1, 2, 3, 4, 5, 6, 7, 8, 9}, int64(1))
	f.Add([]byte("ADaadfaABaBDEdfjekEFDaaEfe"), int64(lastEpoch-2))
	f.Add([]byte{1, 4, 4, 1, 4, 4, 5, 6, 7, 8, 9, 10, 11, 12, 255}, int64(-1))
	f.Fuzz(func(t *testing.T, row []byte, first int64) {
		g := api.Geo{Blocks: 8 + len(row)%30, Lbas: 1 + len(row)%7, First: int(first)}
		m, e := model.New(g)
		p, want := plainOf(g)
		if e != want {
			t.Fatalf("New(%v): %d, asked %d", g, e, want)
		}
		if m == nil {
			return
		}
		for i, b := range row[:min(len(row), 60)] {
			c := letters()[int(b)%len(letters())]
			c.Epoch += int(first) - 5
			c.Lba += int(b) >> 6
			if b > 250 {
				c = api.Call{Kind: i, Lba: int(first) + i, Epoch: int(first) - i, Time: int(first) * i, Data: string(row[i:]), Name: string(row[:i])}
			}
			step(t, m, p, c)
		}
		like(t, m, p)
	})
}
