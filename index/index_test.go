package index_test

import (
	"math"
	"math/rand"
	"slices"
	"testing"

	"keepsake/api"
	"keepsake/index"
)

// last is the document's 2^32 - 1.
const last = 4294967295

// least and most are as far as an int goes.
const (
	least = math.MinInt64
	most  = math.MaxInt64
)

// askedEpochs are epochs at the bounds, beyond them, and between.
func askedEpochs() []int {
	return []int{least, least + 1, -last - 1, -last, -2, -1, 0, 1, 2, 3, 1 << 31, last - 1, last, last + 1, last + 2, most - 1, most}
}

// askedLbas are places at the bounds, beyond them, and between.
func askedLbas() []int {
	return []int{least, least + 1, -4096, -2, -1, 0, 1, 2, 3, 2048, 4094, 4095, 4096, 4097, last, last + 1, most - 1, most}
}

// around are asked numbers, and those of some versions with the ones beside them.
func around(asked []int, l []api.Version, number func(v api.Version) int) []int {
	for _, v := range l {
		asked = append(asked, number(v)-1, number(v), number(v)+1)
	}
	slices.Sort(asked)
	return slices.Compact(asked)
}

func lbaOf(v api.Version) int   { return v.Lba }
func epochOf(v api.Version) int { return v.Epoch }

func wantMayBe(v api.Version) bool {
	return v.Lba >= 0 && v.Lba <= 4095 && v.Epoch >= 0 && v.Epoch <= last && v.Slot >= 0 && v.Slot <= last
}

// ahead says whether a stands ahead of b, as the chapter's words tell it.
func ahead(a, b api.Version) bool {
	if a.Lba != b.Lba {
		return a.Lba < b.Lba
	}
	if a.Epoch != b.Epoch {
		return a.Epoch < b.Epoch
	}
	return a.Slot < b.Slot
}

// plain is an index as the chapter's words tell it once more: versions as they came, gone through one by one.
type plain []api.Version

func (p *plain) add(v api.Version) api.Errno {
	if !wantMayBe(v) {
		return api.ErrArg
	}
	for _, w := range *p {
		if w.Lba == v.Lba && w.Epoch == v.Epoch && w.Slot == v.Slot {
			return api.ErrTwice
		}
	}
	*p = append(*p, v)
	return api.OK
}

// lastOf is the one that stands last of those that are asked for.
func (p plain) lastOf(asks func(v api.Version) bool) (api.Version, bool) {
	best, found := api.Version{}, false
	for _, v := range p {
		if asks(v) && (!found || ahead(best, v)) {
			best, found = v, true
		}
	}
	return best, found
}

func (p plain) newest(lba, epoch int) (api.Version, bool) {
	return p.lastOf(func(v api.Version) bool { return v.Lba == lba && v.Epoch <= epoch })
}

func (p plain) of(lba, epoch int) (api.Version, bool) {
	return p.lastOf(func(v api.Version) bool { return v.Lba == lba && v.Epoch == epoch })
}

// lbas are the places that have a version, rising.
func (p plain) lbas() []int {
	var l []int
	for lba := range 4096 {
		if slices.ContainsFunc(p, func(v api.Version) bool { return v.Lba == lba }) {
			l = append(l, lba)
		}
	}
	return l
}

func (p plain) epoch(lbas []int, epoch int) []api.Version {
	var l []api.Version
	for _, lba := range lbas {
		if v, ok := p.of(lba, epoch); ok {
			l = append(l, v)
		}
	}
	return l
}

// all takes the version that stands first out of the rest, as long as one is left.
func (p plain) all() []api.Version {
	rest := slices.Clone(p)
	var l []api.Version
	for len(rest) > 0 {
		first := 0
		for i, v := range rest {
			if ahead(v, rest[first]) {
				first = i
			}
		}
		l = append(l, rest[first])
		rest = slices.Delete(rest, first, first+1)
	}
	return l
}

// made makes an index of these, which all may be and are there once, and the plain one.
func made(t *testing.T, l ...api.Version) (*index.Index, *plain) {
	t.Helper()
	x, p := index.New(), &plain{}
	if x == nil {
		t.Fatal("New: nil")
	}
	for _, v := range l {
		adds(t, x, v, api.OK)
		p.add(v)
	}
	return x, p
}

// adds holds what Add answers against what is asked.
func adds(t *testing.T, x *index.Index, v api.Version, want api.Errno) {
	t.Helper()
	if e := x.Add(v); e != want {
		t.Fatalf("Add(%v): %d, asked %d", v, e, want)
	}
}

// call is Newest or Of of an index.
type call func(lba, epoch int) (api.Version, bool)

// gives and none hold what Newest or Of answers against numbers that were worked out by hand.
func gives(t *testing.T, its call, lba, epoch int, want api.Version) {
	t.Helper()
	if v, ok := its(lba, epoch); v != want || !ok {
		t.Errorf("of %d, %d: %v %t, asked %v", lba, epoch, v, ok, want)
	}
}

func none(t *testing.T, its call, lba, epoch int) {
	t.Helper()
	if v, ok := its(lba, epoch); v != (api.Version{}) || ok {
		t.Errorf("of %d, %d: %v %t, asked none", lba, epoch, v, ok)
	}
}

// lists holds a list of versions against the one that is asked. None may be nil or empty.
func lists(t *testing.T, what string, got, want []api.Version) {
	t.Helper()
	if !slices.Equal(got, want) {
		t.Errorf("%s: %v, asked %v", what, got, want)
	}
}

// tells holds all that an index tells, at these places and epochs, against the plain one.
func tells(t *testing.T, x *index.Index, p *plain, lbas, epochs []int) {
	t.Helper()
	lists(t, "All", x.All(), p.all())
	has := p.lbas()
	if n := x.Places(); n != len(has) {
		t.Errorf("Places: %d, asked %d", n, len(has))
	}
	for _, epoch := range epochs {
		lists(t, "Epoch", x.Epoch(epoch), p.epoch(has, epoch))
		for _, lba := range lbas {
			like(t, "Newest", x.Newest, p.newest, lba, epoch)
			like(t, "Of", x.Of, p.of, lba, epoch)
		}
	}
}

func like(t *testing.T, what string, its, asked call, lba, epoch int) {
	t.Helper()
	v, ok := its(lba, epoch)
	w, found := asked(lba, epoch)
	if v != w || ok != found {
		t.Errorf("%s(%d, %d): %v %t, asked %v %t", what, lba, epoch, v, ok, w, found)
	}
}

// same is tells at all places and epochs that may make a difference.
func same(t *testing.T, x *index.Index, p *plain) {
	t.Helper()
	tells(t, x, p, around(askedLbas(), *p, lbaOf), around(askedEpochs(), *p, epochOf))
}

// shuffled are the same versions in another order.
func shuffled(r *rand.Rand, l []api.Version) []api.Version {
	l = slices.Clone(l)
	r.Shuffle(len(l), func(i, j int) { l[i], l[j] = l[j], l[i] })
	return l
}

// orders hands on all orders of a list.
func orders(l []api.Version, each func(order []api.Version)) {
	var turn func(n int)
	turn = func(n int) {
		if n == len(l) {
			each(slices.Clone(l))
			return
		}
		for i := n; i < len(l); i++ {
			l[n], l[i] = l[i], l[n]
			turn(n + 1)
			l[n], l[i] = l[i], l[n]
		}
	}
	turn(0)
}

func TestExample(t *testing.T) {
	x, _ := made(t, api.Version{Lba: 1, Epoch: 0, Slot: 5}, api.Version{Lba: 1, Epoch: 0, Slot: 7}, api.Version{Lba: 1, Epoch: 2, Slot: 9})
	gives(t, x.Newest, 1, 1, api.Version{Lba: 1, Epoch: 0, Slot: 7})
}

// P14.1: a new index has none, whatever is asked.
func TestNew(t *testing.T) {
	x, p := made(t)
	same(t, x, p)
	for _, epoch := range askedEpochs() {
		if l := x.Epoch(epoch); len(l) != 0 {
			t.Errorf("Epoch(%d): %v", epoch, l)
		}
		for _, lba := range askedLbas() {
			none(t, x.Newest, lba, epoch)
			none(t, x.Of, lba, epoch)
		}
	}
	if l, n := x.All(), x.Places(); len(l) != 0 || n != 0 {
		t.Errorf("All %v, Places %d", l, n)
	}
}

// P14.1: of nil, and of an Index that no call made, also behind calls that it refused.
func TestNone(t *testing.T) {
	var nothing *index.Index
	for what, x := range map[string]*index.Index{"nil": nothing, "an Index": {}, "a new one": new(index.Index), "a copy of nil": nothing.Copy(), "a copy of one": new(index.Index).Copy()} {
		for range 2 {
			for _, v := range []api.Version{{}, {Lba: 1, Epoch: 2, Slot: 3}, {Lba: 4095, Epoch: last, Slot: last}, {Lba: -1}, {Lba: 4096}, {Epoch: last + 1}, {Slot: -1}} {
				adds(t, x, v, api.ErrNil)
			}
			for _, epoch := range askedEpochs() {
				for _, lba := range askedLbas() {
					none(t, x.Newest, lba, epoch)
					none(t, x.Of, lba, epoch)
				}
				if l := x.Epoch(epoch); len(l) != 0 {
					t.Errorf("Epoch(%d) of %s: %v", epoch, what, l)
				}
			}
			if l, n := x.All(), x.Places(); len(l) != 0 || n != 0 {
				t.Errorf("All of %s: %v, Places %d", what, l, n)
			}
			if c := x.Copy(); c != nil {
				t.Errorf("Copy of %s: %v", what, c)
			}
		}
	}
}

// P14.1: each number at its bounds and beyond, the others being right, added to an index of none and to one that has some.
func TestAddNumbers(t *testing.T) {
	numbers := []int{least, least + 1, -last - 1, -4096, -2, -1, 0, 1, 4094, 4095, 4096, 4097, 1 << 31, last - 1, last, last + 1, last + 2, 1 << 40, most - 1, most}
	amid := []api.Version{{Lba: 7, Epoch: 8, Slot: 9}, {Lba: 7, Epoch: 8, Slot: 11}, {Lba: 9, Epoch: 1, Slot: 1}}
	for _, there := range [][]api.Version{nil, amid} {
		for _, n := range numbers {
			for _, v := range []api.Version{
				{Lba: n}, {Lba: n, Epoch: 5, Slot: 6}, {Lba: n, Epoch: last, Slot: last},
				{Epoch: n}, {Lba: 5, Epoch: n, Slot: 6}, {Lba: 4095, Epoch: n, Slot: last},
				{Slot: n}, {Lba: 5, Epoch: 6, Slot: n}, {Lba: 4095, Epoch: last, Slot: n},
				{Lba: n, Epoch: n}, {Epoch: n, Slot: n}, {Lba: n, Slot: n}, {Lba: n, Epoch: n, Slot: n},
			} {
				x, p := made(t, there...)
				want := p.add(v)
				adds(t, x, v, want)
				tells(t, x, p, []int{n - 1, n, n + 1, 0, 5, 7, 4095}, []int{n - 1, n, n + 1, 0, 5, 8, last})
			}
		}
	}
}

// P14.1: by hand, what may be and what may not.
func TestAddByHand(t *testing.T) {
	for _, c := range []struct {
		v    api.Version
		want api.Errno
	}{
		{api.Version{}, api.OK},
		{api.Version{Lba: 4095, Epoch: 4294967295, Slot: 4294967295}, api.OK},
		{api.Version{Lba: 4095}, api.OK},
		{api.Version{Lba: 4096}, api.ErrArg},
		{api.Version{Lba: -1}, api.ErrArg},
		{api.Version{Epoch: 4294967295}, api.OK},
		{api.Version{Epoch: 4294967296}, api.ErrArg},
		{api.Version{Epoch: -1}, api.ErrArg},
		{api.Version{Slot: 4294967295}, api.OK},
		{api.Version{Slot: 4294967296}, api.ErrArg},
		{api.Version{Slot: -1}, api.ErrArg},
		{api.Version{Lba: 4294967295, Epoch: 1, Slot: 1}, api.ErrArg},
		{api.Version{Lba: 1, Epoch: least, Slot: 1}, api.ErrArg},
		{api.Version{Lba: 1, Epoch: 1, Slot: most}, api.ErrArg},
	} {
		adds(t, index.New(), c.v, c.want)
	}
}

// P14.1, P2: of one that is there already, also behind others, and one that has but one other number; what is refused turns nothing.
func TestAddTwice(t *testing.T) {
	base := api.Version{Lba: 20, Epoch: 30, Slot: 40}
	var beside []api.Version
	for _, by := range []int{-2, -1, 1, 2} {
		beside = append(beside, api.Version{Lba: 20 + by, Epoch: 30, Slot: 40}, api.Version{Lba: 20, Epoch: 30 + by, Slot: 40}, api.Version{Lba: 20, Epoch: 30, Slot: 40 + by})
	}
	x, p := made(t, base)
	adds(t, x, base, api.ErrTwice)
	same(t, x, p)
	for _, v := range beside {
		adds(t, x, v, api.OK)
		p.add(v)
		for _, w := range *p {
			adds(t, x, w, api.ErrTwice)
		}
		same(t, x, p)
	}
	for _, v := range append(beside, base) {
		adds(t, x, v, api.ErrTwice)
	}
	for _, v := range []api.Version{{Lba: -1, Epoch: 30, Slot: 40}, {Lba: 4096, Epoch: 30, Slot: 40}, {Lba: 20, Epoch: -1, Slot: 40}, {Lba: 20, Epoch: last + 1, Slot: 40}, {Lba: 20, Epoch: 30, Slot: -1}, {Lba: 20, Epoch: 30, Slot: last + 1}} {
		adds(t, x, v, api.ErrArg)
		same(t, x, p)
	}
}

// P14.1: at the bounds, as first and as last one.
func TestAddTwiceAtBounds(t *testing.T) {
	var l []api.Version
	for _, lba := range []int{0, 4095} {
		for _, epoch := range []int{0, last} {
			for _, slot := range []int{0, last} {
				l = append(l, api.Version{Lba: lba, Epoch: epoch, Slot: slot})
			}
		}
	}
	for range 2 {
		x, p := made(t, l...)
		for _, v := range l {
			adds(t, x, v, api.ErrTwice)
		}
		lists(t, "All", x.All(), p.all())
		same(t, x, p)
		slices.Reverse(l)
	}
}

// some is an index by hand: place 0 has one at each bound, 5 has none, 6 has one, 7 several of one epoch with slots that fall, 8 with slots that rise, 9 several epochs, 4095 the last ones.
func some() []api.Version {
	return []api.Version{
		{Lba: 9, Epoch: 20, Slot: 3},
		{Lba: 4095, Epoch: last, Slot: last}, {Lba: 4095, Epoch: 0, Slot: 12},
		{Lba: 7, Epoch: 10, Slot: 90}, {Lba: 7, Epoch: 10, Slot: 80}, {Lba: 7, Epoch: 10, Slot: 70},
		{Lba: 6, Epoch: 10, Slot: 1},
		{Lba: 9, Epoch: 10, Slot: 9}, {Lba: 9, Epoch: 30, Slot: 5}, {Lba: 9, Epoch: 10, Slot: 4}, {Lba: 9, Epoch: 12, Slot: 1000}, {Lba: 9, Epoch: 20, Slot: 8},
		{Lba: 8, Epoch: 10, Slot: 50}, {Lba: 8, Epoch: 10, Slot: 60}, {Lba: 8, Epoch: 10, Slot: 65},
		{Lba: 4, Epoch: 10, Slot: 2}, {Lba: 4, Epoch: 9, Slot: 77},
		{Lba: 0, Epoch: last, Slot: 0}, {Lba: 0, Epoch: 0, Slot: 0},
	}
}

// P14.2: by hand, at each epoch itself, at one less and one more, and far off.
func TestNewestByHand(t *testing.T) {
	x, p := made(t, some()...)
	same(t, x, p)
	for _, c := range []struct {
		lba, epoch     int
		itsEpoch, slot int
	}{
		{0, 0, 0, 0}, {0, 1, 0, 0}, {0, last - 1, 0, 0}, {0, last, last, 0}, {0, last + 1, last, 0}, {0, most, last, 0},
		{4, 9, 9, 77}, {4, 10, 10, 2}, {4, 11, 10, 2}, {4, last, 10, 2}, {4, most, 10, 2},
		{6, 10, 10, 1}, {6, 11, 10, 1}, {6, last, 10, 1}, {6, last + 1, 10, 1}, {6, most, 10, 1},
		{7, 10, 10, 90}, {7, 11, 10, 90}, {7, last, 10, 90}, {7, most, 10, 90},
		{8, 10, 10, 65}, {8, 11, 10, 65}, {8, last, 10, 65}, {8, most, 10, 65},
		{9, 10, 10, 9}, {9, 11, 10, 9}, {9, 12, 12, 1000}, {9, 13, 12, 1000}, {9, 19, 12, 1000}, {9, 20, 20, 8}, {9, 21, 20, 8}, {9, 29, 20, 8}, {9, 30, 30, 5}, {9, 31, 30, 5}, {9, last + 1, 30, 5}, {9, most, 30, 5},
		{4095, 0, 0, 12}, {4095, last - 1, 0, 12}, {4095, last, last, last}, {4095, most, last, last},
	} {
		gives(t, x.Newest, c.lba, c.epoch, api.Version{Lba: c.lba, Epoch: c.itsEpoch, Slot: c.slot})
	}
	for _, c := range []struct{ lba, epoch int }{
		{0, -1}, {0, least}, {4, 8}, {4, 0}, {4, -1}, {6, 9}, {6, 0}, {6, -1}, {6, least}, {7, 9}, {7, least}, {8, 9}, {8, 0}, {9, 9}, {9, -1}, {4095, -1}, {4095, least},
		{-1, 0}, {-1, 10}, {-1, last}, {least, most}, {5, 0}, {5, 9}, {5, 10}, {5, 11}, {5, most}, {10, 10}, {10, most}, {3, most}, {4094, most}, {4096, 0}, {4096, last}, {4096, most}, {most, most}, {most, least}, {least, least},
	} {
		none(t, x.Newest, c.lba, c.epoch)
	}
}

// P14.2: by hand, of just that epoch.
func TestOfByHand(t *testing.T) {
	x, _ := made(t, some()...)
	for _, v := range []api.Version{
		{Lba: 0, Epoch: 0, Slot: 0}, {Lba: 0, Epoch: last, Slot: 0},
		{Lba: 4, Epoch: 9, Slot: 77}, {Lba: 4, Epoch: 10, Slot: 2},
		{Lba: 6, Epoch: 10, Slot: 1}, {Lba: 7, Epoch: 10, Slot: 90}, {Lba: 8, Epoch: 10, Slot: 65},
		{Lba: 9, Epoch: 10, Slot: 9}, {Lba: 9, Epoch: 12, Slot: 1000}, {Lba: 9, Epoch: 20, Slot: 8}, {Lba: 9, Epoch: 30, Slot: 5},
		{Lba: 4095, Epoch: 0, Slot: 12}, {Lba: 4095, Epoch: last, Slot: last},
	} {
		gives(t, x.Of, v.Lba, v.Epoch, v)
	}
	for _, c := range []struct{ lba, epoch int }{
		{0, -1}, {0, 1}, {0, last - 1}, {0, last + 1}, {0, least}, {0, most},
		{4, 8}, {4, 11}, {6, 9}, {6, 11}, {6, 0}, {6, last}, {7, 9}, {7, 11}, {8, 9}, {8, 11}, {8, most}, {8, least},
		{9, 9}, {9, 11}, {9, 13}, {9, 19}, {9, 21}, {9, 29}, {9, 31}, {9, last}, {9, most},
		{4095, -1}, {4095, 1}, {4095, last - 1}, {4095, last + 1}, {4095, most}, {4095, least},
		{-1, 0}, {-1, 10}, {5, 9}, {5, 10}, {5, 11}, {3, 10}, {10, 10}, {10, 30}, {4096, 0}, {4096, last}, {least, 10}, {most, 10}, {most, most}, {least, least},
	} {
		none(t, x.Of, c.lba, c.epoch)
	}
}

// P14.2: a version of noughts that is there is told with true, none is told with false.
func TestNoughts(t *testing.T) {
	x := index.New()
	none(t, x.Newest, 0, 0)
	none(t, x.Of, 0, 0)
	adds(t, x, api.Version{}, api.OK)
	gives(t, x.Newest, 0, 0, api.Version{})
	gives(t, x.Newest, 0, most, api.Version{})
	gives(t, x.Of, 0, 0, api.Version{})
	lists(t, "Epoch", x.Epoch(0), []api.Version{{}})
	none(t, x.Newest, 0, -1)
	none(t, x.Of, 0, 1)
	none(t, x.Newest, 1, 0)
	none(t, x.Of, -1, 0)
}

// P14.2: places among neighbours of which one or both have some, of epochs ahead, of the same one, and behind.
func TestNeighbours(t *testing.T) {
	epochs := []int{0, 1, 2, last - 1, last}
	for _, lba := range []int{0, 1, 2, 4094, 4095} {
		for _, epoch := range epochs {
			for _, beside := range epochs {
				for which := range 8 {
					var l []api.Version
					for by := range 3 {
						v := api.Version{Lba: lba + by - 1, Epoch: beside, Slot: 3}
						if by == 1 {
							v.Epoch = epoch
						}
						if which>>by&1 == 1 && wantMayBe(v) {
							l = append(l, v)
						}
					}
					x, p := made(t, l...)
					tells(t, x, p, []int{lba - 2, lba - 1, lba, lba + 1, lba + 2}, around(nil, append(l, api.Version{}, api.Version{Epoch: epoch}), epochOf))
				}
			}
		}
	}
}

// P14.3: by hand, of an epoch that none, one, and several places have.
func TestEpochByHand(t *testing.T) {
	x, _ := made(t, some()...)
	for epoch, want := range map[int][]api.Version{
		0:    {{Lba: 0, Epoch: 0, Slot: 0}, {Lba: 4095, Epoch: 0, Slot: 12}},
		9:    {{Lba: 4, Epoch: 9, Slot: 77}},
		10:   {{Lba: 4, Epoch: 10, Slot: 2}, {Lba: 6, Epoch: 10, Slot: 1}, {Lba: 7, Epoch: 10, Slot: 90}, {Lba: 8, Epoch: 10, Slot: 65}, {Lba: 9, Epoch: 10, Slot: 9}},
		12:   {{Lba: 9, Epoch: 12, Slot: 1000}},
		20:   {{Lba: 9, Epoch: 20, Slot: 8}},
		30:   {{Lba: 9, Epoch: 30, Slot: 5}},
		last: {{Lba: 0, Epoch: last, Slot: 0}, {Lba: 4095, Epoch: last, Slot: last}},
		-1:   nil, 1: nil, 8: nil, 11: nil, 13: nil, 29: nil, 31: nil, last - 1: nil, last + 1: nil, least: nil, most: nil,
	} {
		lists(t, "Epoch", x.Epoch(epoch), want)
	}
}

// P14.3: by hand, by Lba, then by Epoch, then by Slot.
func TestAllByHand(t *testing.T) {
	x, _ := made(t, some()...)
	lists(t, "All", x.All(), []api.Version{
		{Lba: 0, Epoch: 0, Slot: 0}, {Lba: 0, Epoch: last, Slot: 0},
		{Lba: 4, Epoch: 9, Slot: 77}, {Lba: 4, Epoch: 10, Slot: 2},
		{Lba: 6, Epoch: 10, Slot: 1},
		{Lba: 7, Epoch: 10, Slot: 70}, {Lba: 7, Epoch: 10, Slot: 80}, {Lba: 7, Epoch: 10, Slot: 90},
		{Lba: 8, Epoch: 10, Slot: 50}, {Lba: 8, Epoch: 10, Slot: 60}, {Lba: 8, Epoch: 10, Slot: 65},
		{Lba: 9, Epoch: 10, Slot: 4}, {Lba: 9, Epoch: 10, Slot: 9}, {Lba: 9, Epoch: 12, Slot: 1000}, {Lba: 9, Epoch: 20, Slot: 3}, {Lba: 9, Epoch: 20, Slot: 8}, {Lba: 9, Epoch: 30, Slot: 5},
		{Lba: 4095, Epoch: 0, Slot: 12}, {Lba: 4095, Epoch: last, Slot: last},
	})
	if n := x.Places(); n != 7 {
		t.Errorf("Places: %d, asked 7", n)
	}
}

// P14.3: places are counted once, however many versions they have; what was refused counts for nothing.
func TestPlaces(t *testing.T) {
	x := index.New()
	for i, c := range []struct {
		v    api.Version
		want api.Errno
		n    int
	}{
		{api.Version{Lba: 3}, api.OK, 1},
		{api.Version{Lba: 3}, api.ErrTwice, 1},
		{api.Version{Lba: 3, Epoch: 1}, api.OK, 1},
		{api.Version{Lba: 3, Slot: 1}, api.OK, 1},
		{api.Version{Lba: 4096}, api.ErrArg, 1},
		{api.Version{Lba: -1}, api.ErrArg, 1},
		{api.Version{Lba: 4, Epoch: last + 1}, api.ErrArg, 1},
		{api.Version{Lba: 4, Slot: -1}, api.ErrArg, 1},
		{api.Version{Lba: 4095, Epoch: last, Slot: last}, api.OK, 2},
		{api.Version{Lba: 0}, api.OK, 3},
		{api.Version{Lba: 4, Epoch: last}, api.OK, 4},
		{api.Version{Lba: 4095}, api.OK, 4},
		{api.Version{Lba: 2, Epoch: 7}, api.OK, 5},
		{api.Version{Lba: 2, Epoch: 6}, api.OK, 5},
	} {
		adds(t, x, c.v, c.want)
		if n := x.Places(); n != c.n {
			t.Errorf("behind %d: Places %d, asked %d", i, n, c.n)
		}
	}
	if l := x.Epoch(last + 1); len(l) != 0 {
		t.Errorf("what was refused is told: %v", l)
	}
	none(t, x.Newest, 4096, most)
	none(t, x.Newest, -1, most)
}

// P14.3: all places there are, each with two versions.
func TestAllPlaces(t *testing.T) {
	x := index.New()
	for lba := range 4096 {
		adds(t, x, api.Version{Lba: 4095 - lba, Epoch: 1, Slot: 2 * lba}, api.OK)
		adds(t, x, api.Version{Lba: 4095 - lba, Epoch: 1, Slot: 2*lba + 1}, api.OK)
		if n := x.Places(); n != lba+1 {
			t.Fatalf("Places: %d, asked %d", n, lba+1)
		}
	}
	all, newest := x.All(), x.Epoch(1)
	if len(all) != 8192 || len(newest) != 4096 {
		t.Fatalf("%d versions, %d of the epoch", len(all), len(newest))
	}
	for lba := range 4096 {
		v := api.Version{Lba: lba, Epoch: 1, Slot: 2*(4095-lba) + 1}
		if newest[lba] != v || all[2*lba+1] != v || all[2*lba] != (api.Version{Lba: lba, Epoch: 1, Slot: v.Slot - 1}) {
			t.Fatalf("place %d: %v, %v %v", lba, newest[lba], all[2*lba], all[2*lba+1])
		}
		gives(t, x.Newest, lba, 1, v)
		gives(t, x.Of, lba, 1, v)
	}
}

// P14.3: what is told is new memory: turned, cut down and added to by the caller, it turns nothing; nor does what is added turn it.
func TestNewMemory(t *testing.T) {
	x, p := made(t, some()...)
	for what, list := range map[string]func() []api.Version{
		"All":   x.All,
		"Epoch": func() []api.Version { return x.Epoch(10) },
	} {
		l, m := list(), list()
		want := slices.Clone(m)
		for i := range l {
			l[i] = api.Version{Lba: 1000 + i, Epoch: -1, Slot: -1}
		}
		lists(t, what, m, want)
		same(t, x, p)
		clear(append(l[:1], api.Version{Lba: 4000}))
		clear(m[:cap(m)])
		lists(t, what, list(), want)
		same(t, x, p)
	}
	was, of10 := x.All(), x.Epoch(10)
	want, want10 := slices.Clone(was), slices.Clone(of10)
	for lba := range 20 {
		v := api.Version{Lba: lba, Epoch: 10, Slot: last - 1}
		adds(t, x, v, api.OK)
		p.add(v)
	}
	lists(t, "an earlier All", was, want)
	lists(t, "an earlier Epoch", of10, want10)
	same(t, x, p)
}

// P14.3: a copy has the same, and is apart, whichever of both is added to.
func TestCopy(t *testing.T) {
	x, p := made(t, some()...)
	c, d := x.Copy(), x.Copy()
	q := ptr(slices.Clone(*p))
	for _, y := range []*index.Index{x, c, d} {
		same(t, y, p)
	}
	turns(t, c, q, 1)
	same(t, x, p)
	turns(t, x, p, 2)
	same(t, c, q)
	turns(t, c, q, 3)
	same(t, x, p)
	turns(t, x, p, 4)
	same(t, c, q)
	f := plain(some())
	same(t, d, &f)
	adds(t, d, api.Version{Lba: 4094, Epoch: 1, Slot: 1}, api.OK)
	same(t, x, p)
	same(t, c, q)
}

// P14.3: a copy of an index of none, and copies of copies, one behind each that is added.
func TestCopies(t *testing.T) {
	x := index.New()
	c := x.Copy()
	if c == nil {
		t.Fatal("a copy of none: nil")
	}
	p, q := plain{}, plain{}
	same(t, c, &q)
	turns(t, c, &q, 5)
	same(t, x, &p)
	turns(t, x, &p, 6)
	same(t, c, &q)

	copies, asked := []*index.Index{index.New()}, []plain{{}}
	r := rand.New(rand.NewSource(3))
	for range 60 {
		i := r.Intn(len(copies))
		copies, asked = append(copies, copies[i].Copy()), append(asked, slices.Clone(asked[i]))
		for range 4 {
			j := r.Intn(len(copies))
			v := api.Version{Lba: r.Intn(4), Epoch: r.Intn(4), Slot: r.Intn(4)}
			adds(t, copies[j], v, asked[j].add(v))
		}
		for j := range copies {
			lists(t, "All", copies[j].All(), asked[j].all())
		}
	}
	for j := range copies {
		tells(t, copies[j], &asked[j], []int{-1, 0, 1, 2, 3, 4}, []int{-1, 0, 1, 2, 3, 4})
	}
}

func ptr(p plain) *plain { return &p }

// turns adds, to both, versions ahead of, amid and behind what is there.
func turns(t *testing.T, x *index.Index, p *plain, slot int) {
	t.Helper()
	for _, lba := range []int{0, 7, 5, 9, 4095, 1} {
		for _, epoch := range []int{0, 10, 15, last} {
			v := api.Version{Lba: lba, Epoch: epoch, Slot: 1000*slot + 1}
			adds(t, x, v, p.add(v))
		}
	}
}

// Two indexes have nothing of each other.
func TestApart(t *testing.T) {
	x, p := made(t)
	y, q := made(t)
	for i := range 40 {
		v, w := api.Version{Lba: i % 7, Epoch: i}, api.Version{Lba: i % 5, Epoch: 40 - i, Slot: 1}
		adds(t, x, v, p.add(v))
		adds(t, y, w, q.add(w))
	}
	same(t, x, p)
	same(t, y, q)
}

// P14.4: all orders of six versions, of which some are beside each other in each number.
func TestAnyOrder(t *testing.T) {
	for _, l := range [][]api.Version{
		{{Lba: 1, Epoch: 1, Slot: 1}, {Lba: 1, Epoch: 1, Slot: 2}, {Lba: 1, Epoch: 2, Slot: 1}, {Lba: 2, Epoch: 1, Slot: 1}, {Lba: 1, Epoch: 2, Slot: 0}, {Lba: 0, Epoch: 3, Slot: 9}},
		{{}, {Slot: last}, {Epoch: last}, {Lba: 4095}, {Lba: 4095, Epoch: last, Slot: last}, {Epoch: last, Slot: last}},
		{{Lba: 5, Epoch: 3, Slot: 1}, {Lba: 5, Epoch: 3, Slot: 2}, {Lba: 5, Epoch: 3, Slot: 3}, {Lba: 5, Epoch: 3, Slot: 4}, {Lba: 5, Epoch: 3, Slot: 5}, {Lba: 5, Epoch: 3, Slot: 6}},
		{{Lba: 3, Epoch: 1, Slot: 6}, {Lba: 3, Epoch: 2, Slot: 5}, {Lba: 3, Epoch: 3, Slot: 4}, {Lba: 4, Epoch: 1, Slot: 3}, {Lba: 4, Epoch: 2, Slot: 2}, {Lba: 4, Epoch: 3, Slot: 1}},
	} {
		p := plain(l)
		want := p.all()
		lbas, epochs := around(nil, l, lbaOf), around(nil, l, epochOf)
		orders(slices.Clone(l), func(order []api.Version) {
			x, _ := made(t, order...)
			lists(t, "All", x.All(), want)
			tells(t, x, &p, lbas, epochs)
		})
		if t.Failed() {
			return
		}
	}
}

// P14.4: long rows, some of them twice over, in orders as they come.
func TestAnyOrderLong(t *testing.T) {
	r := rand.New(rand.NewSource(4))
	for range 30 {
		var l []api.Version
		for range r.Intn(400) {
			l = append(l, api.Version{Lba: r.Intn(9), Epoch: r.Intn(9), Slot: r.Intn(9)})
		}
		var want []api.Version
		for turn := range 5 {
			x := index.New()
			for _, v := range shuffled(r, l) {
				x.Add(v)
			}
			if turn == 0 {
				want = x.All()
			}
			lists(t, "All", x.All(), want)
			if n := x.Places(); n != len(ptr(plain(l)).lbas()) {
				t.Errorf("Places: %d", n)
			}
		}
	}
}

// P14.5: the newest one as of an epoch is the one of it, if there is one, else that as of the epoch ahead.
func TestAsOf(t *testing.T) {
	r := rand.New(rand.NewSource(5))
	low := func() int { return r.Intn(12) }
	high := func() int { return last - r.Intn(12) }
	for _, number := range []func() int{low, high} {
		for range 40 {
			x := index.New()
			for range r.Intn(60) {
				x.Add(api.Version{Lba: 4090 + r.Intn(6), Epoch: number(), Slot: number()})
			}
			for lba := 4088; lba <= 4097; lba++ {
				for i := -2; i < 15; i++ {
					checkAsOf(t, x, lba, i)
					checkAsOf(t, x, lba, last-i)
				}
				for _, epoch := range askedEpochs()[1:] {
					checkAsOf(t, x, lba, epoch)
				}
			}
		}
	}
}

func checkAsOf(t *testing.T, x *index.Index, lba, epoch int) {
	t.Helper()
	want, found := x.Of(lba, epoch)
	if !found {
		want, found = x.Newest(lba, epoch-1)
	}
	if v, ok := x.Newest(lba, epoch); v != want || ok != found {
		t.Errorf("Newest(%d, %d): %v %t, asked %v %t", lba, epoch, v, ok, want, found)
	}
}

// P14.1 to P14.5, P2: long rows of versions, of which no few are refused, held against the plain row.
func TestLong(t *testing.T) {
	r := rand.New(rand.NewSource(14))
	edge := func(n int) func() int {
		return func() int { return n - 2 + r.Intn(4) }
	}
	few := func() int { return r.Intn(8) }
	for _, row := range []struct {
		lba, epoch, slot func() int
		n                int
	}{
		{few, few, few, 400},
		{func() int { return r.Intn(4096) }, func() int { return r.Intn(30) }, func() int { return r.Intn(1020) }, 600},
		{edge(4095), edge(last), edge(last), 100},
		{edge(0), edge(0), edge(0), 100},
		{few, func() int { return r.Intn(1 << 40) }, func() int { return r.Intn(1 << 33) }, 300},
		{func() int { return 7 }, func() int { return r.Intn(200) }, few, 500},
	} {
		x, p := index.New(), &plain{}
		for i := range row.n {
			v := api.Version{Lba: row.lba(), Epoch: row.epoch(), Slot: row.slot()}
			adds(t, x, v, p.add(v))
			if len(*p) > 0 && r.Intn(4) == 0 {
				adds(t, x, (*p)[r.Intn(len(*p))], api.ErrTwice)
			}
			lbas := []int{v.Lba - 1, v.Lba, v.Lba + 1, row.lba()}
			epochs := []int{v.Epoch - 1, v.Epoch, v.Epoch + 1, row.epoch()}
			if i%10 == 0 {
				tells(t, x, p, lbas, epochs)
			}
		}
		same(t, x, p)
		same(t, x.Copy(), p)
		if t.Failed() {
			return
		}
	}
}

// Slots of one volume rise with its epochs: versions come in their order of time, not of place.
func TestInTime(t *testing.T) {
	r := rand.New(rand.NewSource(1))
	x, p := index.New(), &plain{}
	epoch := 0
	for slot := range 1020 {
		if r.Intn(20) == 0 {
			epoch++
			continue
		}
		v := api.Version{Lba: r.Intn(40), Epoch: epoch, Slot: slot}
		adds(t, x, v, api.OK)
		p.add(v)
		gives(t, x.Newest, v.Lba, epoch, v)
		gives(t, x.Of, v.Lba, epoch, v)
		gives(t, x.Newest, v.Lba, most, v)
	}
	same(t, x, p)
}

// P1: whatever is handed in, the answers are those of the chapter's words.
func FuzzCalls(f *testing.F) {
	f.Add(0, 0, 0, 1, []byte("abcabc"))
	f.Add(4095, last, last, -1, []byte("azbzcz"))
	f.Add(4096, last+1, last+1, 1, []byte("a"))
	f.Add(-1, -1, -1, 2, []byte("abcdefgh"))
	f.Add(most, most, most, most, []byte("abcdefgh"))
	f.Add(least, least, least, least, []byte("hgfedcba"))
	f.Fuzz(func(t *testing.T, lba, epoch, slot, by int, turns []byte) {
		x, p := index.New(), &plain{}
		v := api.Version{Lba: lba, Epoch: epoch, Slot: slot}
		for _, c := range turns[:min(len(turns), 60)] {
			adds(t, x, v, p.add(v))
			switch c % 5 {
			case 0:
				v.Lba += by
			case 1:
				v.Epoch += by
			case 2:
				v.Slot += by
			case 3:
				v.Lba, v.Epoch, v.Slot = int(c), lba, epoch
			default:
				x = x.Copy()
			}
		}
		same(t, x, p)
		for _, l := range []int{lba, v.Lba} {
			for _, e := range []int{epoch, v.Epoch} {
				tells(t, x, p, []int{l}, []int{e})
				if e != least {
					checkAsOf(t, x, l, e)
				}
			}
		}
	})
}
