package journal_test

import (
	"fmt"
	"math/rand"
	"slices"
	"strings"
	"testing"

	"keepsake/api"
	"keepsake/disk"
	"keepsake/journal"
)

// scene is where a crash comes: an image, the calls that were taken ahead, and the call that is on its way.
type scene struct {
	name  string
	x     api.Image
	ahead []call
	call
}

// scenes are journals as they may stand, each with each call.
func scenes() []scene {
	even := api.Super{Gen: 4, Tail: 1, Epoch: 6, Clock: 3, Geo: small(5, 5)}
	odd := api.Super{Gen: 7, Tail: 2, Epoch: 9, Clock: 3, Geo: small(5, 0)}
	begins := []call{formatting(small(4, 3)), opening()}
	used := imageOf(odd, text("a"), text("b"))
	used.Blocks[0] = superBytes(api.Super{Gen: 6, Tail: 1, Epoch: 8, Clock: 2, Geo: odd.Geo})
	left := imageOf(even, text("a"), noughts(), text("left"), noughts(), text("left, too"))
	left.Blocks[3] = keyBytes(7, keyFor(7))
	// each with the epoch that is open then
	stands := []struct {
		name  string
		epoch int
		x     api.Image
		ahead []call
	}{
		{"formatted", 3, blank(8), begins},
		{"committed", 3, blank(8), append(begins, appends("a"), commits(2))},
		{"even", 6, imageOf(even, text("a")), []call{opening()}},
		{"odd", 9, used, []call{opening()}},
		{"appended", 9, used, []call{opening(), appends("x")}},
		{"written over", 9, used, []call{opening(), overs(0, "o"), appends("x"), overs(1, "p"), overs(0, "q")}},
		{"flushed", 6, imageOf(even, text("a")), []call{opening(), appends("x"), overs(0, "o"), flushes(), appends("y")}},
		{"closed", 7, imageOf(even, text("a")), []call{opening(), closes("x", 7, 3), appends("y")}},
		{"closed twice", 8, imageOf(even, text("a")), []call{opening(), appends("x"), closes("y", 7, 3), closes("z", 8, 3)}},
		{"one left", 9, used, []call{opening(), appends("x"), appends("y")}},
		{"none left", 10, used, []call{opening(), appends("x"), appends("y"), closes("z", 10, 3)}},
	}
	var l []scene
	for _, s := range stands {
		for _, c := range []call{appends("new"), commits(9), closes("new", s.epoch+1, 9), overs(0, "new"), flushes(), reads(0)} {
			l = append(l, scene{s.name, s.x, s.ahead, c})
		}
	}
	for _, x := range []api.Image{used, left, imageOf(even, text("a"))} {
		l = append(l, scene{"to be opened", x, nil, opening()}, scene{"to be formatted", x, nil, formatting(odd.Geo)})
	}
	return append(l, scene{"blank", blank(8), nil, formatting(small(4, 0))}, scene{"blank", blank(9), nil, formatting(small(5, 7))})
}

func (s scene) String() string { return s.name + ", " + s.call.String() }

// at makes the scene's pair, with the power going at the n-th step of the call, and does the call.
func (s scene) at(t *testing.T, n int) (*pair, answer) {
	t.Helper()
	w := world(t, s.x, s.ahead...)
	w.is(t, arms(n), api.OK)
	return w, w.do(t, s.call)
}

// count is how many steps the call has.
func (s scene) count(t *testing.T) int { return len(steps(t, s.x, s.ahead, s.call)) }

// keeps are choices of what is kept of so many writes: all choices of few, of many some.
func keeps(r *rand.Rand, writes int) [][]int {
	var l [][]int
	if writes <= 6 {
		for set := range 1 << writes {
			l = append(l, chosen(writes, func(i int) bool { return set>>i&1 == 1 }))
		}
		return l
	}
	l = append(l, nil, chosen(writes, func(int) bool { return true }))
	for n := range writes {
		l = append(l,
			[]int{n},
			chosen(writes, func(i int) bool { return i != n }),
			chosen(writes, func(i int) bool { return i < n }),
			chosen(writes, func(i int) bool { return i > n }),
			chosen(writes, func(int) bool { return r.Intn(2) == 0 }))
	}
	return l
}

func chosen(n int, is func(i int) bool) []int {
	var l []int
	for i := range n {
		if is(i) {
			l = append(l, i)
		}
	}
	return l
}

// holds says whether a text stands anywhere on a disk, or among what is not flushed.
func holds(x api.Image, s string) bool {
	in := func(block string) bool { return strings.Contains(block, s) }
	return slices.ContainsFunc(x.Blocks, in) || slices.ContainsFunc(x.Cache, func(p api.Put) bool { return in(p.Data) })
}

// ends is what may be there behind a crash.
type ends struct {
	// supers are the last one that was committed ahead of the call, and that behind it. There is none, if nothing is asked of that.
	supers []api.Super
	// orNone is whether there may be no journal yet.
	orNone bool
	// blocks are what each of the data's blocks may show.
	blocks map[int][]string
}

// endsOf finds out what may be there: of the call as it ends, and of all that was written up to then.
func (s scene) endsOf(t *testing.T) ends {
	t.Helper()
	w := world(t, s.x, s.ahead...)
	var x ends
	if w.j != nil {
		x.supers = append(x.supers, w.j.Super())
	}
	x.blocks = map[int][]string{}
	may := func(at int, block string) { x.blocks[at-4] = append(x.blocks[at-4], block) }
	was := w.d.Seize()
	for at, block := range was.Blocks {
		may(at, block)
	}
	for _, p := range was.Cache {
		may(p.At, p.Data)
	}
	w.do(t, s.call)
	switch s.kind {
	case toFormat:
		if slices.ContainsFunc(s.x.Blocks, func(block string) bool { return block != noughts() }) {
			return ends{} // of what was there ahead nothing is promised
		}
		x.orNone = true
		x.supers = append(x.supers, api.Super{Gen: 1, Epoch: s.g.First, Geo: s.g})
	case toAppend, toOver, toClose:
		at := 4 + s.n
		if s.kind != toOver {
			at = 4 + w.j.Used() - 1
		}
		may(at, s.block)
		fallthrough
	default:
		x.supers = append(x.supers, w.j.Super())
	}
	return x
}

// are asks of what was opened, if it was, that it is one of these.
func (x ends) are(t *testing.T, w *pair, a answer) {
	t.Helper()
	if x.supers == nil {
		return
	}
	if a.e != api.OK {
		if !x.orNone || a.e != api.ErrNone {
			t.Fatalf("not opened: %d, of%s", a.e, shownAs(w.d.Seize()))
		}
		return
	}
	s := w.j.Super()
	if !slices.Contains(x.supers, s) {
		t.Fatalf("opened as %v, asked one of %v", s, x.supers)
	}
	now := w.d.Seize()
	for at, block := range now.Blocks {
		i := at - 4
		switch {
		case at == 2+s.Epoch%2:
			if block != keyBytes(s.Epoch, keyFor(s.Epoch)) {
				t.Fatalf("the key is %s", told(block))
			}
		case at == 3-s.Epoch%2 || i >= s.Tail:
			if block != noughts() {
				t.Fatalf("%d has %s", at, told(block))
			}
		case i >= 0 && !slices.Contains(x.blocks[i], block):
			t.Fatalf("the data's block %d has %s", i, told(block))
		}
	}
	for epoch := range 13 {
		if epoch != s.Epoch && holds(now, keyFor(epoch)) {
			t.Fatalf("the key of %d is there, in epoch %d", epoch, s.Epoch)
		}
	}
}

// sweep goes through crashes, and through crashes while what is left is put right.
type sweep struct {
	r    *rand.Rand
	ends ends
	// seen are the images that were gone through, with so many crashes more.
	seen map[string]int
	// ids are the blocks' numbers, which name an image in few letters.
	ids map[string]int
	// opened is how many images were opened.
	opened int
}

func newSweep(x ends) *sweep {
	return &sweep{rand.New(rand.NewSource(25)), x, map[string]int{}, map[string]int{}, 0}
}

// isNew says whether this was not gone through with as many crashes more, and takes it down.
func (s *sweep) isNew(x api.Image, more int) bool {
	var b strings.Builder
	for _, block := range x.Blocks {
		id, is := s.ids[block]
		if !is {
			id = len(s.ids)
			s.ids[block] = id
		}
		fmt.Fprint(&b, id, " ")
	}
	n, is := s.seen[b.String()]
	if is && n >= more {
		return false
	}
	s.seen[b.String()] = more
	return true
}

// crash goes through all that may be kept of an image's cache.
func (s *sweep) crash(t *testing.T, x api.Image, more int) {
	t.Helper()
	for _, keep := range keeps(s.r, len(x.Cache)) {
		d := load(t, x)
		ok(t, d.Crash(keep...))
		s.open(t, d.Seize(), more)
	}
}

// open opens what is left, and lets so many crashes come while it is put right.
func (s *sweep) open(t *testing.T, x api.Image, more int) {
	t.Helper()
	if !s.isNew(x, more) {
		return
	}
	s.opened++
	w := world(t, x)
	a := w.do(t, opening())
	s.ends.are(t, w, a)
	again(t, w, a)
	for n := 1; more > 0; n++ {
		w := world(t, x, arms(n))
		if a := w.do(t, opening()); !w.d.Down() {
			return
		} else if w.j != nil || a.e != api.ErrDown {
			t.Fatalf("the power goes at step %d of Open: %v %d", n, w.j, a.e)
		}
		s.crash(t, w.d.Seize(), more-1)
	}
}

// again is P25.7: opened once more nothing is written, nor flushed, and the same is told.
func again(t *testing.T, w *pair, first answer) {
	t.Helper()
	if first.e != api.OK {
		return
	}
	was, looked := w.d.Seize(), looksOf(w.j)
	if len(was.Cache) != 0 {
		t.Fatal("something is not flushed")
	}
	w.is(t, arms(1), api.OK)
	if a := w.do(t, opening()); a != first || w.d.Down() || looksOf(w.j) != looked {
		t.Fatalf("opened once more: %d", a.e)
	}
	if now := w.d.Seize(); !likeImages(now, was) {
		t.Fatalf("opened once more there is%s", shownAs(now))
	}
}

// P25.6 and P25.7: a crash at each step of each call, and behind it, with whatever is kept, and up to two more crashes while it is put right.
func TestCrashes(t *testing.T) {
	for _, s := range scenes() {
		sweep := newSweep(s.endsOf(t))
		for n := 1; n <= s.count(t)+1; n++ {
			w, _ := s.at(t, n)
			sweep.crash(t, w.d.Seize(), 2)
		}
		if sweep.opened == 0 {
			t.Error(s, "was not opened")
		}
	}
}

// Whatever is refused at a step: the disk's error is told, and the journal is broken from then on, for each of its calls.
func TestBroken(t *testing.T) {
	for _, s := range scenes() {
		for n := 1; n <= s.count(t); n++ {
			for _, c := range slices.Concat(asked(), wrong()) {
				w, a := s.at(t, n)
				if a != (answer{e: api.ErrDown}) && s.kind != toOpen {
					t.Fatalf("%v, step %d: %v", s, n, a)
				}
				if w.j == nil {
					break // Open hands out none, and Format has none
				}
				w.is(t, boots(), api.OK)
				w.is(t, c, api.ErrDown)
				brokenIs(t, w)
			}
		}
	}
}

// The same where the disk is down ahead of the call, and has power again behind it: Read is refused, too.
func TestDownAhead(t *testing.T) {
	s := api.Super{Gen: 6, Tail: 2, Epoch: 3, Geo: small(6, 2)}
	for _, c := range asked() {
		w := opened(t, imageOf(s, text("a"), text("b")), overs(1, "o"))
		w.is(t, crashes(), api.OK)
		w.is(t, c, api.ErrDown)
		used := 2
		if c.kind == toAppend || c.kind == toClose {
			used = 3
		}
		if got := looksOf(w.j); got != (looks{s, used, 5 - used}) {
			t.Errorf("%v: it tells %v", c, got)
		}
		w.is(t, boots(), api.OK)
		brokenIs(t, w)
		// another journal is made of what is there
		w.is(t, opening(), api.OK)
		if got := looksOf(w.j); got != (looks{s, 2, 3}) {
			t.Errorf("%v: opened it tells %v", c, got)
		}
	}
}

// Whether a disk is down is asked by its calls alone: one that was down between two of them is none that refused.
func TestDownBetween(t *testing.T) {
	w := fresh(t, small(4, 2), appends("a"), crashes(), boots(), appends("b"))
	if got := looksOf(w.j); got.used != 2 {
		t.Error(got)
	}
	if a := w.do(t, reads(0)); a != (answer{s: noughts()}) {
		t.Error("what was lost is there", told(a.s), a.e)
	}
	w.is(t, commits(1), api.OK)
}

// What is told behind each step at which a call was refused: the superblock is the last one once it is flushed, and not ahead of that.
func TestRefusedLooks(t *testing.T) {
	s := api.Super{Gen: 6, Tail: 1, Epoch: 3, Clock: 1, Geo: small(6, 2)}
	next := api.Super{Gen: 7, Tail: 2, Epoch: 3, Clock: 5, Geo: s.Geo}
	closed := api.Super{Gen: 7, Tail: 3, Epoch: 4, Clock: 5, Geo: s.Geo}
	for _, x := range []struct {
		call
		want []looks
	}{
		{appends("b"), []looks{{s, 3, 2}, {s, 3, 2}}},
		{overs(0, "b"), []looks{{s, 2, 3}, {s, 2, 3}}},
		{flushes(), []looks{{s, 2, 3}, {s, 2, 3}}},
		{commits(5), []looks{{s, 2, 3}, {s, 2, 3}, {s, 2, 3}, {next, 2, 3}}},
		{closes("end", 4, 5), []looks{{s, 3, 2}, {s, 3, 2}, {s, 3, 2}, {s, 3, 2}, {s, 3, 2}, {closed, 3, 2}, {closed, 3, 2}, {closed, 3, 2}}},
	} {
		for i, want := range x.want {
			its := scene{x: imageOf(s, text("a")), ahead: []call{opening(), appends("more")}, call: x.call}
			w, a := its.at(t, i+1)
			e := api.ErrDown
			if i == len(x.want)-1 {
				e = api.OK
			}
			if got := looksOf(w.j); got != want || a.e != e {
				t.Errorf("%v, step %d: %d, it tells %v, asked %v", x.call, i+1, a.e, got, want)
			}
		}
	}
}

// P25.6, by hand: what was committed is there, and what was appended behind it is gone, or all of what the call on its way would have committed.
func TestWhole(t *testing.T) {
	for _, c := range []call{commits(5), closes("end", 4, 5)} {
		before, after := 0, 0
		n := 1
		for ; ; n++ {
			its := scene{x: blank(10), ahead: []call{formatting(small(6, 3)), opening(), appends("a"), commits(1), appends("b"), appends("c")}, call: c}
			w, a := its.at(t, n)
			for _, keep := range keeps(nil, len(w.d.Seize().Cache)) {
				d := load(t, w.d.Seize())
				ok(t, d.Crash(keep...))
				ok(t, d.Boot())
				j, blocks, key, e := journal.Open(d)
				ok(t, e)
				end := []string{text("a"), text("b"), text("c"), text("end")}[:3+c.kind/toClose]
				switch {
				case j.Super().Gen == 2 && a.e != api.OK:
					before++
					if key != keyFor(3) || !slices.Equal(blocks, end[:1]) || j.Super().Clock != 1 {
						t.Errorf("%v, step %d: %q, %d blocks, %v", c, n, key, len(blocks), j.Super())
					}
				case j.Super().Gen == 3:
					after++
					if key != keyFor(2+c.kind) || !slices.Equal(blocks, end) || j.Super().Clock != 5 {
						t.Errorf("%v, step %d: %q, %d blocks, %v", c, n, key, len(blocks), j.Super())
					}
				default:
					t.Errorf("%v, step %d: %v", c, n, j.Super())
				}
				if x := d.Seize(); holds(x, "b---") != (j.Super().Gen == 3) || len(x.Cache) != 0 {
					t.Errorf("%v, step %d:%s", c, n, shownAs(x))
				}
			}
			if a.e == api.OK {
				break
			}
		}
		if before == 0 || after == 0 {
			t.Error("not both", before, after)
		}
	}
}

// P25.8: behind an answered Close the key ahead stands nowhere, nor among what is not flushed; behind one that was not answered it stands nowhere once the next epoch is opened, and the next one nowhere, if that is not.
func TestWiped(t *testing.T) {
	for _, s := range scenes() {
		if s.kind != toClose {
			continue
		}
		w := world(t, s.x, s.ahead...)
		epoch := w.j.Super().Epoch
		was := keyFor(epoch)
		if !holds(w.d.Seize(), was) {
			t.Fatal(s, "has no key")
		}
		if a := w.do(t, s.call); a.e == api.ErrLimit {
			continue // no block is left
		} else if a.e != api.OK || holds(w.d.Seize(), was) || !holds(w.d.Seize(), s.call.key) {
			t.Errorf("%v: %d, and there is%s", s, a.e, shownAs(w.d.Seize()))
		}
		for n := 1; n <= 7; n++ {
			w, a := s.at(t, n)
			if a.e != api.ErrDown {
				t.Fatalf("%v, step %d: %d", s, n, a.e)
			}
			x := w.d.Seize()
			for _, keep := range keeps(rand.New(rand.NewSource(1)), len(x.Cache)) {
				w := world(t, x, crashes(keep...), boots(), opening())
				now, key, gone := w.d.Seize(), s.call.key, was
				if w.j.Super().Epoch == epoch {
					key, gone = gone, key
				}
				if holds(now, gone) || !holds(now, key) {
					t.Errorf("%v, step %d, kept %v:%s", s, n, keep, shownAs(now))
				}
			}
		}
	}
}

// A Format on its way over a journal that was there: what Open tells is what the words tell of what is left, be it that journal with some of its blocks wiped.
func TestFormatOver(t *testing.T) {
	s := api.Super{Gen: 5, Tail: 2, Epoch: 6, Geo: small(4, 5)}
	old := imageOf(s, text("a"), text("b"))
	w := world(t, old, arms(5))
	w.is(t, formatting(small(4, 0)), api.ErrDown)
	x := w.d.Seize()
	if len(x.Cache) != 4 {
		t.Fatal(shownAs(x))
	}
	seen := map[api.Errno]int{}
	for _, keep := range keeps(nil, 4) {
		w := world(t, x, crashes(keep...), boots())
		seen[w.do(t, opening()).e]++
	}
	// the superblock, or else the key, was wiped, or neither
	if seen[api.ErrNone] != 12 || seen[api.OK] != 4 {
		t.Error(seen)
	}
}

// A disk that is another one, behind the journal's back, refuses by its own words.
func TestOtherDisk(t *testing.T) {
	s := api.Super{Gen: 6, Tail: 8, Epoch: 3, Geo: small(12, 2)}
	for _, x := range []struct {
		call
		d *disk.Disk
		e api.Errno
	}{
		{appends("c"), load(t, blank(8)), api.ErrRange},
		{closes("c", 4, 0), load(t, blank(8)), api.ErrRange},
		{overs(7, "o"), load(t, blank(8)), api.ErrRange},
		{reads(7), load(t, blank(8)), api.ErrRange},
		{commits(0), new(disk.Disk), api.ErrNil},
		{flushes(), new(disk.Disk), api.ErrNil},
	} {
		w := opened(t, imageOf(s, slices.Repeat([]string{text("a")}, 8)...))
		*w.d = *x.d
		for _, e := range []api.Errno{x.e, api.ErrDown} {
			if a := w.got(x.call); a != (answer{e: e}) {
				t.Errorf("%v: %v, asked %d", x.call, a, e)
			}
		}
	}
}
