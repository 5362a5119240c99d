package segment_test

import (
	"math"
	"math/rand"
	"slices"
	"strconv"
	"strings"
	"testing"

	"keepsake/api"
	"keepsake/proof"
	"keepsake/segment"
)

const (
	// last is the document's 2^32 - 1.
	last = 4294967295
	// least and most are as far as an int goes.
	least = math.MinInt64
	most  = math.MaxInt64
)

// askedEpochs are epochs, and slots, at the bounds, beyond them, and between.
func askedEpochs() []int {
	return []int{least, least + 1, -last - 1, -2, -1, 0, 1, 2, 255, 256, 1 << 31, last - 1, last, last + 1, last + 2, 1 << 40, most - 1, most}
}

// askedLbas are places at the bounds, beyond them, and between.
func askedLbas() []int {
	return []int{least, least + 1, -last - 1, -4096, -1, 0, 1, 2048, 4094, 4095, 4096, 4097, last, last + 1, last + 4, most - 1, most}
}

// askedCiphers are ciphers about the greatest length, and far from it.
func askedCiphers() []string {
	return []string{"", "\x00", "ab", strings.Repeat("\xff", 3999), strings.Repeat("c", 4000), strings.Repeat("c", 4001), strings.Repeat("\x00", 4096), strings.Repeat("long", 1<<16)}
}

// about are places at the bounds and beyond, each of the leaves', and those beside it.
func about(l []api.Leaf) []int {
	lbas := askedLbas()
	for _, leaf := range l {
		lbas = append(lbas, leaf.Lba-1, leaf.Lba, leaf.Lba+1)
	}
	slices.Sort(lbas)
	return slices.Compact(lbas)
}

// made makes a segment in which these are put, which all may be, and the plain one.
func made(t *testing.T, epoch int, l ...put) (*segment.Segment, *plain) {
	t.Helper()
	s, e := segment.New(epoch)
	if s == nil || e != api.OK {
		t.Fatalf("New(%d): %v %d", epoch, s, e)
	}
	p := &plain{epoch: epoch}
	for _, w := range l {
		puts(t, s, w, api.OK)
		p.put(w)
	}
	return s, p
}

// puts holds what Put answers against what is asked.
func puts(t *testing.T, s *segment.Segment, w put, want api.Errno) {
	t.Helper()
	if e := s.Put(w.lba, w.slot, w.cipher); e != want {
		t.Fatalf("Put(%d, %d, %d bytes): %d, asked %d", w.lba, w.slot, len(w.cipher), e, want)
	}
}

// has holds Leaves, Count and Root against leaves that were worked out otherwise.
func has(t *testing.T, s *segment.Segment, l []api.Leaf) {
	t.Helper()
	if got := s.Leaves(); !slices.Equal(got, l) {
		t.Fatalf("Leaves: %x, asked %x", got, l)
	}
	if n := s.Count(); n != len(l) {
		t.Fatalf("Count: %d, asked %d", n, len(l))
	}
	if got, want := s.Root(), root(hashes(l)); got != want {
		t.Fatalf("Root: %x, asked %x", got, want)
	}
}

func alike(p, q api.Proof) bool {
	return p.Found == q.Found && p.At == q.At && p.Here == q.Here && p.Ahead == q.Ahead && slices.Equal(p.Up, q.Up) && slices.Equal(p.Left, q.Left)
}

// proves holds Prove against the proof that is asked.
func proves(t *testing.T, s *segment.Segment, lba int, want api.Proof, err api.Errno) {
	t.Helper()
	if p, e := s.Prove(lba); !alike(p, want) || e != err {
		t.Fatalf("Prove(%d): %v %d, asked %v %d", lba, p, e, want, err)
	}
}

// like holds all that a segment tells, at these places, against the plain one.
func like(t *testing.T, s *segment.Segment, p *plain, lbas ...int) {
	t.Helper()
	l := p.leaves()
	has(t, s, l)
	if n := s.Epoch(); n != p.epoch {
		t.Fatalf("Epoch: %d, asked %d", n, p.epoch)
	}
	for _, lba := range lbas {
		want, e := prove(l, lba)
		proves(t, s, lba, want, e)
	}
}

// same is like, at all places that may make a difference.
func same(t *testing.T, s *segment.Segment, p *plain) {
	t.Helper()
	like(t, s, p, about(p.leaves())...)
}

// tells holds what the proof of a place tells, by the segment's root and count, against what is asked.
func tells(t *testing.T, s *segment.Segment, lba int, want string, found bool) {
	t.Helper()
	p, e := s.Prove(lba)
	if e != api.OK {
		t.Fatalf("Prove(%d): %d", lba, e)
	}
	if hash, is, e := proof.Tells(s.Root(), s.Count(), lba, p); hash != want || is != found || e != api.OK {
		t.Fatalf("told of %d: %x %t %d, asked %x %t", lba, hash, is, e, want, found)
	}
}

// data is the hash of what was put.
func data(epoch int, w put) string { return library(four(epoch) + four(w.slot) + w.cipher) }

// every are puts of so many places, from a first one on, so many apart.
func every(count, first, step int) []put {
	var l []put
	for i := range count {
		l = append(l, put{first + i*step, 3 * i, "data " + strconv.Itoa(i)})
	}
	return l
}

func shuffled(r *rand.Rand, l []put) []put {
	l = slices.Clone(l)
	r.Shuffle(len(l), func(i, j int) { l[i], l[j] = l[j], l[i] })
	return l
}

// orders hands on all orders of a list.
func orders(l []put, each func(order []put)) {
	var turn func(n int)
	turn = func(n int) {
		if n == len(l) {
			each(slices.Clone(l))
			return
		}
		for i := n; i < len(l); i++ {
			l[n], l[i] = l[i], l[n]
			turn(n + 1)
			l[n], l[i] = l[i], l[n]
		}
	}
	turn(0)
}

// The chapter's example.
func TestExample(t *testing.T) {
	s, e := segment.New(0)
	if e != api.OK {
		t.Fatal(e)
	}
	puts(t, s, put{3, 0, "a"}, api.OK)
	puts(t, s, put{3, 1, "b"}, api.OK)
	l := []api.Leaf{{Lba: 3, Hash: library("\x00\x00\x00\x00\x00\x00\x00\x01b")}}
	has(t, s, l)
	proves(t, s, 3, api.Proof{Found: true, Here: l[0]}, api.OK)
}

// P17.1.
func TestNew(t *testing.T) {
	for epoch, want := range map[int]api.Errno{
		-1: api.ErrArg, 0: api.OK, 1: api.OK, 4294967295: api.OK, 4294967296: api.ErrArg, least: api.ErrArg, most: api.ErrArg,
	} {
		if s, e := segment.New(epoch); e != want || (s == nil) != (e != api.OK) {
			t.Errorf("New(%d): %v %d, asked %d", epoch, s, e, want)
		}
	}
	for _, epoch := range askedEpochs() {
		s, e := segment.New(epoch)
		if epoch < 0 || epoch > last {
			if s != nil || e != api.ErrArg {
				t.Errorf("New(%d): %v %d", epoch, s, e)
			}
			continue
		}
		if s == nil || e != api.OK || s.Epoch() != epoch {
			t.Fatalf("New(%d): %v %d", epoch, s, e)
		}
		has(t, s, nil)
		for _, lba := range []int{0, 1, 4094, 4095} {
			proves(t, s, lba, api.Proof{}, api.OK)
			tells(t, s, lba, "", false)
		}
		for _, lba := range []int{-1, 4096, least, most} {
			proves(t, s, lba, api.Proof{}, api.ErrArg)
		}
	}
}

// P17.1: the epoch is in the hash of whatever is put.
func TestEpochs(t *testing.T) {
	for _, epoch := range []int{0, 1, 255, 256, 0x01020304, 1 << 31, last - 1, last} {
		s, p := made(t, epoch, put{0, 0, ""}, put{1, epoch, "a"}, put{4095, last, "b"})
		same(t, s, p)
		has(t, s, []api.Leaf{
			{Lba: 0, Hash: library(four(epoch) + "\x00\x00\x00\x00")},
			{Lba: 1, Hash: library(four(epoch) + four(epoch) + "a")},
			{Lba: 4095, Hash: library(four(epoch) + "\xff\xff\xff\xffb")},
		})
	}
}

// P17.1: by hand, what may be and what may not.
func TestPutByHand(t *testing.T) {
	full := strings.Repeat("c", 4000)
	for _, c := range []struct {
		w    put
		want api.Errno
	}{
		{put{0, 0, ""}, api.OK},
		{put{4095, 4294967295, full}, api.OK},
		{put{1, 2, full[1:]}, api.OK},
		{put{-1, 0, ""}, api.ErrArg},
		{put{4096, 0, ""}, api.ErrArg},
		{put{least, 0, ""}, api.ErrArg},
		{put{most, 0, ""}, api.ErrArg},
		{put{4294967296, 0, ""}, api.ErrArg},
		{put{0, -1, ""}, api.ErrArg},
		{put{0, 4294967296, ""}, api.ErrArg},
		{put{0, least, ""}, api.ErrArg},
		{put{0, most, ""}, api.ErrArg},
		{put{0, 0, full + "c"}, api.ErrArg},
		{put{-1, -1, ""}, api.ErrArg},
		{put{4096, 4294967296, full + "c"}, api.ErrArg},
	} {
		s, _ := made(t, 7)
		puts(t, s, c.w, c.want)
		if c.want == api.OK {
			has(t, s, []api.Leaf{{Lba: c.w.lba, Hash: data(7, c.w)}})
		} else {
			has(t, s, nil)
		}
	}
}

// P17.1, P2: each number and each cipher, the others being right or wrong, put in a segment that has nothing, that has the place, and that has others; what is refused changes nothing.
func TestPut(t *testing.T) {
	for _, lba := range askedLbas() {
		for _, slot := range askedEpochs() {
			for _, cipher := range askedCiphers() {
				w := put{lba, slot, cipher}
				for _, there := range [][]put{nil, {{lba, 5, "there"}}, {{7, 1, "seven"}, {2048, 2, ""}, {9, 3, "nine"}}, {{2047, 1, "ahead"}, {lba, 5, "there"}, {2049, 2, "behind"}}} {
					there = slices.DeleteFunc(slices.Clone(there), func(w put) bool { return !w.mayBe() })
					s, p := made(t, 8, there...)
					want := p.put(w)
					puts(t, s, w, want)
					has(t, s, p.leaves())
					if s.Epoch() != 8 {
						t.Fatalf("Epoch: %d", s.Epoch())
					}
				}
			}
		}
	}
}

// P2: what is refused, alone and with more that is wrong, changes nothing that any call tells, nor what is put later.
func TestRefused(t *testing.T) {
	long := strings.Repeat("c", 4001)
	for _, there := range [][]put{nil, {{7, 0, "a"}}, {{0, 1, "a"}, {7, 2, "b"}, {4095, 3, "c"}}, every(9, 3, 2)} {
		s, p := made(t, 1, there...)
		for _, lba := range []int{-1, 4096, least, most, 7, 8, 0, 4095} {
			for _, slot := range []int{-1, last + 1, least, most, 9} {
				for _, cipher := range []string{long, "", "new"} {
					if w := (put{lba, slot, cipher}); !w.mayBe() {
						puts(t, s, w, api.ErrArg)
						like(t, s, p, -1, 0, 7, 8, 4095, 4096)
					}
				}
			}
		}
		same(t, s, p)
		for _, w := range []put{{7, 9, "new"}, {8, 10, "new"}} {
			puts(t, s, w, p.put(w))
			same(t, s, p)
		}
	}
}

// P2: nor does a proof that is refused.
func TestRefusedProof(t *testing.T) {
	s, p := made(t, 1, every(5, 0, 1000)...)
	for _, lba := range []int{-1, 4096, least, most, last + 1} {
		for range 2 {
			proves(t, s, lba, api.Proof{}, api.ErrArg)
			same(t, s, p)
		}
	}
}

// P17.1, P17.3: what was put last of a place counts, whatever it had: not the greatest slot, nor the longest cipher.
func TestLast(t *testing.T) {
	s, p := made(t, 2)
	for _, w := range []put{
		{5, 1, "one"}, {5, 2, "two"}, {5, 1, "one"}, {5, 1, "one"}, {5, 0, ""}, {5, last, "last"}, {5, 3, "last"}, {5, 3, "\x00"}, {5, 3, ""}, {5, 3, "longer than all others"}, {5, 2, "x"},
	} {
		puts(t, s, w, api.OK)
		p.put(w)
		has(t, s, []api.Leaf{{Lba: 5, Hash: data(2, w)}})
		same(t, s, p)
		tells(t, s, 5, data(2, w), true)
		tells(t, s, 4, "", false)
		tells(t, s, 6, "", false)
	}
	for _, w := range []put{{4, 9, "four"}, {5, 8, "five"}, {6, 7, "six"}, {4, 6, "four"}, {6, 5, "six"}, {5, 4, ""}} {
		puts(t, s, w, api.OK)
		p.put(w)
		same(t, s, p)
		tells(t, s, w.lba, data(2, w), true)
	}
	if s.Count() != 3 {
		t.Errorf("Count: %d", s.Count())
	}
}

// P17.3: all orders of six puts of four places: what was put last of each place counts alone.
func TestAnyOrder(t *testing.T) {
	l := []put{{0, 1, "a"}, {7, 2, "b"}, {7, 3, "c"}, {4095, 4, "d"}, {8, 0, ""}, {7, 5, "e"}}
	orders(l, func(order []put) {
		s, p := made(t, 3, order...)
		like(t, s, p, 0, 3, 7, 8, 9, 4094, 4095)
		final := map[int]put{}
		for _, w := range order {
			final[w.lba] = w
		}
		if s.Count() != len(final) {
			t.Fatalf("Count: %d, asked %d", s.Count(), len(final))
		}
		for lba, w := range final {
			tells(t, s, lba, data(3, w), true)
		}
		// only what was put last, and by places rising
		var only []put
		for _, lba := range []int{0, 7, 8, 4095} {
			only = append(only, final[lba])
		}
		other, _ := made(t, 3, only...)
		has(t, s, other.Leaves())
	})
}

// P17.3: rising, falling and as they come, places make the same segment.
func TestRisingFalling(t *testing.T) {
	r := rand.New(rand.NewSource(17))
	for _, l := range [][]put{every(1, 9, 1), every(2, 0, 4095), every(7, 0, 1), every(16, 4080, 1), every(100, 3, 40)} {
		rising, p := made(t, 4, l...)
		same(t, rising, p)
		falling := slices.Clone(l)
		slices.Reverse(falling)
		rows := [][]put{falling, append(slices.Clone(falling), l...), append(slices.Clone(l), falling...)}
		for range 5 {
			rows = append(rows, shuffled(r, l))
		}
		for _, row := range rows {
			s, _ := made(t, 4, row...)
			has(t, s, p.leaves())
			if s.Root() != rising.Root() {
				t.Fatal("another root")
			}
		}
	}
}

// P17.1 to P17.3: all places there are, and all of them once more.
func TestAllPlaces(t *testing.T) {
	l := every(4096, 0, 1)
	falling := slices.Clone(l)
	slices.Reverse(falling)
	var want []api.Leaf
	for _, w := range l {
		want = append(want, api.Leaf{Lba: w.lba, Hash: data(9, w)})
	}
	r := rand.New(rand.NewSource(1))
	for _, row := range [][]put{l, falling, shuffled(r, l), append(every(4096, 0, 1)[5:], falling...)} {
		s, _ := made(t, 9, row...)
		has(t, s, want)
		for _, lba := range []int{-1, 0, 1, 2047, 2048, 4094, 4095, 4096, least, most} {
			p, e := prove(want, lba)
			proves(t, s, lba, p, e)
		}
		for lba := range 4096 {
			if lba%97 == 0 {
				tells(t, s, lba, want[lba].Hash, true)
			}
		}
		over := put{2048, last, "over"}
		puts(t, s, over, api.OK)
		turned := slices.Clone(want)
		turned[2048].Hash = data(9, over)
		has(t, s, turned)
	}
}

// P17.1 to P17.3: one place after the other, of all places there are.
func TestGrows(t *testing.T) {
	s, _ := made(t, 0)
	r := rand.New(rand.NewSource(2))
	for i, w := range shuffled(r, every(4096, 0, 1)) {
		if n := s.Count(); n != i {
			t.Fatalf("Count: %d, asked %d", n, i)
		}
		puts(t, s, w, api.OK)
	}
	puts(t, s, put{0, 0, "again"}, api.OK)
	if n := s.Count(); n != 4096 {
		t.Fatalf("Count: %d", n)
	}
}

// P17.2: by hand, of one, two and three places.
func TestTreesByHand(t *testing.T) {
	leaf := func(w put) (api.Leaf, string) {
		l := api.Leaf{Lba: w.lba, Hash: data(6, w)}
		return l, library("\x00" + four(l.Lba) + l.Hash)
	}
	node := func(left, right string) string { return library("\x01" + left + right) }
	three, seven, nine := put{3, 2, "three"}, put{7, 1, "seven"}, put{9, 0, "nine"}
	a, x := leaf(three)
	b, y := leaf(seven)
	c, z := leaf(nine)

	s, _ := made(t, 6, seven)
	if s.Root() != y {
		t.Errorf("root of one: %x", s.Root())
	}
	proves(t, s, 7, api.Proof{Found: true, Here: b}, api.OK)
	proves(t, s, 6, api.Proof{Here: b}, api.OK)
	proves(t, s, 8, api.Proof{At: 1, Ahead: b}, api.OK)

	puts(t, s, three, api.OK)
	if s.Root() != node(x, y) {
		t.Errorf("root of two: %x", s.Root())
	}
	proves(t, s, 3, api.Proof{Found: true, Here: a, Up: api.Path{y}}, api.OK)
	proves(t, s, 7, api.Proof{Found: true, At: 1, Here: b, Up: api.Path{x}}, api.OK)
	proves(t, s, 2, api.Proof{Here: a, Up: api.Path{y}}, api.OK)
	proves(t, s, 5, api.Proof{At: 1, Ahead: a, Left: api.Path{y}, Here: b, Up: api.Path{x}}, api.OK)
	proves(t, s, 4095, api.Proof{At: 2, Ahead: b, Left: api.Path{x}}, api.OK)

	puts(t, s, nine, api.OK)
	if s.Root() != node(node(x, y), z) {
		t.Errorf("root of three: %x", s.Root())
	}
	proves(t, s, 9, api.Proof{Found: true, At: 2, Here: c, Up: api.Path{node(x, y)}}, api.OK)
	proves(t, s, 8, api.Proof{At: 2, Ahead: b, Left: api.Path{x, z}, Here: c, Up: api.Path{node(x, y)}}, api.OK)
	proves(t, s, 10, api.Proof{At: 3, Ahead: c, Left: api.Path{node(x, y)}}, api.OK)
	proves(t, s, 0, api.Proof{Here: a, Up: api.Path{y, z}}, api.OK)
	proves(t, s, -1, api.Proof{}, api.ErrArg)
	proves(t, s, 4096, api.Proof{}, api.ErrArg)
}

// P17.2, P17.3: of nothing, of few places and of many: each that it has, ahead of all, between two, behind all, and beyond; what is proved is told by the root and the count.
func TestPlaces(t *testing.T) {
	r := rand.New(rand.NewSource(3))
	for _, count := range []int{0, 1, 2, 3, 4, 5, 6, 7, 8, 9, 15, 16, 17, 33, 200} {
		for _, row := range [][]put{every(count, 0, 1), every(count, 4096-count, 1), every(count, 2, 20), every(count, 1, 2)} {
			s, p := made(t, 5, shuffled(r, row)...)
			l := p.leaves()
			if len(l) != count || s.Count() != count {
				t.Fatalf("Count: %d, asked %d", s.Count(), count)
			}
			same(t, s, p)
			for _, lba := range about(l) {
				if lba < 0 || lba > 4095 {
					proves(t, s, lba, api.Proof{}, api.ErrArg)
					continue
				}
				want := ""
				if i := slices.IndexFunc(row, func(w put) bool { return w.lba == lba }); i >= 0 {
					want = data(5, row[i])
				}
				tells(t, s, lba, want, want != "")
			}
		}
	}
}

// P17.2: Root and Prove are proof's of the leaves.
func TestProofs(t *testing.T) {
	r := rand.New(rand.NewSource(4))
	for range 60 {
		s, p := made(t, r.Intn(last+1))
		for range r.Intn(40) {
			w := put{r.Intn(60), r.Intn(last + 1), strconv.Itoa(r.Intn(5))}
			puts(t, s, w, p.put(w))
		}
		l := p.leaves()
		if want, e := proof.Root(l); s.Root() != want || e != api.OK {
			t.Fatalf("Root: %x, asked %x", s.Root(), want)
		}
		for lba := -1; lba < 62; lba++ {
			want, e := proof.Prove(l, lba)
			proves(t, s, lba, want, e)
		}
	}
}

// P17.3: a proof that was made ahead of another put tells by the root and the count of then, and no more by those of now.
func TestOldProofs(t *testing.T) {
	first, second := put{7, 1, "first"}, put{7, 2, "second"}
	s, _ := made(t, 1, put{3, 0, "three"}, first, put{9, 0, "nine"})
	p, e := s.Prove(7)
	was, count := s.Root(), s.Count()
	if e != api.OK {
		t.Fatal(e)
	}
	puts(t, s, second, api.OK)
	if hash, found, e := proof.Tells(was, count, 7, p); hash != data(1, first) || !found || e != api.OK {
		t.Errorf("by the root of then: %x %t %d", hash, found, e)
	}
	if hash, found, e := proof.Tells(s.Root(), s.Count(), 7, p); hash != "" || found || e != api.ErrProof {
		t.Errorf("by the root of now: %x %t %d", hash, found, e)
	}
	tells(t, s, 7, data(1, second), true)
	puts(t, s, first, api.OK)
	if s.Root() != was {
		t.Error("the same leaves have another root")
	}
}

// What is told is new memory: written over, cut down and added to by the caller it changes nothing; nor do later puts change it.
func TestNewMemory(t *testing.T) {
	for _, row := range [][]put{every(1, 7, 1), every(2, 7, 2), every(5, 5, 1), every(9, 100, 3)} {
		s, p := made(t, 1, row...)
		for lba := row[0].lba - 2; lba < row[0].lba+9; lba++ {
			l, m := s.Leaves(), s.Leaves()
			a, _ := s.Prove(lba)
			b, _ := s.Prove(lba)
			for i := range l {
				l[i] = api.Leaf{Lba: -1, Hash: "x"}
			}
			clear(append(l[:0], api.Leaf{Lba: 9}))
			clear(l[:cap(l)])
			a.Up, a.Left = append(a.Up, "more"), append(a.Left, "more")
			for _, up := range []api.Path{a.Up, a.Left} {
				clear(up[:cap(up)])
			}
			if !slices.Equal(m, p.leaves()) {
				t.Fatal("two lists share their room")
			}
			if want, _ := prove(p.leaves(), lba); !alike(b, want) {
				t.Fatal("two proofs share their room")
			}
			same(t, s, p)
		}
	}
}

// What was told is not changed by what is put later.
func TestToldStays(t *testing.T) {
	s, p := made(t, 1, every(9, 10, 10)...)
	l := s.Leaves()
	want := slices.Clone(l)
	told, asked := map[int]api.Proof{}, map[int]api.Proof{}
	for lba := range 120 {
		told[lba], _ = s.Prove(lba)
		asked[lba], _ = prove(p.leaves(), lba)
	}
	for _, lba := range []int{0, 10, 15, 50, 90, 95, 4095} {
		w := put{lba, 77, "later"}
		puts(t, s, w, p.put(w))
	}
	if !slices.Equal(l, want) {
		t.Error("the leaves of then are others now")
	}
	for lba := range told {
		if !alike(told[lba], asked[lba]) {
			t.Errorf("the proof of %d is another one now", lba)
		}
	}
	same(t, s, p)
}

// Two segments have nothing of each other, be they of one epoch or of two.
func TestApart(t *testing.T) {
	for _, epochs := range [][2]int{{1, 1}, {1, 2}, {0, last}} {
		s, p := made(t, epochs[0])
		u, q := made(t, epochs[1])
		for i := range 40 {
			w, x := put{i % 7, i, "s"}, put{i % 5, 40 - i, "u"}
			puts(t, s, w, p.put(w))
			like(t, u, q, 0, 5)
			puts(t, u, x, q.put(x))
			like(t, s, p, 0, 5)
			puts(t, u, put{i, i, strings.Repeat("x", 4001)}, api.ErrArg)
		}
		same(t, s, p)
		same(t, u, q)
	}
}

// What is asked in between, and how often, changes nothing.
func TestAsking(t *testing.T) {
	row := every(6, 1, 3)
	s, p := made(t, 1)
	for _, w := range row {
		for range 2 {
			same(t, s, p)
		}
		puts(t, s, w, p.put(w))
	}
	u, _ := made(t, 1, row...)
	same(t, u, p)
	same(t, s, p)
}

// P17.1: of nil, and of a Segment that no call made, also behind calls that it refused.
func TestNone(t *testing.T) {
	refused, _ := segment.New(-1)
	beyond, _ := segment.New(last + 1)
	for what, s := range map[string]*segment.Segment{"nil": nil, "a Segment": {}, "a new one": new(segment.Segment), "a refused one": refused, "one beyond": beyond} {
		for range 2 {
			for _, w := range []put{{0, 0, ""}, {1, 2, "a"}, {4095, last, strings.Repeat("c", 4000)}, {-1, 0, ""}, {4096, 0, ""}, {0, -1, ""}, {0, last + 1, ""}, {0, 0, strings.Repeat("c", 4001)}, {least, most, strings.Repeat("c", 4001)}} {
				puts(t, s, w, api.ErrNil)
			}
			if l := s.Leaves(); len(l) != 0 {
				t.Errorf("Leaves of %s: %v", what, l)
			}
			if n, epoch, top := s.Count(), s.Epoch(), s.Root(); n != 0 || epoch != 0 || top != "" {
				t.Errorf("of %s: Count %d, Epoch %d, Root %x", what, n, epoch, top)
			}
			for _, lba := range askedLbas() {
				proves(t, s, lba, api.Proof{}, api.ErrNil)
			}
		}
	}
}

// P17.1 to P17.3, P2: long rows of puts, of which no few are refused, held against the plain row.
func TestLong(t *testing.T) {
	r := rand.New(rand.NewSource(17))
	edge := func(n int) func() int {
		return func() int { return n - 2 + r.Intn(4) }
	}
	few := func() int { return r.Intn(9) }
	for _, row := range []struct {
		lba, slot, length func() int
		n                 int
	}{
		{few, few, few, 200},
		{func() int { return r.Intn(4096) }, func() int { return r.Intn(1020) }, func() int { return r.Intn(4001) }, 300},
		{edge(4095), edge(last), edge(4000), 100},
		{edge(0), edge(0), few, 100},
		{func() int { return r.Intn(8192) }, func() int { return r.Intn(1 << 33) }, func() int { return r.Intn(8000) }, 300},
	} {
		s, p := made(t, r.Intn(last+1))
		for i := range row.n {
			w := put{row.lba(), row.slot(), strings.Repeat(strconv.Itoa(i%10), max(0, row.length()))}
			puts(t, s, w, p.put(w))
			if i%10 == 0 {
				like(t, s, p, w.lba-1, w.lba, w.lba+1, row.lba())
			}
		}
		same(t, s, p)
	}
}

// P1: whatever is handed in, the answers are those of the chapter's words.
func FuzzCalls(f *testing.F) {
	f.Add(0, 0, 0, 1, "a", []byte("abcabc"))
	f.Add(last, 4095, last, -1, "", []byte("azbzcz"))
	f.Add(last+1, 4096, last+1, 1, "x", []byte("a"))
	f.Add(-1, -1, -1, 2, "", []byte("abcdefgh"))
	f.Add(5, 4000, 7, 3, strings.Repeat("c", 3999), []byte("dcdcdabab"))
	f.Add(most, most, most, most, "", []byte("abcdefgh"))
	f.Add(least, least, least, least, "", []byte("hgfedcba"))
	f.Fuzz(func(t *testing.T, epoch, lba, slot, by int, cipher string, turns []byte) {
		s, e := segment.New(epoch)
		if epoch < 0 || epoch > last {
			if s != nil || e != api.ErrArg {
				t.Fatalf("New(%d): %v %d", epoch, s, e)
			}
			epoch = 0
		}
		s, p := made(t, epoch)
		w := put{lba, slot, cipher}
		for _, c := range turns[:min(len(turns), 40)] {
			puts(t, s, w, p.put(w))
			switch c % 5 {
			case 0:
				w.lba += by
			case 1:
				w.slot += by
			case 2:
				w = put{int(c), int(c), cipher}
			case 3:
				w.cipher += string(c)
			default:
				w.lba, w.slot = lba, slot
			}
		}
		same(t, s, p)
		like(t, s, p, lba, w.lba, w.lba+1, w.lba-1)
	})
}
