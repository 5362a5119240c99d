package proof_test

import (
	"math"
	"math/rand"
	"slices"
	"strconv"
	"strings"
	"testing"

	"keepsake/api"
	"keepsake/merkle"
	"keepsake/proof"
)

const (
	least = math.MinInt64
	most  = math.MaxInt64
	// last is as far as an epoch and a slot go.
	last = 1<<32 - 1
)

// leaf is one whose hash hangs on the word, too.
func leaf(lba int, word string) api.Leaf {
	return api.Leaf{Lba: lba, Hash: library(word + strconv.Itoa(lba))}
}

// at are leaves of these places.
func at(lbas ...int) []api.Leaf {
	var l []api.Leaf
	for _, lba := range lbas {
		l = append(l, leaf(lba, "leaf "))
	}
	return l
}

// everyOf are so many leaves, from a first place on, so many places apart.
func everyOf(count, first, step int) []api.Leaf {
	var l []api.Leaf
	for i := range count {
		l = append(l, leaf(first+i*step, "leaf "))
	}
	return l
}

// rows are leaves that may be: none, few, with the first and the last place and without, with gaps and without.
func rows() [][]api.Leaf {
	return [][]api.Leaf{
		nil, {}, at(0), at(7), at(4095), at(0, 4095), at(3, 7), at(4094, 4095), at(0, 1, 2), at(5, 9, 4000), at(0, 2, 4, 4095),
		at(1, 2, 3, 4, 5), everyOf(7, 0, 3), everyOf(8, 4088, 1), everyOf(9, 2, 511), everyOf(33, 100, 2),
	}
}

// askedLbas are places about those of the leaves, at the bounds, and beyond.
func askedLbas(l []api.Leaf) []int {
	lbas := []int{least, least + 1, -4096, -1, 0, 1, 2048, 4094, 4095, 4096, 4097, 1 << 32, 1<<32 + 3, most - 1, most}
	for i, w := range l {
		if i < 12 || i > len(l)-5 {
			lbas = append(lbas, w.Lba-1, w.Lba, w.Lba+1)
		}
	}
	slices.Sort(lbas)
	return slices.Compact(lbas)
}

// goodLbas are those of them that may be.
func goodLbas(l []api.Leaf) []int {
	return slices.DeleteFunc(askedLbas(l), func(lba int) bool { return lba < 0 || lba > 4095 })
}

// badHashes are texts that no leaf may have.
func badHashes() []string {
	h := library("h")
	return []string{"", "\x00", h[:31], h + "\x00", "\x00" + h, h + h, strings.Repeat("x", 5000)}
}

func badLbas() []int { return []int{least, least + 7, -4096, -1, 4096, 4097, 1 << 32, 1<<32 + 7, most} }

func topOf(l []api.Leaf) string { return digest(library).root(digest(library).texts(l)) }

func same(p, q api.Proof) bool {
	return p.Found == q.Found && p.At == q.At && p.Here == q.Here && p.Ahead == q.Ahead && slices.Equal(p.Up, q.Up) && slices.Equal(p.Left, q.Left)
}

func clone(p api.Proof) api.Proof {
	p.Up, p.Left = slices.Clone(p.Up), slices.Clone(p.Left)
	return p
}

func dataIs(t *testing.T, epoch, slot int, cipher, want string, err api.Errno) {
	t.Helper()
	if got, e := proof.Data(epoch, slot, cipher); got != want || e != err {
		t.Fatalf("data of %d, %d and %d bytes: %x %d, asked %x %d", epoch, slot, len(cipher), got, e, want, err)
	}
}

func saidIs(t *testing.T, l api.Leaf, want string) {
	t.Helper()
	if got := proof.Said(l); got != want {
		t.Fatalf("said of %d %x: %x, asked %x", l.Lba, l.Hash, got, want)
	}
}

func checkIs(t *testing.T, l []api.Leaf, want api.Errno) {
	t.Helper()
	if got := proof.Check(l); got != want {
		t.Fatalf("check of %d leaves: %d, asked %d: %v", len(l), got, want, l)
	}
}

func rootIs(t *testing.T, l []api.Leaf, want string, err api.Errno) {
	t.Helper()
	if got, e := proof.Root(l); got != want || e != err {
		t.Fatalf("root of %d leaves: %x %d, asked %x %d", len(l), got, e, want, err)
	}
}

func proofIs(t *testing.T, l []api.Leaf, lba int, want api.Proof, err api.Errno) {
	t.Helper()
	if got, e := proof.Prove(l, lba); !same(got, want) || e != err {
		t.Fatalf("proof of %d by %d leaves: %v %d, asked %v %d", lba, len(l), got, e, want, err)
	}
}

func tellsIs(t *testing.T, what, root string, count, lba int, p api.Proof, want string, found bool, err api.Errno) {
	t.Helper()
	was := clone(p)
	if got, is, e := proof.Tells(root, count, lba, p); got != want || is != found || e != err {
		t.Fatalf("%s: tells of %d by %d leaves: %x %t %d, asked %x %t %d: %v", what, lba, count, got, is, e, want, found, err, p)
	}
	if !same(p, was) {
		t.Fatalf("%s: the proof was changed", what)
	}
}

func refused(t *testing.T, what, root string, count, lba int, p api.Proof) {
	t.Helper()
	tellsIs(t, what, root, count, lba, p, "", false, api.ErrProof)
}

// tellsRight holds Tells against the chapter's words.
func tellsRight(t *testing.T, what, root string, count, lba int, p api.Proof) api.Errno {
	t.Helper()
	want, found, e := digest(library).tells(root, count, lba, p)
	tellsIs(t, what, root, count, lba, p, want, found, e)
	return e
}

func noClash(t *testing.T, what string, l []api.Leaf, lba int, p api.Proof) {
	t.Helper()
	if a, b, found := proof.Clash(l, lba, p); a != "" || b != "" || found {
		t.Fatalf("%s: clash of %d by %d leaves: %x %x %t", what, lba, len(l), a, b, found)
	}
}

// The chapter's example.
func TestExample(t *testing.T) {
	l := at(3, 7)
	three, seven := merkle.Leaf(proof.Said(l[0])), merkle.Leaf(proof.Said(l[1]))
	proofIs(t, l, 5, api.Proof{At: 1, Ahead: l[0], Here: l[1], Left: api.Path{seven}, Up: api.Path{three}}, api.OK)
	p, _ := proof.Prove(l, 5)
	tellsIs(t, "example", merkle.Node(three, seven), 2, 5, p, "", false, api.OK)
}

// P16.1.
func TestDataByHand(t *testing.T) {
	dataIs(t, 0, 0, "", library("\x00\x00\x00\x00\x00\x00\x00\x00"), api.OK)
	dataIs(t, 1, 2, "ab", library("\x00\x00\x00\x01\x00\x00\x00\x02ab"), api.OK)
	dataIs(t, 0x01020304, 0x05060708, "\x00", library("\x01\x02\x03\x04\x05\x06\x07\x08\x00"), api.OK)
	dataIs(t, last, last, "x", library("\xff\xff\xff\xff\xff\xff\xff\xffx"), api.OK)
	dataIs(t, last+1, 0, "x", "", api.ErrArg)
	dataIs(t, 0, last+1, "x", "", api.ErrArg)
	dataIs(t, -1, 0, "", "", api.ErrArg)
	dataIs(t, 0, -1, "", "", api.ErrArg)
}

// P16.1: each number at its bounds and beyond, with each other one.
func TestData(t *testing.T) {
	numbers := []int{least, least + 1, -1 << 32, -2, -1, 0, 1, 2, 255, 256, 1 << 31, last - 1, last, last + 1, last + 2, 1 << 40, most - 1, most}
	for _, epoch := range numbers {
		for _, slot := range numbers {
			for _, cipher := range []string{"", "\x00", "a", library("c"), strings.Repeat("c", 4000), strings.Repeat("long", 20000)} {
				if epoch < 0 || epoch > last || slot < 0 || slot > last {
					dataIs(t, epoch, slot, cipher, "", api.ErrArg)
				} else {
					dataIs(t, epoch, slot, cipher, library(four(epoch)+four(slot)+cipher), api.OK)
				}
			}
		}
	}
}

// P16.1.
func TestSaid(t *testing.T) {
	h := library("h")
	saidIs(t, api.Leaf{Lba: 258, Hash: h}, "\x00\x00\x01\x02"+h)
	saidIs(t, api.Leaf{Lba: 0, Hash: h}, "\x00\x00\x00\x00"+h)
	saidIs(t, api.Leaf{Lba: 4095, Hash: h}, "\x00\x00\x0f\xff"+h)
	saidIs(t, api.Leaf{}, "")
	noughts := strings.Repeat("\x00", 32)
	saidIs(t, api.Leaf{Hash: noughts}, "\x00\x00\x00\x00"+noughts)
	for lba := range 4096 {
		saidIs(t, api.Leaf{Lba: lba, Hash: h}, four(lba)+h)
	}
	for _, lba := range badLbas() {
		for _, s := range append(badHashes(), h, noughts) {
			saidIs(t, api.Leaf{Lba: lba, Hash: s}, "")
		}
	}
	for _, lba := range []int{0, 1, 255, 256, 4094, 4095} {
		for _, s := range badHashes() {
			saidIs(t, api.Leaf{Lba: lba, Hash: s}, "")
		}
	}
}

// P16.1, P16.2: leaves that may be.
func TestCheck(t *testing.T) {
	for _, l := range append(rows(), everyOf(4096, 0, 1), everyOf(1365, 0, 3), at(0, 1, 4094, 4095)) {
		checkIs(t, l, api.OK)
		rootIs(t, l, topOf(l), api.OK)
	}
	// of leaves that rise the hashes may be the same
	h := library("h")
	checkIs(t, []api.Leaf{{Lba: 1, Hash: h}, {Lba: 2, Hash: h}, {Lba: 4095, Hash: h}}, api.OK)
}

// faulty are rows of which the leaf at i is wrong.
func faulty(l []api.Leaf, i int) [][]api.Leaf {
	var out [][]api.Leaf
	with := func(w api.Leaf) {
		row := slices.Clone(l)
		row[i] = w
		out = append(out, row)
	}
	for _, lba := range badLbas() {
		with(api.Leaf{Lba: lba, Hash: l[i].Hash})
	}
	for _, s := range badHashes() {
		with(api.Leaf{Lba: l[i].Lba, Hash: s})
	}
	with(api.Leaf{Lba: -1})
	if i > 0 {
		with(l[i-1])
		with(api.Leaf{Lba: l[i-1].Lba, Hash: l[i].Hash})
		with(api.Leaf{Lba: l[i-1].Lba - 1, Hash: l[i].Hash})
		with(api.Leaf{Lba: 0, Hash: l[i].Hash})
	}
	if i+1 < len(l) {
		with(l[i+1])
		with(api.Leaf{Lba: l[i+1].Lba, Hash: l[i].Hash})
		with(api.Leaf{Lba: l[i+1].Lba + 1, Hash: l[i].Hash})
		with(api.Leaf{Lba: 4095, Hash: l[i].Hash})
	}
	return out
}

// P16.1, P16.2, P16.4: one leaf that may not be is enough, wherever it stands, whatever is asked besides.
func TestFaulty(t *testing.T) {
	for _, l := range [][]api.Leaf{at(7), at(3, 7), at(5, 9, 12), at(10, 20, 30, 40), everyOf(5, 6, 2), everyOf(9, 1, 7), everyOf(100, 2, 3), everyOf(4094, 1, 1)} {
		for _, i := range []int{0, 1, len(l) / 2, len(l) - 1} {
			if i >= len(l) {
				continue
			}
			good, _ := proof.Prove(l, l[i].Lba)
			for _, row := range faulty(l, i) {
				checkIs(t, row, api.ErrArg)
				rootIs(t, row, "", api.ErrArg)
				for _, lba := range []int{least, -1, 0, l[i].Lba, 4095, 4096, most} {
					proofIs(t, row, lba, api.Proof{}, api.ErrArg)
					noClash(t, "a leaf that may not be", row, lba, good)
				}
			}
		}
	}
	h := library("h")
	checkIs(t, []api.Leaf{{}}, api.ErrArg)
	checkIs(t, []api.Leaf{{Lba: 1, Hash: h}, {}}, api.ErrArg)
	checkIs(t, []api.Leaf{{Lba: 0, Hash: h}, {Lba: 0, Hash: h}}, api.ErrArg)
	checkIs(t, []api.Leaf{{Lba: 4095, Hash: h}, {Lba: 4095, Hash: h}}, api.ErrArg)
	checkIs(t, []api.Leaf{{Lba: 4095, Hash: h}, {Lba: 4096, Hash: h}}, api.ErrArg)
	checkIs(t, []api.Leaf{{Lba: -1, Hash: h}, {Lba: 0, Hash: h}}, api.ErrArg)
	checkIs(t, []api.Leaf{{Lba: 2, Hash: h}, {Lba: 1, Hash: h}, {Lba: 3, Hash: h}}, api.ErrArg)
	// more than there are places
	all := everyOf(4096, 0, 1)
	checkIs(t, append(all, all[4095]), api.ErrArg)
	checkIs(t, append(all, leaf(4096, "")), api.ErrArg)
	checkIs(t, append(all, all...), api.ErrArg)
}

// P16.2: roots by hand.
func TestRootByHand(t *testing.T) {
	n := func(left, right string) string { return library("\x01" + left + right) }
	l := at(1, 2, 3, 4, 9)
	var h []string
	for _, w := range l {
		h = append(h, library("\x00"+four(w.Lba)+w.Hash))
	}
	four := n(n(h[0], h[1]), n(h[2], h[3]))
	for count, want := range []string{library(""), h[0], n(h[0], h[1]), n(n(h[0], h[1]), h[2]), four, n(four, h[4])} {
		rootIs(t, l[:count], want, api.OK)
	}
	rootIs(t, nil, library(""), api.OK)
	if merkle.Leaf(proof.Said(l[0])) != h[0] {
		t.Error("a leaf's hash is another one than merkle's")
	}
}

// P16.2: proofs by hand: what is said of a leaf, and of none ahead of all, between two, and behind all.
func TestProveByHand(t *testing.T) {
	l := at(3, 7, 9)
	h := digest(library).texts(l)
	n := library("\x01" + h[0] + h[1])
	a, b, c := api.Path{h[1], h[2]}, api.Path{h[0], h[2]}, api.Path{n}
	for _, w := range []struct {
		count, lba int
		want       api.Proof
	}{
		{0, 0, api.Proof{}},
		{0, 4095, api.Proof{}},
		{1, 2, api.Proof{Here: l[0]}},
		{1, 3, api.Proof{Found: true, Here: l[0]}},
		{1, 4, api.Proof{At: 1, Ahead: l[0]}},
		{2, 0, api.Proof{Here: l[0], Up: api.Path{h[1]}}},
		{2, 3, api.Proof{Found: true, Here: l[0], Up: api.Path{h[1]}}},
		{2, 5, api.Proof{At: 1, Ahead: l[0], Left: api.Path{h[1]}, Here: l[1], Up: api.Path{h[0]}}},
		{2, 7, api.Proof{Found: true, At: 1, Here: l[1], Up: api.Path{h[0]}}},
		{2, 8, api.Proof{At: 2, Ahead: l[1], Left: api.Path{h[0]}}},
		{3, 0, api.Proof{Here: l[0], Up: a}},
		{3, 3, api.Proof{Found: true, Here: l[0], Up: a}},
		{3, 4, api.Proof{At: 1, Ahead: l[0], Left: a, Here: l[1], Up: b}},
		{3, 7, api.Proof{Found: true, At: 1, Here: l[1], Up: b}},
		{3, 8, api.Proof{At: 2, Ahead: l[1], Left: b, Here: l[2], Up: c}},
		{3, 9, api.Proof{Found: true, At: 2, Here: l[2], Up: c}},
		{3, 10, api.Proof{At: 3, Ahead: l[2], Left: c}},
		{3, 4095, api.Proof{At: 3, Ahead: l[2], Left: c}},
	} {
		proofIs(t, l[:w.count], w.lba, w.want, api.OK)
	}
	for _, lba := range badLbas() {
		proofIs(t, l, lba, api.Proof{}, api.ErrArg)
		proofIs(t, nil, lba, api.Proof{}, api.ErrArg)
	}
}

// hashAt says what the leaves have of a place.
func hashAt(l []api.Leaf, lba int) (string, bool) {
	for _, w := range l {
		if w.Lba == lba {
			return w.Hash, true
		}
	}
	return "", false
}

// P16.2, P16.3, P16.5: what is proved is what the chapter says, and Tells tells it.
func TestProved(t *testing.T) {
	for _, l := range rows() {
		was := slices.Clone(l)
		root := topOf(l)
		for _, lba := range askedLbas(l) {
			want, err := digest(library).prove(l, lba)
			proofIs(t, l, lba, want, err)
			if err != api.OK {
				tellsIs(t, "beyond", root, len(l), lba, want, "", false, api.ErrArg)
				continue
			}
			p, _ := proof.Prove(l, lba)
			hash, found := hashAt(l, lba)
			tellsIs(t, "proved", root, len(l), lba, p, hash, found, api.OK)
			noClash(t, "proved", l, lba, p)
		}
		if !slices.Equal(l, was) {
			t.Fatal("the leaves were changed")
		}
	}
}

// P16.5: for each place there is.
func TestProvedOfAll(t *testing.T) {
	l := everyOf(12, 0, 372)
	root, _ := proof.Root(l)
	for lba := range 4096 {
		p, e := proof.Prove(l, lba)
		hash, found := hashAt(l, lba)
		if e != api.OK || p.Found != found {
			t.Fatalf("proof of %d: %d", lba, e)
		}
		tellsIs(t, "all", root, 12, lba, p, hash, found, api.OK)
	}
}

// P16.2, P16.5: many leaves, up to one of each place.
func TestMany(t *testing.T) {
	for _, l := range [][]api.Leaf{everyOf(1000, 5, 4), everyOf(4095, 0, 1), everyOf(4095, 1, 1), everyOf(4096, 0, 1)} {
		root := topOf(l)
		rootIs(t, l, root, api.OK)
		for _, lba := range []int{0, 4, 5, 2048, 4094, 4095} {
			want, _ := digest(library).prove(l, lba)
			proofIs(t, l, lba, want, api.OK)
			hash, found := hashAt(l, lba)
			tellsIs(t, "many", root, len(l), lba, want, hash, found, api.OK)
			if want.Found != found {
				t.Fatalf("many: %d of %d", lba, len(l))
			}
		}
		proofIs(t, l, 4096, api.Proof{}, api.ErrArg)
		p, _ := digest(library).prove(l, 2048)
		for _, count := range []int{len(l) - 1, len(l) + 1} {
			tellsRight(t, "many, of another count", root, count, 2048, p)
		}
	}
}

// P16.3: count and lba at their bounds and beyond, with proofs that are right and wrong: ErrArg is told first.
func TestTellsNumbers(t *testing.T) {
	numbers := []int{least, least + 1, -4096, -1, 0, 1, 2, 3, 4, 2048, 4094, 4095, 4096, 4097, 1 << 20, 1 << 32, most - 1, most}
	all := everyOf(4096, 0, 1)
	full, _ := digest(library).prove(all, 4095)
	l := at(3, 7)
	proofs := []struct {
		root string
		p    api.Proof
	}{{library(""), api.Proof{}}, {topOf(all), full}, {"", api.Proof{Found: true}}, {topOf(l), api.Proof{At: -1}}}
	for _, lba := range []int{0, 3, 5, 4095} {
		p, _ := digest(library).prove(l, lba)
		proofs = append(proofs, struct {
			root string
			p    api.Proof
		}{topOf(l), p})
	}
	for _, w := range proofs {
		for _, count := range numbers {
			for _, lba := range numbers {
				e := tellsRight(t, "numbers", w.root, count, lba, w.p)
				if wrong := count < 0 || count > 4096 || lba < 0 || lba > 4095; wrong != (e == api.ErrArg) {
					t.Fatalf("count %d, lba %d: %d", count, lba, e)
				}
			}
		}
	}
	tellsIs(t, "all", topOf(all), 4096, 4095, full, all[4095].Hash, true, api.OK)
	tellsIs(t, "none", library(""), 0, 4095, api.Proof{}, "", false, api.OK)
}

// P16.3: of one leaf more than may be, whose tree and proof are as they should be, nothing is told.
func TestOneTooMany(t *testing.T) {
	l := append(everyOf(4096, 0, 1), leaf(4096, ""))
	h := digest(library).texts(l)
	p := api.Proof{Found: true, At: 9, Here: l[9], Up: digest(library).path(h, 9)}
	tellsIs(t, "4097 leaves", digest(library).root(h), 4097, 9, p, "", false, api.ErrArg)
	h = h[:4096]
	p.Up = digest(library).path(h, 9)
	tellsIs(t, "4096 leaves", digest(library).root(h), 4096, 9, p, l[9].Hash, true, api.OK)
}

// P16.3: At at its bounds and beyond, and at all others.
func TestTellsAt(t *testing.T) {
	for _, l := range rows() {
		root, n := topOf(l), len(l)
		ats := []int{least, least + 1, -1 << 32, 1 << 32, 1 << 20, most - 1, most}
		for i := -2; i < n+3; i++ {
			ats = append(ats, i)
		}
		for _, lba := range goodLbas(l) {
			p, _ := digest(library).prove(l, lba)
			for _, at := range ats {
				q := clone(p)
				q.At = at
				if e := tellsRight(t, "at", root, n, lba, q); (e == api.OK) != (at == p.At) {
					t.Fatalf("at %d in place of %d: %d", at, p.At, e)
				}
				noClash(t, "at", l, lba, q)
				// bare ones, too
				tellsRight(t, "bare at", root, n, lba, api.Proof{At: at})
				tellsRight(t, "bare at, found", root, n, lba, api.Proof{At: at, Found: true})
			}
		}
	}
}

// treeOf is a tree of leaves that needn't be: their root, and their paths.
func treeOf(l ...api.Leaf) (string, []api.Path) {
	h := digest(library).texts(l)
	var paths []api.Path
	for i := range h {
		paths = append(paths, digest(library).path(h, i))
	}
	return digest(library).root(h), paths
}

// P16.3: a leaf that may not be by itself proves nothing, though its path leads to the root.
func TestTellsBadLeaves(t *testing.T) {
	good, h := leaf(9, ""), library("h")
	for _, s := range badHashes() {
		bad := api.Leaf{Lba: 7, Hash: s}
		root, paths := treeOf(bad)
		refused(t, "found", root, 1, 7, api.Proof{Found: true, Here: bad, Up: paths[0]})
		refused(t, "here", root, 1, 3, api.Proof{Here: bad, Up: paths[0]})
		refused(t, "ahead", root, 1, 8, api.Proof{At: 1, Ahead: bad, Left: paths[0]})
		root, paths = treeOf(bad, good)
		refused(t, "found of two", root, 2, 7, api.Proof{Found: true, Here: bad, Up: paths[0]})
		refused(t, "ahead of two", root, 2, 8, api.Proof{At: 1, Ahead: bad, Left: paths[0], Here: good, Up: paths[1]})
		tellsIs(t, "the good one of two", root, 2, 9, api.Proof{Found: true, At: 1, Here: good, Up: paths[1]}, good.Hash, true, api.OK)
		tellsIs(t, "behind the good one", root, 2, 10, api.Proof{At: 2, Ahead: good, Left: paths[1]}, "", false, api.OK)
	}
	for _, lba := range badLbas() {
		bad := api.Leaf{Lba: lba, Hash: h}
		root, paths := treeOf(bad)
		refused(t, "here", root, 1, 9, api.Proof{Here: bad, Up: paths[0]})
		refused(t, "ahead", root, 1, 9, api.Proof{At: 1, Ahead: bad, Left: paths[0]})
		tellsIs(t, "found", root, 1, lba, api.Proof{Found: true, Here: bad, Up: paths[0]}, "", false, api.ErrArg)
		root, paths = treeOf(good, bad)
		refused(t, "here of two", root, 2, 11, api.Proof{At: 1, Ahead: good, Left: paths[0], Here: bad, Up: paths[1]})
		root, paths = treeOf(bad, good)
		refused(t, "ahead of two", root, 2, 8, api.Proof{At: 1, Ahead: bad, Left: paths[0], Here: good, Up: paths[1]})
	}
}

// P16.3: what isn't said of such a leaf is the empty text, whose hash is a root, too, and proves nothing.
func TestTellsEmptyLeaf(t *testing.T) {
	empty := merkle.Leaf("")
	for _, bad := range []api.Leaf{{}, {Lba: 7}, {Lba: 7, Hash: "short"}, {Lba: 4096, Hash: library("h")}, {Lba: -1, Hash: library("h")}} {
		refused(t, "found", empty, 1, max(bad.Lba, 0)%4096, api.Proof{Found: true, Here: bad})
		refused(t, "here", empty, 1, 0, api.Proof{Here: bad})
		refused(t, "here", empty, 1, 5, api.Proof{Here: bad})
		refused(t, "ahead", empty, 1, 9, api.Proof{At: 1, Ahead: bad})
		good := leaf(9, "")
		left, right := empty, merkle.Leaf(proof.Said(good))
		root := merkle.Node(left, right)
		refused(t, "ahead of two", root, 2, 8, api.Proof{At: 1, Ahead: bad, Left: api.Path{right}, Here: good, Up: api.Path{left}})
		root = merkle.Node(right, left)
		refused(t, "here of two", root, 2, 10, api.Proof{At: 1, Ahead: good, Left: api.Path{left}, Here: bad, Up: api.Path{right}})
	}
}

// P16.3: that the leaves of the tree may be as a row is not asked, only that those that are said may be by themselves, and stand aside.
func TestTellsOtherTrees(t *testing.T) {
	a, b := leaf(3, "a"), leaf(3, "b")
	root, paths := treeOf(a, b)
	tellsIs(t, "the first one of a place", root, 2, 3, api.Proof{Found: true, Here: a, Up: paths[0]}, a.Hash, true, api.OK)
	tellsIs(t, "the other one of a place", root, 2, 3, api.Proof{Found: true, At: 1, Here: b, Up: paths[1]}, b.Hash, true, api.OK)
	tellsIs(t, "behind both", root, 2, 4, api.Proof{At: 2, Ahead: b, Left: paths[1]}, "", false, api.OK)
	refused(t, "the same place ahead and here", root, 2, 3, api.Proof{At: 1, Ahead: a, Left: paths[0], Here: b, Up: paths[1]})
	// leaves that fall
	a, b = leaf(7, ""), leaf(3, "")
	root, paths = treeOf(a, b)
	for _, lba := range []int{0, 2, 3, 4, 5, 7, 8, 4095} {
		refused(t, "leaves that fall", root, 2, lba, api.Proof{At: 1, Ahead: a, Left: paths[0], Here: b, Up: paths[1]})
		tellsRight(t, "ahead of them", root, 2, lba, api.Proof{Here: a, Up: paths[0]})
		tellsRight(t, "behind them", root, 2, lba, api.Proof{At: 2, Ahead: b, Left: paths[1]})
	}
	tellsIs(t, "of the first one", root, 2, 7, api.Proof{Found: true, Here: a, Up: paths[0]}, a.Hash, true, api.OK)
	tellsIs(t, "a place that is there, ahead", root, 2, 3, api.Proof{Here: a, Up: paths[0]}, "", false, api.OK)
}

// P16.3: of whichever place a proof is, it tells nothing of one that it is not of.
func TestTellsOtherPlaces(t *testing.T) {
	for _, l := range rows() {
		root := topOf(l)
		for _, lba := range goodLbas(l) {
			p, _ := digest(library).prove(l, lba)
			for _, other := range goodLbas(l) {
				q, _ := digest(library).prove(l, other)
				e := tellsRight(t, "another place", root, len(l), other, p)
				if (e == api.OK) != same(p, q) {
					t.Fatalf("the proof of %d, asked for %d: %d", lba, other, e)
				}
				noClash(t, "another place", l, other, p)
			}
		}
	}
	// just those beside the place, by hand
	l := at(3, 7)
	root := topOf(l)
	p, _ := digest(library).prove(l, 5)
	for lba, want := range map[int]api.Errno{2: api.ErrProof, 3: api.ErrProof, 4: api.OK, 5: api.OK, 6: api.OK, 7: api.ErrProof, 8: api.ErrProof} {
		tellsIs(t, "beside", root, 2, lba, p, "", false, want)
	}
}

// fault turns something of what Tells is asked.
type fault struct {
	what string
	turn func(l []api.Leaf, root *string, count, lba *int, p *api.Proof)
}

// ofProof is a fault of the proof alone.
func ofProof(what string, turn func(p *api.Proof)) fault {
	return fault{what, func(l []api.Leaf, root *string, count, lba *int, p *api.Proof) { turn(p) }}
}

// atLeaf is a fault of Here, and the same of Ahead.
func atLeaf(what string, turn func(l *api.Leaf)) []fault {
	return []fault{
		ofProof("Here: "+what, func(p *api.Proof) { turn(&p.Here) }),
		ofProof("Ahead: "+what, func(p *api.Proof) { turn(&p.Ahead) }),
	}
}

// atPath is a fault of Up, and the same of Left.
func atPath(what string, turn func(p api.Path) api.Path) []fault {
	return []fault{
		ofProof("Up: "+what, func(p *api.Proof) { p.Up = turn(p.Up) }),
		ofProof("Left: "+what, func(p *api.Proof) { p.Left = turn(p.Left) }),
	}
}

// turned is the text with one bit turned.
func turned(s string, i int, bit byte) string {
	b := []byte(s)
	b[i] ^= bit
	return string(b)
}

func leafFaults() []fault {
	var l []fault
	add := func(what string, turn func(l *api.Leaf)) { l = append(l, atLeaf(what, turn)...) }
	add("an Lba more", func(l *api.Leaf) { l.Lba++ })
	add("an Lba less", func(l *api.Leaf) { l.Lba-- })
	add("the Lba 0", func(l *api.Leaf) { l.Lba = 0 })
	add("the Lba 4095", func(l *api.Leaf) { l.Lba = 4095 })
	add("the Lba 4096", func(l *api.Leaf) { l.Lba = 4096 })
	add("the Lba -1", func(l *api.Leaf) { l.Lba = -1 })
	add("the least Lba", func(l *api.Leaf) { l.Lba = least })
	add("the greatest Lba", func(l *api.Leaf) { l.Lba = most })
	add("an Lba beyond four bytes", func(l *api.Leaf) { l.Lba += 1 << 32 })
	add("no hash", func(l *api.Leaf) { l.Hash = "" })
	add("another hash", func(l *api.Leaf) { l.Hash = library("another") })
	add("a hash of 31 bytes", func(l *api.Leaf) { l.Hash = l.Hash[:min(31, len(l.Hash))] })
	add("a hash of 33 bytes", func(l *api.Leaf) { l.Hash += "\x00" })
	add("a turned hash", func(l *api.Leaf) {
		if len(l.Hash) > 0 {
			l.Hash = turned(l.Hash, len(l.Hash)-1, 1)
		}
	})
	add("nothing", func(l *api.Leaf) { *l = api.Leaf{} })
	return l
}

func pathFaults() []fault {
	var l []fault
	add := func(what string, turn func(p api.Path) api.Path) { l = append(l, atPath(what, turn)...) }
	add("none", func(p api.Path) api.Path { return nil })
	add("one hash more", func(p api.Path) api.Path { return append(slices.Clone(p), library("more")) })
	add("one hash more, ahead", func(p api.Path) api.Path { return append(api.Path{library("more")}, p...) })
	add("an empty text more", func(p api.Path) api.Path { return append(slices.Clone(p), "") })
	add("one hash fewer", func(p api.Path) api.Path { return slices.Clone(p[:max(len(p)-1, 0)]) })
	add("the first hash fewer", func(p api.Path) api.Path { return slices.Clone(p[min(len(p), 1):]) })
	add("turned about", func(p api.Path) api.Path {
		q := slices.Clone(p)
		slices.Reverse(q)
		return q
	})
	add("another hash", func(p api.Path) api.Path {
		q := slices.Clone(p)
		if len(q) > 0 {
			q[len(q)-1] = library("another")
		}
		return q
	})
	add("a bit turned", func(p api.Path) api.Path {
		q := slices.Clone(p)
		if len(q) > 0 {
			q[0] = turned(q[0], 0, 128)
		}
		return q
	})
	return l
}

func proofFaults() []fault {
	return []fault{
		ofProof("Found turned", func(p *api.Proof) { p.Found = !p.Found }),
		ofProof("At one more", func(p *api.Proof) { p.At++ }),
		ofProof("At one less", func(p *api.Proof) { p.At-- }),
		ofProof("the least At", func(p *api.Proof) { p.At = least }),
		ofProof("the greatest At", func(p *api.Proof) { p.At = most }),
		ofProof("Here and Ahead in each other's place", func(p *api.Proof) { p.Here, p.Ahead = p.Ahead, p.Here }),
		ofProof("Up and Left in each other's place", func(p *api.Proof) { p.Up, p.Left = p.Left, p.Up }),
		ofProof("both in each other's place", func(p *api.Proof) { p.Here, p.Ahead, p.Up, p.Left = p.Ahead, p.Here, p.Left, p.Up }),
		ofProof("Here as Ahead, too", func(p *api.Proof) { p.Ahead, p.Left = p.Here, p.Up }),
		ofProof("Ahead as Here, too", func(p *api.Proof) { p.Here, p.Up = p.Ahead, p.Left }),
		ofProof("Here's hash is Ahead's", func(p *api.Proof) { p.Here.Hash = p.Ahead.Hash }),
		ofProof("Ahead's hash is Here's", func(p *api.Proof) { p.Ahead.Hash = p.Here.Hash }),
		ofProof("Here is not said", func(p *api.Proof) { p.Here, p.Up = api.Leaf{}, nil }),
		ofProof("Ahead is not said", func(p *api.Proof) { p.Ahead, p.Left = api.Leaf{}, nil }),
		ofProof("empty paths", func(p *api.Proof) { p.Up, p.Left = append(api.Path{}, p.Up...), append(api.Path{}, p.Left...) }),
		{"another one's proof", func(l []api.Leaf, root *string, count, lba *int, p *api.Proof) {
			*p, _ = digest(library).prove(l, (*lba+511)&4095)
		}},
		{"another one's path", func(l []api.Leaf, root *string, count, lba *int, p *api.Proof) {
			q, _ := digest(library).prove(l, (*lba+511)&4095)
			p.Up, p.Left = q.Up, q.Left
		}},
		{"the last one's proof", func(l []api.Leaf, root *string, count, lba *int, p *api.Proof) {
			*p, _ = digest(library).prove(l, 4095)
		}},
	}
}

func otherFaults() []fault {
	ofRoot := func(what string, turn func(s string) string) fault {
		return fault{what, func(l []api.Leaf, root *string, count, lba *int, p *api.Proof) { *root = turn(*root) }}
	}
	ofCount := func(what string, turn func(n int) int) fault {
		return fault{what, func(l []api.Leaf, root *string, count, lba *int, p *api.Proof) { *count = turn(*count) }}
	}
	ofLba := func(what string, turn func(n int) int) fault {
		return fault{what, func(l []api.Leaf, root *string, count, lba *int, p *api.Proof) { *lba = turn(*lba) }}
	}
	return []fault{
		{"nothing", func(l []api.Leaf, root *string, count, lba *int, p *api.Proof) {}},
		ofRoot("the root of none", func(s string) string { return library("") }),
		ofRoot("no root", func(s string) string { return "" }),
		ofRoot("a root turned", func(s string) string { return turned(s, 31, 1) }),
		ofRoot("a root and more", func(s string) string { return s + "\x00" }),
		ofRoot("a root of noughts", func(s string) string { return strings.Repeat("\x00", 32) }),
		ofCount("one leaf more", func(n int) int { return n + 1 }),
		ofCount("one leaf fewer", func(n int) int { return n - 1 }),
		ofCount("no leaf", func(n int) int { return 0 }),
		ofCount("-1 leaves", func(n int) int { return -1 }),
		ofCount("4097 leaves", func(n int) int { return 4097 }),
		ofLba("a place more", func(n int) int { return n + 1 }),
		ofLba("a place less", func(n int) int { return n - 1 }),
		ofLba("the place 4096", func(n int) int { return 4096 }),
	}
}

// P16.3: each thing that may be wrong, alone and with each other one.
func TestTellsFaults(t *testing.T) {
	faults := slices.Concat(otherFaults(), proofFaults(), leafFaults(), pathFaults())
	told := map[api.Errno]int{}
	for _, l := range [][]api.Leaf{nil, at(0), at(7), at(4095), at(3, 7), at(5, 9, 12), at(0, 2, 4, 4095), everyOf(5, 2, 3), everyOf(8, 10, 10)} {
		for _, asked := range goodLbas(l) {
			for i, f := range faults {
				for _, g := range faults[:i+1] {
					root, count, lba := topOf(l), len(l), asked
					p, _ := digest(library).prove(l, lba)
					f.turn(l, &root, &count, &lba, &p)
					g.turn(l, &root, &count, &lba, &p)
					told[tellsRight(t, f.what+", "+g.what, root, count, lba, p)]++
				}
			}
		}
	}
	for _, e := range []api.Errno{api.OK, api.ErrArg, api.ErrProof} {
		if told[e] < 5000 {
			t.Errorf("only %d times %d is told", told[e], e)
		}
	}
}

// P16.3: the same by hand: each of the conditions alone, of a leaf.
func TestTellsFound(t *testing.T) {
	l := at(3, 7, 9)
	root, h := topOf(l), digest(library).texts(l)
	up := api.Path{h[0], h[2]}
	good := api.Proof{Found: true, At: 1, Here: l[1], Up: up}
	tellsIs(t, "as it should be", root, 3, 7, good, l[1].Hash, true, api.OK)
	empty := good
	empty.Left = api.Path{}
	tellsIs(t, "an empty path in place of none", root, 3, 7, empty, l[1].Hash, true, api.OK)
	with := func(what string, turn func(p *api.Proof)) {
		t.Helper()
		p := clone(good)
		turn(&p)
		refused(t, what, root, 3, 7, p)
	}
	with("At -1", func(p *api.Proof) { p.At = -1 })
	with("At 0", func(p *api.Proof) { p.At = 0 })
	with("At 2", func(p *api.Proof) { p.At = 2 })
	with("At count", func(p *api.Proof) { p.At = 3 })
	with("At count + 1", func(p *api.Proof) { p.At = 4 })
	with("no hash", func(p *api.Proof) { p.Here.Hash = "" })
	with("another hash", func(p *api.Proof) { p.Here.Hash = l[0].Hash })
	with("another Lba", func(p *api.Proof) { p.Here.Lba = 8 })
	with("another leaf", func(p *api.Proof) { p.Here = l[0] })
	with("one hash more", func(p *api.Proof) { p.Up = append(p.Up, h[0]) })
	with("one hash fewer", func(p *api.Proof) { p.Up = p.Up[:1] })
	with("no path", func(p *api.Proof) { p.Up = nil })
	with("another path", func(p *api.Proof) { p.Up = api.Path{h[1], h[2]} })
	with("Ahead", func(p *api.Proof) { p.Ahead = l[0] })
	with("Ahead and Left", func(p *api.Proof) { p.Ahead, p.Left = l[0], api.Path{h[1], h[2]} })
	with("an Lba ahead", func(p *api.Proof) { p.Ahead.Lba = 1 })
	with("an Lba ahead that may not be", func(p *api.Proof) { p.Ahead.Lba = -1 })
	with("a hash ahead", func(p *api.Proof) { p.Ahead.Hash = l[0].Hash })
	with("some text ahead", func(p *api.Proof) { p.Ahead.Hash = "\x00" })
	with("a path ahead", func(p *api.Proof) { p.Left = api.Path{h[1], h[2]} })
	with("an empty text ahead", func(p *api.Proof) { p.Left = api.Path{""} })
	with("Found turned", func(p *api.Proof) { p.Found = false })
	refused(t, "another root", h[0], 3, 7, good)
	refused(t, "no root", "", 3, 7, good)
	refused(t, "one leaf fewer", root, 2, 7, good)
	refused(t, "five leaves", root, 5, 7, good)
	refused(t, "no leaves", root, 0, 7, good)
	refused(t, "no leaves, the root of none", library(""), 0, 7, good)
	refused(t, "a place more", root, 3, 8, good)
	refused(t, "a place less", root, 3, 6, good)
	// Here is right but for its place, which has no leaf
	refused(t, "a leaf for another place", root, 3, 9, good)
}

// P16.3: by hand, of none: ahead of all, between two, and behind all.
func TestTellsNone(t *testing.T) {
	l := at(3, 7, 9)
	root, h := topOf(l), digest(library).texts(l)
	paths := []api.Path{{h[1], h[2]}, {h[0], h[2]}, {library("\x01" + h[0] + h[1])}}
	first := api.Proof{Here: l[0], Up: paths[0]}
	amid := api.Proof{At: 1, Ahead: l[0], Left: paths[0], Here: l[1], Up: paths[1]}
	end := api.Proof{At: 3, Ahead: l[2], Left: paths[2]}
	for lba, p := range map[int]api.Proof{0: first, 2: first, 4: amid, 6: amid, 10: end, 4095: end} {
		tellsIs(t, "as it should be", root, 3, lba, p, "", false, api.OK)
	}
	refused(t, "the first one's place", root, 3, 3, first)
	refused(t, "Ahead's place", root, 3, 3, amid)
	refused(t, "Here's place", root, 3, 7, amid)
	refused(t, "the last one's place", root, 3, 9, end)
	with := func(what string, lba int, p api.Proof, turn func(p *api.Proof)) {
		t.Helper()
		p = clone(p)
		turn(&p)
		refused(t, what, root, 3, lba, p)
	}
	with("Ahead, ahead of all", 2, first, func(p *api.Proof) { p.Ahead = l[0] })
	with("an Lba, ahead of all", 2, first, func(p *api.Proof) { p.Ahead.Lba = 1 })
	with("a hash, ahead of all", 2, first, func(p *api.Proof) { p.Ahead.Hash = "\x00" })
	with("a path, ahead of all", 2, first, func(p *api.Proof) { p.Left = paths[0] })
	with("an empty text, ahead of all", 2, first, func(p *api.Proof) { p.Left = api.Path{""} })
	with("Here, behind all", 10, end, func(p *api.Proof) { p.Here = l[2] })
	with("an Lba, behind all", 10, end, func(p *api.Proof) { p.Here.Lba = 11 })
	with("a hash, behind all", 10, end, func(p *api.Proof) { p.Here.Hash = "\x00" })
	with("a path, behind all", 10, end, func(p *api.Proof) { p.Up = paths[2] })
	with("an empty text, behind all", 10, end, func(p *api.Proof) { p.Up = api.Path{""} })
	with("no Here", 5, amid, func(p *api.Proof) { p.Here, p.Up = api.Leaf{}, nil })
	with("no Ahead", 5, amid, func(p *api.Proof) { p.Ahead, p.Left = api.Leaf{}, nil })
	with("no Here at the front", 2, first, func(p *api.Proof) { p.Here, p.Up = api.Leaf{}, nil })
	with("no Ahead at the end", 10, end, func(p *api.Proof) { p.Ahead, p.Left = api.Leaf{}, nil })
	with("each other's place", 5, amid, func(p *api.Proof) { p.Here, p.Ahead, p.Up, p.Left = p.Ahead, p.Here, p.Left, p.Up })
	with("each other's path", 5, amid, func(p *api.Proof) { p.Up, p.Left = p.Left, p.Up })
	with("each other's leaf", 5, amid, func(p *api.Proof) { p.Here, p.Ahead = p.Ahead, p.Here })
	with("Found turned", 7, amid, func(p *api.Proof) { p.Found = true })
	with("Found turned at the front", 3, first, func(p *api.Proof) { p.Found, p.Here.Lba = true, 4 })
	with("Found turned at the end", 9, end, func(p *api.Proof) { p.Found = true })
	// leaves that don't stand beside each other, and the same one on both sides
	refused(t, "one between", root, 3, 5, api.Proof{At: 1, Ahead: l[0], Left: paths[0], Here: l[2], Up: paths[2]})
	refused(t, "one between", root, 3, 5, api.Proof{At: 2, Ahead: l[0], Left: paths[0], Here: l[2], Up: paths[2]})
	refused(t, "one twice", root, 3, 5, api.Proof{At: 1, Ahead: l[0], Left: paths[0], Here: l[0], Up: paths[0]})
	refused(t, "the first one, behind", root, 3, 5, api.Proof{At: 3, Ahead: l[0], Left: paths[0]})
	refused(t, "the last one, ahead", root, 3, 5, api.Proof{Here: l[2], Up: paths[2]})
	// both stand aside, and one of them is the leaves' no more
	with("Here's other hash", 5, amid, func(p *api.Proof) { p.Here.Hash = library("x") })
	with("Ahead's other hash", 5, amid, func(p *api.Proof) { p.Ahead.Hash = library("x") })
	with("Here's other Lba", 5, amid, func(p *api.Proof) { p.Here.Lba = 6 })
	with("Ahead's other Lba", 5, amid, func(p *api.Proof) { p.Ahead.Lba = 4 })
}

// P16.3: of no leaves the root of none alone tells that there is none.
func TestTellsOfNoLeaves(t *testing.T) {
	none := library("")
	for _, lba := range []int{0, 1, 4094, 4095} {
		tellsIs(t, "none", none, 0, lba, api.Proof{}, "", false, api.OK)
		tellsIs(t, "none", none, 0, lba, api.Proof{Up: api.Path{}, Left: api.Path{}}, "", false, api.OK)
		for _, root := range []string{"", none[:31], none + "\x00", strings.Repeat("\x00", 32), merkle.Leaf(""), library("x"), topOf(at(7))} {
			refused(t, "another root", root, 0, lba, api.Proof{})
		}
		for _, p := range []api.Proof{
			{At: 1}, {At: -1}, {At: least}, {At: most}, {Found: true}, {Found: true, At: -1}, {Here: leaf(7, "")}, {Here: api.Leaf{Lba: 1}}, {Here: api.Leaf{Hash: "\x00"}},
			{Ahead: leaf(7, "")}, {Ahead: api.Leaf{Lba: 1}}, {Ahead: api.Leaf{Hash: "\x00"}}, {Up: api.Path{""}}, {Left: api.Path{""}}, {Up: api.Path{none}}, {Left: api.Path{none}},
			{At: 1, Ahead: leaf(7, "")}, {Found: true, Here: leaf(lba, "")},
		} {
			refused(t, "not empty", none, 0, lba, p)
			noClash(t, "not empty", nil, lba, p)
		}
		noClash(t, "none", nil, lba, api.Proof{})
		noClash(t, "none", []api.Leaf{}, lba, api.Proof{})
	}
	// a leaf whose hash is the root of none can't be, but one leaf is not none
	refused(t, "the root of none, of one leaf", none, 1, 5, api.Proof{})
	refused(t, "the root of none, of one leaf", none, 1, 5, api.Proof{Here: leaf(7, "")})
}

// P16.4, P16.6: as no two texts with one sum are known, whatever Tells accepts is what the leaves have; and Clash tells none.
func TestSound(t *testing.T) {
	r := rand.New(rand.NewSource(16))
	accepted := 0
	for range 20000 {
		var l []api.Leaf
		for lba := range 12 {
			if r.Intn(2) == 0 {
				l = append(l, api.Leaf{Lba: lba, Hash: hash(byte(r.Intn(3)))})
			}
		}
		lba := r.Intn(13)
		p := chanceProof(r, library, l, lba)
		root := topOf(l)
		if tellsRight(t, "chance", root, len(l), lba, p) == api.OK {
			accepted++
			hash, found := hashAt(l, lba)
			tellsIs(t, "chance", root, len(l), lba, p, hash, found, api.OK)
		}
		noClash(t, "chance", l, lba, p)
	}
	if accepted < 1000 {
		t.Errorf("only %d were accepted", accepted)
	}
}

// chanceProof is the place's own proof, or one that differs here and there.
func chanceProof(r *rand.Rand, sum digest, l []api.Leaf, lba int) api.Proof {
	p, _ := sum.prove(l, lba)
	for range r.Intn(4) {
		switch r.Intn(9) {
		case 0:
			p.Found = !p.Found
		case 1:
			p.At += r.Intn(3) - 1
		case 2:
			p.Here = api.Leaf{Lba: r.Intn(13), Hash: hash(byte(r.Intn(3)))}
		case 3:
			p.Ahead = api.Leaf{Lba: r.Intn(13), Hash: hash(byte(r.Intn(3)))}
		case 4:
			p, _ = sum.prove(l, r.Intn(13))
		case 5:
			p.Here.Hash = hash(byte(r.Intn(3)))
		case 6:
			p.Ahead, p.Left = api.Leaf{}, nil
		case 7:
			p.Here, p.Up = p.Ahead, p.Left
		case 8:
			if len(p.Up) > 0 {
				p.Up[r.Intn(len(p.Up))] = hash(byte(r.Intn(3)))
			}
		}
	}
	return p
}

// What is handed in stays as it was, and what stands behind it, too; what is answered is the caller's own.
func TestNewMemory(t *testing.T) {
	for _, l := range [][]api.Leaf{at(3), at(3, 7), at(3, 7, 9), everyOf(8, 1, 4)} {
		room := append(slices.Clone(l), leaf(4000, "behind"), leaf(1, "behind"))
		was := slices.Clone(room)
		l := room[:len(l)]
		for _, lba := range goodLbas(l) {
			p, _ := proof.Prove(l, lba)
			want := clone(p)
			again, _ := proof.Prove(l, lba)
			p.Up, p.Left = append(p.Up, "more"), append(p.Left, "more")
			if !slices.Equal(p.Up[:len(want.Up)], want.Up) || !slices.Equal(p.Left[:len(want.Left)], want.Left) {
				t.Fatal("two paths of one proof share their room")
			}
			for _, path := range []api.Path{p.Up, p.Left} {
				for i := range path {
					path[i] = "x"
				}
			}
			if !same(again, want) {
				t.Fatal("two proofs share their room")
			}
			roomUp := append(slices.Clone(again.Up), "behind", "behind")
			roomLeft := append(slices.Clone(again.Left), "behind", "behind")
			again.Up, again.Left = roomUp[:len(again.Up)], roomLeft[:len(again.Left)]
			proof.Tells(topOf(l), len(l), lba, again)
			proof.Clash(l, lba, again)
			other := again
			other.Found, other.Here = true, leaf(lba, "other")
			proof.Clash(l, lba, other)
			if !same(again, want) || roomUp[len(want.Up)] != "behind" || roomLeft[len(want.Left)] != "behind" {
				t.Fatal("the proof, or what stands behind its paths, was changed")
			}
		}
		proof.Check(l)
		proof.Root(l)
		if !slices.Equal(room, was) {
			t.Fatal("the leaves, or what stands behind them, were changed")
		}
	}
}

// A call leaves nothing behind that a later one could tell.
func TestNothingKept(t *testing.T) {
	l := at(3, 7, 9)
	bad := []api.Leaf{l[1], l[0]}
	root := topOf(l)
	for range 3 {
		dataIs(t, 1, 2, "a", library(four(1)+four(2)+"a"), api.OK)
		dataIs(t, -1, 2, "a", "", api.ErrArg)
		checkIs(t, bad, api.ErrArg)
		checkIs(t, l, api.OK)
		rootIs(t, bad, "", api.ErrArg)
		rootIs(t, l, root, api.OK)
		proofIs(t, bad, 3, api.Proof{}, api.ErrArg)
		p, _ := proof.Prove(l, 5)
		refused(t, "kept", root, 3, 8, p)
		tellsIs(t, "kept", root, 3, 5, p, "", false, api.OK)
		tellsIs(t, "kept", root, 3, 4096, p, "", false, api.ErrArg)
		noClash(t, "kept", l, 5, p)
	}
}

// What is as long as none ever should be ends, too.
func TestLongPaths(t *testing.T) {
	l := at(3, 7)
	p, _ := proof.Prove(l, 5)
	many := slices.Repeat(p.Up, 1<<20)
	for _, q := range []api.Proof{{At: 1, Ahead: p.Ahead, Left: p.Left, Here: p.Here, Up: many}, {At: 1, Ahead: p.Ahead, Left: many, Here: p.Here, Up: p.Up}, {Found: true, At: 1, Here: p.Here, Up: many}} {
		refused(t, "long", topOf(l), 2, 5, q)
		noClash(t, "long", l, 5, q)
	}
	long := strings.Repeat("x", 1<<24)
	refused(t, "a long hash", topOf(l), 2, 3, api.Proof{Found: true, Here: api.Leaf{Lba: 3, Hash: long}, Up: p.Left})
	refused(t, "a long root", long, 2, 5, p)
}

// P1: whatever is handed in, the answers are those of the chapter's words.
func FuzzCalls(f *testing.F) {
	h := library("h")
	f.Add(3, 5, 1, false, 7, h, 3, h, "357", 9)
	f.Add(0, 0, 0, false, 0, "", 0, "", "", 0)
	f.Add(-1, 4096, -1, true, -1, h[:31], 4096, h+h, "az", -1)
	f.Add(most, least, most, true, most, "", least, "", "zyx", last+1)
	f.Add(8, 7, 2, true, 7, h, 0, "", "abcdefgh", last)
	f.Fuzz(func(t *testing.T, count, lba, seat int, found bool, here int, hash string, ahead int, aheadHash, turns string, number int) {
		var l []api.Leaf
		for i, c := range []byte(turns[:min(len(turns), 40)]) {
			l = append(l, api.Leaf{Lba: int(c)*i + number&3, Hash: library(turns[i:])})
		}
		was := slices.Clone(l)
		sum := digest(library)
		checked := api.OK
		if !mayAllBe(l) {
			checked = api.ErrArg
		}
		checkIs(t, l, checked)
		root, e := sum.rootOf(l)
		rootIs(t, l, root, e)
		own, e := sum.prove(l, lba)
		proofIs(t, l, lba, own, e)
		noClash(t, "fuzz", l, lba, own)
		p := own
		p.At, p.Found, p.Here.Lba, p.Ahead.Lba = seat, found, here, ahead
		tellsRight(t, "fuzz", root, count, lba, p)
		tellsRight(t, "fuzz", root, len(l), lba, p)
		noClash(t, "fuzz", l, lba, p)
		p.Here.Hash, p.Ahead.Hash = hash, aheadHash
		tellsRight(t, "fuzz", root, count, lba, p)
		noClash(t, "fuzz", l, lba, p)
		tellsRight(t, "fuzz", hash, count, lba, own)
		for _, w := range []api.Leaf{p.Here, p.Ahead} {
			said := ""
			if mayBe(w) {
				said = text(w)[1:]
			}
			saidIs(t, w, said)
		}
		if min(number, seat) < 0 || max(number, seat) > last {
			dataIs(t, number, seat, hash, "", api.ErrArg)
		} else {
			dataIs(t, number, seat, hash, library(four(number)+four(seat)+hash), api.OK)
		}
		if !slices.Equal(l, was) {
			t.Fatal("the leaves were changed")
		}
	})
}
