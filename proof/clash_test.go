package proof_test

import (
	"math/rand"
	"reflect"
	"slices"
	"testing"

	"keepsake/api"
	"keepsake/merkle"
	"keepsake/proof"
)

// Two unlike texts with one sum can't be had of the library's digest, so that what Clash finds is asked of trees with digests in which many texts meet.

// leaves has one sum for all leaves; no others are known to meet.
func leaves(s string) string {
	if s != "" && s[0] == 0 {
		return hash('0')
	}
	return library(s)
}

// nodes has one sum for all nodes.
func nodes(s string) string {
	if s != "" && s[0] == 1 {
		return hash('1')
	}
	return library(s)
}

// clashIs holds Clash of trees with that digest against the chapter's words, and tells how it ends.
func clashIs(t *testing.T, sum digest, l []api.Leaf, lba int, p api.Proof) string {
	t.Helper()
	a, b, how := sum.clash(l, lba, p)
	isOne := how == hereLeaf || how == hereNode || how == aheadLeaf || how == aheadNode
	x, y, found := sum.trees().ClashOf(l, lba, p)
	if x != a || y != b || found != isOne {
		t.Fatalf("%s: clash of %d by %d leaves: %x %x %t, asked %x %x", how, lba, len(l), x, y, found, a, b)
	}
	if how == neither {
		t.Fatalf("clash of %d by %d leaves: something else is told, and no texts meet: %v", lba, len(l), p)
	}
	if found && (x == y || sum(x) != sum(y)) {
		t.Fatalf("%s: clash of %d by %d leaves: %x and %x", how, lba, len(l), x, y)
	}
	return how
}

// The calls go by merkle's.
func TestMerkles(t *testing.T) {
	m := proof.Merkles()
	for _, w := range []struct {
		what      string
		got, want any
	}{
		{"Leaf", m.Leaf, merkle.Leaf}, {"Root", m.Root, merkle.Root}, {"Path", m.Path, merkle.Path}, {"Check", m.Check, merkle.Check}, {"Clash", m.Clash, merkle.Clash},
	} {
		if reflect.ValueOf(w.got).Pointer() != reflect.ValueOf(w.want).Pointer() {
			t.Errorf("%s is another one", w.what)
		}
	}
}

// P16.4: where leaves meet, the leaf that is named and the one that stands there: a byte 0 and both as they are said.
func TestClashOfLeaves(t *testing.T) {
	l := at(3, 7, 9)
	h := hash('0')
	other := library("another")
	up := func(i int) api.Path { return digest(leaves).path([]string{h, h, h}, i) }
	x := api.Leaf{Lba: 7, Hash: other}
	for _, w := range []struct {
		what         string
		lba          int
		p            api.Proof
		theirs, ours api.Leaf
	}{
		{"another hash", 7, api.Proof{Found: true, At: 1, Here: x, Up: up(1)}, x, l[1]},
		{"another place's seat", 7, api.Proof{Found: true, At: 0, Here: x, Up: up(0)}, x, l[0]},
		{"the last seat", 7, api.Proof{Found: true, At: 2, Here: x, Up: up(2)}, x, l[2]},
		{"a leaf where there is none", 5, api.Proof{Found: true, At: 1, Here: leaf(5, ""), Up: up(1)}, leaf(5, ""), l[1]},
		{"none, by another Here", 7, api.Proof{At: 1, Ahead: l[0], Left: up(0), Here: leaf(8, ""), Up: up(1)}, leaf(8, ""), l[1]},
		{"none, by another Ahead", 7, api.Proof{At: 2, Ahead: leaf(6, ""), Left: up(1), Here: l[2], Up: up(2)}, leaf(6, ""), l[1]},
		{"none, by both", 7, api.Proof{At: 2, Ahead: leaf(6, ""), Left: up(1), Here: leaf(8, ""), Up: up(2)}, leaf(8, ""), l[2]},
		{"none ahead of all", 3, api.Proof{Here: leaf(4, ""), Up: up(0)}, leaf(4, ""), l[0]},
		{"none behind all", 9, api.Proof{At: 3, Ahead: leaf(8, ""), Left: up(2)}, leaf(8, ""), l[2]},
		{"none, by the first one alone", 7, api.Proof{Here: l[2], Up: up(0)}, l[2], l[0]},
		{"none, by the last one alone", 7, api.Proof{At: 3, Ahead: l[0], Left: up(2)}, l[0], l[2]},
	} {
		a, b, found := digest(leaves).trees().ClashOf(l, w.lba, w.p)
		if a != text(w.theirs) || b != text(w.ours) || !found {
			t.Errorf("%s: %x %x %t", w.what, a, b, found)
		}
		clashIs(t, leaves, l, w.lba, w.p)
	}
}

// P16.4: a leaf alone is the root, so that only leaves can meet.
func TestClashOfOneLeaf(t *testing.T) {
	l := at(7)
	for lba, p := range map[int]api.Proof{
		3: {Found: true, Here: leaf(3, "")},
		7: {Found: true, Here: leaf(7, "another")},
		9: {Found: true, Here: leaf(9, "")},
	} {
		if how := clashIs(t, leaves, l, lba, p); how != hereLeaf {
			t.Errorf("%d: %s", lba, how)
		}
		if how := clashIs(t, nodes, l, lba, p); how != noTell {
			t.Errorf("%d: %s", lba, how)
		}
	}
	if how := clashIs(t, leaves, l, 7, api.Proof{Here: leaf(8, "")}); how != hereLeaf {
		t.Error(how)
	}
	if how := clashIs(t, leaves, l, 7, api.Proof{At: 1, Ahead: leaf(6, "")}); how != aheadLeaf {
		t.Error(how)
	}
}

// P16.4: where leaves don't meet, nodes do: a byte 1 and the two hashes of each.
func TestClashOfNodes(t *testing.T) {
	l := at(3, 7, 9)
	h := digest(nodes).texts(l)
	c, d := library("c"), library("d")
	n := hash('1')
	six, seven, eight := leaf(6, ""), leaf(7, "another"), leaf(8, "")
	of := func(l api.Leaf) string { return digest(nodes)(text(l)) }
	for _, w := range []struct {
		what         string
		lba          int
		p            api.Proof
		theirs, ours string
	}{
		{"another hash", 7, api.Proof{Found: true, At: 1, Here: seven, Up: api.Path{c, d}}, c + of(seven), h[0] + h[1]},
		{"another hash, by the own path", 7, api.Proof{Found: true, At: 1, Here: seven, Up: api.Path{h[0], h[2]}}, h[0] + of(seven), h[0] + h[1]},
		{"the first seat", 7, api.Proof{Found: true, Here: seven, Up: api.Path{c, d}}, of(seven) + c, h[0] + h[1]},
		{"the last seat", 7, api.Proof{Found: true, At: 2, Here: seven, Up: api.Path{c}}, c + of(seven), n + h[2]},
		{"a leaf where there is none", 8, api.Proof{Found: true, At: 2, Here: eight, Up: api.Path{n}}, n + of(eight), n + h[2]},
		{"none, by another Here", 7, api.Proof{At: 1, Ahead: l[0], Left: api.Path{h[1], h[2]}, Here: eight, Up: api.Path{h[0], h[2]}}, h[0] + of(eight), h[0] + h[1]},
		{"none, by another Ahead", 7, api.Proof{At: 2, Ahead: six, Left: api.Path{c, d}, Here: l[2], Up: api.Path{n}}, c + of(six), h[0] + h[1]},
		{"none, by another Ahead, and the own Here by another path", 7, api.Proof{At: 2, Ahead: six, Left: api.Path{c, d}, Here: l[2], Up: api.Path{d}}, c + of(six), h[0] + h[1]},
		{"none, by both", 7, api.Proof{At: 2, Ahead: six, Left: api.Path{c, d}, Here: eight, Up: api.Path{d}}, d + of(eight), n + h[2]},
		{"none behind all", 9, api.Proof{At: 3, Ahead: eight, Left: api.Path{d}}, d + of(eight), n + h[2]},
	} {
		a, b, found := digest(nodes).trees().ClashOf(l, w.lba, w.p)
		if a != "\x01"+w.theirs || b != "\x01"+w.ours || !found {
			t.Errorf("%s: %x %x %t", w.what, a, b, found)
		}
		clashIs(t, nodes, l, w.lba, w.p)
	}
}

// P16.4: in such trees, too, Clash tells none where one of the things is missing that it asks for.
func TestClashNone(t *testing.T) {
	l := at(3, 7, 9)
	h := hash('0')
	up := func(i int) api.Path { return digest(leaves).path([]string{h, h, h}, i) }
	x := api.Leaf{Lba: 7, Hash: library("another")}
	good := api.Proof{Found: true, At: 1, Here: x, Up: up(1)}
	if how := clashIs(t, leaves, l, 7, good); how != hereLeaf {
		t.Fatal(how)
	}
	none := func(what string, l []api.Leaf, lba int, p api.Proof) {
		t.Helper()
		clashIs(t, leaves, l, lba, p)
		if a, b, found := digest(leaves).trees().ClashOf(l, lba, p); a != "" || b != "" || found {
			t.Errorf("%s: %x %x %t", what, a, b, found)
		}
	}
	for i := range l {
		for _, row := range faulty(l, i) {
			none("a leaf that may not be", row, 7, good)
		}
	}
	for _, lba := range append(badLbas(), 3, 5, 6, 8, 9, 4095) {
		none("another place", l, lba, good)
	}
	with := func(what string, turn func(p *api.Proof)) {
		t.Helper()
		p := clone(good)
		turn(&p)
		none(what, l, 7, p)
	}
	with("At 0, which more hashes lead up from", func(p *api.Proof) { p.At, p.Up = 0, up(2) })
	with("At count", func(p *api.Proof) { p.At = 3 })
	with("At -1", func(p *api.Proof) { p.At = -1 })
	with("no hash", func(p *api.Proof) { p.Here.Hash = "" })
	with("no path", func(p *api.Proof) { p.Up = nil })
	with("another one's path", func(p *api.Proof) { p.Up = api.Path{h, x.Hash} })
	with("Ahead", func(p *api.Proof) { p.Ahead = l[0] })
	with("Left", func(p *api.Proof) { p.Left = up(0) })
	with("Found turned", func(p *api.Proof) { p.Found = false })
	none("of no leaves", nil, 7, api.Proof{})
	none("of no leaves, found", nil, 7, api.Proof{Found: true, Here: x})
}

// P16.4: what tells the same as Prove's own proof, though it is another one, is no clash.
func TestClashSame(t *testing.T) {
	l := at(3, 7, 9)
	h := digest(leaves).texts(l)
	up := func(i int) api.Path { return digest(leaves).path(h, i) }
	own := digest(nodes).texts(l)
	elsewhere := api.Path{library("c"), library("d")}
	for _, w := range []struct {
		what string
		sum  digest
		lba  int
		p    api.Proof
	}{
		{"the leaf itself in the first one's seat", leaves, 7, api.Proof{Found: true, Here: l[1], Up: up(0)}},
		{"the leaf itself in the last one's seat", leaves, 7, api.Proof{Found: true, At: 2, Here: l[1], Up: up(2)}},
		{"the leaf itself by another path", nodes, 7, api.Proof{Found: true, At: 1, Here: l[1], Up: elsewhere}},
		{"the leaf itself elsewhere by another path", nodes, 7, api.Proof{Found: true, Here: l[1], Up: elsewhere}},
		{"none, by others", leaves, 5, api.Proof{At: 1, Ahead: leaf(4, ""), Left: up(0), Here: leaf(6, ""), Up: up(1)}},
		{"none, behind all", leaves, 5, api.Proof{At: 3, Ahead: leaf(4, ""), Left: up(2)}},
		{"none, ahead of all", leaves, 5, api.Proof{Here: leaf(6, ""), Up: up(0)}},
		{"none, by other paths", nodes, 5, api.Proof{At: 1, Ahead: l[0], Left: elsewhere, Here: l[1], Up: elsewhere}},
		{"none, by another path of Here", nodes, 2, api.Proof{Here: l[0], Up: elsewhere}},
		{"none, by others and by other paths", nodes, 5, api.Proof{At: 1, Ahead: leaf(4, ""), Left: elsewhere, Here: leaf(6, ""), Up: api.Path{own[0], own[2]}}},
	} {
		if how := clashIs(t, w.sum, l, w.lba, w.p); how != sameTell {
			t.Errorf("%s: %s", w.what, how)
		}
	}
}

// chanceRow are leaves of few places and few hashes; some of them may not be.
func chanceRow(r *rand.Rand) []api.Leaf {
	var l []api.Leaf
	for lba := range 12 {
		if r.Intn(2) == 0 {
			l = append(l, api.Leaf{Lba: lba, Hash: hash(byte(r.Intn(3)))})
		}
	}
	if len(l) > 0 && r.Intn(20) == 0 {
		l[r.Intn(len(l))].Lba = r.Intn(14) - 1
	}
	return l
}

// chanceOther is a proof of what the leaves may not have, as it might pass: leaves at random that stand aside, at random seats, with paths of the right length.
func chanceOther(r *rand.Rand, sum digest, l []api.Leaf, lba int) api.Proof {
	hashes := sum.texts(l)
	path := func(i int) api.Path {
		p := sum.path(hashes, i)
		for k := range p {
			if r.Intn(3) == 0 {
				p[k] = hash(byte(r.Intn(3)))
			}
		}
		return p
	}
	other := func(lba, i int) api.Leaf {
		if r.Intn(2) == 0 {
			return l[i]
		}
		return api.Leaf{Lba: lba, Hash: hash(byte(r.Intn(3)))}
	}
	if r.Intn(2) == 0 {
		i := r.Intn(len(l))
		return api.Proof{Found: true, At: i, Here: api.Leaf{Lba: lba, Hash: hash(byte(r.Intn(3)))}, Up: path(i)}
	}
	p := api.Proof{At: r.Intn(len(l) + 1)}
	if p.At < len(l) {
		p.Here, p.Up = other(lba+1+r.Intn(2), p.At), path(p.At)
	}
	if p.At > 0 {
		p.Ahead, p.Left = other(lba-1-r.Intn(2), p.At-1), path(p.At-1)
	}
	return p
}

// P16.4, P16.6: where something else is told of a place, by the same root, two unlike texts of one sum are, whatever the digest is; each way in which Clash ends comes.
func TestClashChance(t *testing.T) {
	r := rand.New(rand.NewSource(164))
	ends := map[string]int{}
	for range 40000 {
		sum := few(byte(1 + r.Intn(5)))
		switch r.Intn(8) {
		case 0:
			sum = leaves
		case 1:
			sum = nodes
		}
		l := chanceRow(r)
		was := slices.Clone(l)
		lba := r.Intn(14) - 1
		p := api.Proof{At: r.Intn(2)}
		if len(l) > 0 {
			p = chanceOther(r, sum, l, lba)
		}
		if mayAllBe(l) && lba >= 0 && r.Intn(4) == 0 {
			p = chanceProof(r, sum, l, lba)
		}
		before := clone(p)
		ends[clashIs(t, sum, l, lba, p)]++
		told, found, e := sum.tells(sum.root(sum.texts(l)), len(l), lba, p)
		if got, is, err := sum.trees().Tells(sum.root(sum.texts(l)), len(l), lba, p); got != told || is != found || err != e {
			t.Fatalf("tells of %d by %d leaves: %x %t %d, asked %x %t %d", lba, len(l), got, is, err, told, found, e)
		}
		if !slices.Equal(l, was) || !same(p, before) {
			t.Fatal("what was handed in was changed")
		}
	}
	for _, how := range []string{noLeaves, noTell, sameTell, hereLeaf, hereNode, aheadLeaf, aheadNode} {
		if ends[how] < 200 {
			t.Errorf("only %d times: %s", ends[how], how)
		}
	}
	if ends[neither] > 0 {
		t.Errorf("%d times something else was told, and no texts met", ends[neither])
	}
}

// P16.2: with other digests, too, roots and proofs are the chapter's.
func TestProveByDigests(t *testing.T) {
	r := rand.New(rand.NewSource(165))
	for range 2000 {
		sum := few(byte(1 + r.Intn(200)))
		l, lba := chanceRow(r), r.Intn(16)-2
		root, e := sum.rootOf(l)
		if got, err := sum.trees().RootOf(l); got != root || err != e {
			t.Fatalf("root of %v: %x %d, asked %x %d", l, got, err, root, e)
		}
		p, e := sum.prove(l, lba)
		if got, err := sum.trees().Prove(l, lba); !same(got, p) || err != e {
			t.Fatalf("proof of %d by %v: %v %d, asked %v %d", lba, l, got, err, p, e)
		}
	}
}
