package merkle_test

import (
	"crypto/sha256"
	"math"
	"math/rand"
	"slices"
	"strconv"
	"strings"
	"testing"

	"keepsake/api"
	"keepsake/merkle"
)

// most is how many leaves at most the document lets a path lead up in.
const most = 1048576

// sum is the library's digest.
func sum(s string) string {
	b := sha256.Sum256([]byte(s))
	return string(b[:])
}

func node(left, right string) string { return sum("\x01" + left + right) }

// cut is where leaves part: the left half has as many as the greatest power of two that leaves some for the right one.
func cut(count int) int {
	k := 1
	for k*2 < count {
		k *= 2
	}
	return k
}

// plainRoot makes the root from above, by halves.
func plainRoot(leaves []string) string {
	switch len(leaves) {
	case 0:
		return sum("")
	case 1:
		return leaves[0]
	}
	k := cut(len(leaves))
	return node(plainRoot(leaves[:k]), plainRoot(leaves[k:]))
}

// plainPath makes the path from above, by halves: the half beside the leaf's stands last.
func plainPath(leaves []string, i int) api.Path {
	if len(leaves) == 1 {
		return nil
	}
	k := cut(len(leaves))
	if i < k {
		return append(plainPath(leaves[:k], i), plainRoot(leaves[k:]))
	}
	return append(plainPath(leaves[k:], i-k), plainRoot(leaves[:k]))
}

// plainLong says how many hashes the path has.
func plainLong(count, i int) int {
	if count == 1 {
		return 0
	}
	k := cut(count)
	if i < k {
		return plainLong(k, i) + 1
	}
	return plainLong(count-k, i-k) + 1
}

// plainLed says, from above, where a path of the right length leads.
func plainLed(count, i int, leaf string, path api.Path) string {
	if count == 1 {
		return leaf
	}
	k, last := cut(count), len(path)-1
	if i < k {
		return node(plainLed(k, i, leaf, path[:last]), path[last])
	}
	return node(path[last], plainLed(count-k, i-k, leaf, path[:last]))
}

func plainUp(count, i int, leaf string, path api.Path) (string, api.Errno) {
	if count < 1 || count > most || i < 0 || i >= count {
		return "", api.ErrArg
	}
	if len(leaf) != 32 || len(path) != plainLong(count, i) {
		return "", api.ErrProof
	}
	for _, s := range path {
		if len(s) != 32 {
			return "", api.ErrProof
		}
	}
	return plainLed(count, i, leaf, path), api.OK
}

// leavesOf are so many leaves, no two the same.
func leavesOf(count int) []string {
	l := make([]string, count)
	for i := range l {
		l[i] = sum("leaf " + strconv.Itoa(i))
	}
	return l
}

// fewOf are so many leaves, of which many are the same.
func fewOf(r *rand.Rand, count, kinds int) []string {
	l := make([]string, count)
	for i := range l {
		l[i] = sum("kind " + strconv.Itoa(r.Intn(kinds)))
	}
	return l
}

// pathOf are so many hashes.
func pathOf(count int) api.Path {
	l := make(api.Path, count)
	for i := range l {
		l[i] = sum("beside " + strconv.Itoa(i))
	}
	return l
}

// counts are numbers of leaves: all small ones, and some about powers of two.
func counts() []int {
	var l []int
	for n := range 70 {
		l = append(l, n)
	}
	return append(l, 127, 128, 129, 255, 256, 257, 1000, 1023, 1024, 1025)
}

// askedIs are numbers of leaves at the bounds, beyond them, and between.
func askedIs(count int) []int {
	l := []int{math.MinInt64, math.MinInt64 + 1, -count, -2, -1, 0, 1, 2, 3, count / 2, count - 2, count - 1, count, count + 1, 2 * count, math.MaxInt64 - 1, math.MaxInt64}
	for bit := 1; bit < 1<<62; bit *= 2 {
		l = append(l, bit-1, bit, -bit, bit+math.MinInt64)
	}
	slices.Sort(l)
	return slices.Compact(l)
}

// badHashes are texts that are no hashes.
func badHashes() []string {
	h := sum("h")
	return []string{"", "\x00", h[:16], h[:31], h + "\x00", h + h, strings.Repeat("x", 4096)}
}

func rootIs(t *testing.T, leaves []string, want string) {
	t.Helper()
	if got, e := merkle.Root(leaves); got != want || e != api.OK {
		t.Fatalf("root of %d leaves: %x %d, asked %x", len(leaves), got, e, want)
	}
}

func pathIs(t *testing.T, leaves []string, i int, want api.Path) {
	t.Helper()
	if got, e := merkle.Path(leaves, i); !slices.Equal(got, want) || e != api.OK {
		t.Fatalf("path of %d of %d leaves: %x %d, asked %x", i, len(leaves), got, e, want)
	}
}

func noRoot(t *testing.T, leaves []string) {
	t.Helper()
	if got, e := merkle.Root(leaves); got != "" || e != api.ErrArg {
		t.Fatalf("root of %d texts: %x %d", len(leaves), got, e)
	}
}

func noPath(t *testing.T, leaves []string, i int) {
	t.Helper()
	if got, e := merkle.Path(leaves, i); len(got) != 0 || e != api.ErrArg {
		t.Fatalf("path of %d of %d leaves: %x %d", i, len(leaves), got, e)
	}
}

func upIs(t *testing.T, count, i int, leaf string, path api.Path, want string, err api.Errno) {
	t.Helper()
	if got, e := merkle.Up(count, i, leaf, path); got != want || e != err {
		t.Fatalf("up of %d of %d by %d hashes: %x %d, asked %x %d", i, count, len(path), got, e, want, err)
	}
}

// upTells holds Up and Check against the plain ones.
func upTells(t *testing.T, count, i int, leaf string, path api.Path) {
	t.Helper()
	want, e := plainUp(count, i, leaf, path)
	upIs(t, count, i, leaf, path, want, e)
	for _, root := range []string{want, leaf, sum("another"), "", node(leaf, leaf)} {
		if got := merkle.Check(root, count, i, leaf, path); got != (e == api.OK && root == want) {
			t.Fatalf("check of %d of %d by %d hashes, of %x: %t, up tells %x %d", i, count, len(path), root, got, want, e)
		}
	}
}

func noClash(t *testing.T, what string, leaves []string, i int, leaf string, path api.Path) {
	t.Helper()
	if a, b, found := merkle.Clash(leaves, i, leaf, path); a != "" || b != "" || found {
		t.Fatalf("%s: clash of %d of %d: %x %x %t", what, i, len(leaves), a, b, found)
	}
}

func TestExample(t *testing.T) {
	a, b, c := merkle.Leaf("a"), merkle.Leaf("b"), merkle.Leaf("c")
	l := []string{a, b, c}
	rootIs(t, l, merkle.Node(merkle.Node(a, b), c))
	pathIs(t, l, 2, api.Path{merkle.Node(a, b)})
}

// A leaf is the sum of a byte 0 and a text, a node of a byte 1 and two.
func TestLeafAndNode(t *testing.T) {
	h, g := sum("h"), sum("g")
	long := strings.Repeat("long ", 20000)
	for _, s := range []string{"", "\x00", "\x01", "a", h, h + g, "\x01" + h + g, h[:31], long, strings.Repeat("\x00", 64)} {
		if got := merkle.Leaf(s); got != sum("\x00"+s) {
			t.Errorf("leaf of %d bytes: %x", len(s), got)
		}
		for _, r := range []string{"", "\x00", "\x01", "b", h, g, h + g, g[:31], long} {
			if got := merkle.Node(s, r); got != sum("\x01"+s+r) {
				t.Errorf("node of %d and %d bytes: %x", len(s), len(r), got)
			}
		}
	}
}

// Known sums, so that not all hangs on the tests' own digest.
func TestLeafAndNodeKnown(t *testing.T) {
	for _, c := range []struct{ got, want string }{
		{merkle.Leaf(""), "6e340b9cffb37a989ca544e6bb780a2c78901d3fb33738768511a30617afa01d"},
		{merkle.Node("", ""), "4bf5122f344554c53bde2ebb8cd2b7e3d1600ad631c385a5d7cce23c7785459a"},
	} {
		if hexOf(c.got) != c.want {
			t.Errorf("%s, asked %s", hexOf(c.got), c.want)
		}
	}
	root, _ := merkle.Root(nil)
	if hexOf(root) != "e3b0c44298fc1c149afbf4c8996fb92427ae41e4649b934ca495991b7852b855" {
		t.Errorf("root of none: %s", hexOf(root))
	}
}

func hexOf(s string) string {
	const digits = "0123456789abcdef"
	var b strings.Builder
	for _, c := range []byte(s) {
		b.WriteByte(digits[c>>4])
		b.WriteByte(digits[c&15])
	}
	return b.String()
}

// No leaf is a node: what is said otherwise has another sum, even where the bytes behind the first one are the same.
func TestLeavesAreNoNodes(t *testing.T) {
	h, g := sum("h"), sum("g")
	texts := []string{"", "\x00", "\x01", "a", "ab", "b", h, g, h + g, "\x00" + h, "\x01" + h, "\x00" + h + g, "\x01" + h + g}
	leaves := map[string]string{}
	for _, s := range texts {
		hash := merkle.Leaf(s)
		if was, ok := leaves[hash]; ok {
			t.Errorf("leaf of %q is that of %q", s, was)
		}
		leaves[hash] = s
	}
	for _, l := range texts {
		for _, r := range texts {
			if s, ok := leaves[merkle.Node(l, r)]; ok {
				t.Errorf("node of %q and %q is the leaf of %q", l, r, s)
			}
		}
	}
	if merkle.Node(h, g) == merkle.Node(g, h) {
		t.Error("sides don't matter")
	}
	// both sides are summed as one text
	if merkle.Node("a", "b") != merkle.Node("ab", "") || merkle.Node("", "ab") != merkle.Node("ab", "") {
		t.Error("what parts two sides is summed, too")
	}
}

func TestRootByHand(t *testing.T) {
	n := node
	l := leavesOf(9)
	a, b, c, d, e, f, g, h, i := l[0], l[1], l[2], l[3], l[4], l[5], l[6], l[7], l[8]
	four := n(n(a, b), n(c, d))
	for count, want := range []string{
		sum(""), a, n(a, b), n(n(a, b), c), four, n(four, e), n(four, n(e, f)), n(four, n(n(e, f), g)), n(four, n(n(e, f), n(g, h))), n(n(four, n(n(e, f), n(g, h))), i),
	} {
		rootIs(t, l[:count], want)
	}
	rootIs(t, nil, sum(""))
	rootIs(t, []string{}, sum(""))
	// where leaves are the same, each of them stands
	rootIs(t, []string{a, a}, n(a, a))
	rootIs(t, []string{a, a, a}, n(n(a, a), a))
	// hashes needn't be of a leaf
	nought := strings.Repeat("\x00", 32)
	rootIs(t, []string{nought}, nought)
	rootIs(t, []string{nought, four}, n(nought, four))
}

func TestPathByHand(t *testing.T) {
	n := node
	l := leavesOf(7)
	a, b, c, d, e, f, g := l[0], l[1], l[2], l[3], l[4], l[5], l[6]
	ab, cd, ef := n(a, b), n(c, d), n(e, f)
	four := n(ab, cd)
	for _, x := range []struct {
		count, i int
		want     api.Path
	}{
		{1, 0, nil},
		{2, 0, api.Path{b}}, {2, 1, api.Path{a}},
		{3, 0, api.Path{b, c}}, {3, 1, api.Path{a, c}}, {3, 2, api.Path{ab}},
		{4, 0, api.Path{b, cd}}, {4, 1, api.Path{a, cd}}, {4, 2, api.Path{d, ab}}, {4, 3, api.Path{c, ab}},
		{5, 0, api.Path{b, cd, e}}, {5, 3, api.Path{c, ab, e}}, {5, 4, api.Path{four}},
		{6, 1, api.Path{a, cd, ef}}, {6, 4, api.Path{f, four}}, {6, 5, api.Path{e, four}},
		{7, 2, api.Path{d, ab, n(ef, g)}}, {7, 4, api.Path{f, g, four}}, {7, 5, api.Path{e, g, four}}, {7, 6, api.Path{ef, four}},
	} {
		pathIs(t, l[:x.count], x.i, x.want)
		upIs(t, x.count, x.i, l[x.i], x.want, plainRoot(l[:x.count]), api.OK)
	}
}

// Trees made from below are those made from above; each leaf's own path leads to the root, and is no longer than the doublings.
func TestAgainstHalves(t *testing.T) {
	r := rand.New(rand.NewSource(15))
	for _, count := range counts() {
		for _, l := range [][]string{leavesOf(count), fewOf(r, count, 1), fewOf(r, count, 2), fewOf(r, count, 5)} {
			was := slices.Clone(l)
			root := plainRoot(l)
			rootIs(t, l, root)
			for i := range count {
				if count > 70 && i > 3 && i < count-3 && r.Intn(count/10) > 0 {
					continue
				}
				ownPath(t, l, i, root)
			}
			if !slices.Equal(l, was) {
				t.Fatalf("%d leaves were changed", count)
			}
		}
	}
}

func ownPath(t *testing.T, l []string, i int, root string) {
	t.Helper()
	want := plainPath(l, i)
	pathIs(t, l, i, want)
	path, _ := merkle.Path(l, i)
	upIs(t, len(l), i, l[i], path, root, api.OK)
	if !merkle.Check(root, len(l), i, l[i], path) {
		t.Fatalf("check of the own path of %d of %d", i, len(l))
	}
	if !slices.Equal(path, want) {
		t.Fatalf("path of %d of %d was changed", i, len(l))
	}
	if len(path) > doublings(len(l)) {
		t.Fatalf("path of %d of %d has %d hashes", i, len(l), len(path))
	}
	noClash(t, "own path", l, i, l[i], path)
}

// doublings is how many it takes to double 1 up to count.
func doublings(count int) int {
	k := 0
	for n := 1; n < count; n *= 2 {
		k++
	}
	return k
}

// A path may have as many hashes as there are doublings, and has fewer where levels have none beside.
func TestLong(t *testing.T) {
	for _, x := range []struct{ count, i, want int }{
		{1, 0, 0}, {2, 0, 1}, {2, 1, 1}, {3, 0, 2}, {3, 2, 1}, {4, 3, 2}, {5, 0, 3}, {5, 4, 1}, {6, 5, 2}, {7, 6, 2}, {8, 7, 3}, {9, 0, 4}, {9, 8, 1},
		{17, 16, 1}, {19, 18, 2}, {21, 20, 2}, {1024, 1023, 10}, {1025, 1024, 1}, {1025, 1023, 11}, {4096, 0, 12}, {4097, 4095, 13}, {4097, 4096, 1},
	} {
		l := leavesOf(x.count)
		path, e := merkle.Path(l, x.i)
		if len(path) != x.want || e != api.OK {
			t.Errorf("path of %d of %d: %d hashes, %d", x.i, x.count, len(path), e)
		}
	}
}

// One text that is no hash is enough, wherever it stands.
func TestNoHashes(t *testing.T) {
	for _, count := range []int{1, 2, 3, 4, 5, 7, 8, 9, 33, 100} {
		for _, at := range []int{0, 1, count / 2, count - 2, count - 1} {
			if at < 0 || at >= count {
				continue
			}
			for _, bad := range badHashes() {
				l := leavesOf(count)
				path, _ := merkle.Path(l, at)
				own := l[at]
				l[at] = bad
				noRoot(t, l)
				for _, i := range []int{math.MinInt64, -1, 0, at, count - 1, count, math.MaxInt64} {
					noPath(t, l, i)
					noClash(t, "a leaf is no hash", l, i, own, path)
				}
			}
		}
	}
	// two texts that have the bytes of two hashes
	h := sum("h")
	noRoot(t, []string{h + h[:16], h[16:]})
	noRoot(t, []string{h[:31], h + h[31:]})
	noRoot(t, []string{h[:31], h[:31]})
}

func TestNoLeaf(t *testing.T) {
	for _, count := range counts() {
		l := leavesOf(count)
		for _, i := range askedIs(count) {
			if i < 0 || i >= count {
				noPath(t, l, i)
			} else {
				pathIs(t, l, i, plainPath(l, i))
			}
		}
	}
	noPath(t, nil, 0)
	noPath(t, []string{}, 0)
	noPath(t, nil, -1)
}

// Each number at its bounds and beyond, with paths of the right length and of others.
func TestUpNumbers(t *testing.T) {
	leaf := sum("leaf")
	for _, count := range []int{math.MinInt64, math.MinInt64 + 1, -most, -2, -1, 0, 1, 2, 3, 4, 5, 7, 8, 9, 1000, most/2 + 1, most - 1, most, most + 1, 2 * most, math.MaxInt64 - 1, math.MaxInt64} {
		for _, i := range askedIs(min(max(count, 0), 2*most)) {
			for _, n := range []int{0, 1, 2, 3, 18, 19, 20, 21, 64} {
				upTells(t, count, i, leaf, pathOf(n))
			}
			if count >= 1 && count <= most && i >= 0 && i < count {
				upTells(t, count, i, leaf, pathOf(plainLong(count, i)))
			}
		}
	}
}

func TestUpNumbersByHand(t *testing.T) {
	a, b := sum("a"), sum("b")
	upIs(t, 1, 0, a, nil, a, api.OK)
	upIs(t, 1, 0, a, api.Path{}, a, api.OK)
	upIs(t, 2, 0, a, api.Path{b}, node(a, b), api.OK)
	upIs(t, 2, 1, a, api.Path{b}, node(b, a), api.OK)
	upIs(t, 3, 2, a, api.Path{b}, node(b, a), api.OK)
	upIs(t, 0, 0, a, nil, "", api.ErrArg)
	upIs(t, 0, -1, a, nil, "", api.ErrArg)
	upIs(t, -1, 0, a, nil, "", api.ErrArg)
	upIs(t, -1, -2, a, nil, "", api.ErrArg)
	upIs(t, 1, 1, a, nil, "", api.ErrArg)
	upIs(t, 1, -1, a, nil, "", api.ErrArg)
	upIs(t, 2, 2, a, api.Path{b}, "", api.ErrArg)
	upIs(t, most+1, 0, a, pathOf(21), "", api.ErrArg)
	upIs(t, most+1, most, a, pathOf(1), "", api.ErrArg)
	upIs(t, math.MaxInt64, 0, a, pathOf(63), "", api.ErrArg)
	upIs(t, math.MinInt64, math.MinInt64, a, nil, "", api.ErrArg)
	last := a
	for _, s := range pathOf(20) {
		last = node(s, last)
	}
	upIs(t, most, most-1, a, pathOf(20), last, api.OK)
	first := a
	for _, s := range pathOf(20) {
		first = node(first, s)
	}
	upIs(t, most, 0, a, pathOf(20), first, api.OK)
	upIs(t, most, most, a, pathOf(20), "", api.ErrArg)
	upIs(t, most/2+1, most/2, a, pathOf(1), node(pathOf(1)[0], a), api.OK)
}

// Which error is told, where one thing is wrong, and where several are.
func TestUpErrors(t *testing.T) {
	good := sum("good")
	for _, count := range []int{1, 2, 3, 5, 8, 9, 100} {
		for _, i := range []int{0, 1, count / 2, count - 1} {
			if i >= count {
				continue
			}
			long := plainLong(count, i)
			for _, bad := range append(badHashes(), good) {
				upTells(t, count, i, bad, pathOf(long))
				for at := range long {
					path := pathOf(long)
					path[at] = bad
					for _, leaf := range []string{good, "", good[:31]} {
						upTells(t, count, i, leaf, path)
						upTells(t, count, i, leaf, append(slices.Clone(path), bad))
						upTells(t, count, i, leaf, path[:long-1])
						upIs(t, count, -1, leaf, path, "", api.ErrArg)
						upIs(t, count, count, leaf, path, "", api.ErrArg)
						upIs(t, 0, i, leaf, path, "", api.ErrArg)
						upIs(t, most+1, i, leaf, path, "", api.ErrArg)
						upIs(t, -count, i, leaf, path, "", api.ErrArg)
					}
				}
			}
		}
	}
	upIs(t, 2, 0, good[:31], api.Path{good}, "", api.ErrProof)
	upIs(t, 2, 0, good, api.Path{good[:31]}, "", api.ErrProof)
	upIs(t, 2, 0, good, api.Path{""}, "", api.ErrProof)
	upIs(t, 1, 0, "", nil, "", api.ErrProof)
	upIs(t, 2, 2, "", api.Path{""}, "", api.ErrArg)
	upIs(t, 0, 0, "", nil, "", api.ErrArg)
}

func TestUpLengths(t *testing.T) {
	leaf := sum("leaf")
	for count := 1; count < 70; count++ {
		for i := range count {
			long := plainLong(count, i)
			for n := range 9 {
				_, e := merkle.Up(count, i, leaf, pathOf(n))
				if (e == api.OK) != (n == long) || n != long && e != api.ErrProof {
					t.Fatalf("up of %d of %d by %d hashes, where %d lead up: %d", i, count, n, long, e)
				}
			}
		}
	}
	many := slices.Repeat(pathOf(1), 1<<20)
	for _, count := range []int{1, 2, 8, most} {
		upIs(t, count, count-1, leaf, many, "", api.ErrProof)
		upIs(t, count, count, leaf, many, "", api.ErrArg)
		if merkle.Check(leaf, count, count-1, leaf, many) {
			t.Errorf("check by very many hashes in %d", count)
		}
	}
	if len(many) != 1<<20 || many[5] != pathOf(1)[0] {
		t.Error("the path was changed")
	}
}

// Another leaf's path, or another leaf, leads elsewhere; and with the own ones only the root's text is right.
func TestOthers(t *testing.T) {
	for count := 2; count < 20; count++ {
		l := leavesOf(count)
		root, _ := merkle.Root(l)
		for i := range l {
			for k := range l {
				path, _ := merkle.Path(l, k)
				for j := range l {
					upTells(t, count, i, l[j], path)
					right := i == j && j == k
					if merkle.Check(root, count, i, l[j], path) != right {
						t.Fatalf("of %d: leaf %d as %d by the path of %d: %t", count, j, i, k, !right)
					}
					noClash(t, "another leaf or path", l, i, l[j], path)
				}
			}
		}
	}
}

// A hash of the path that stands elsewhere, or is turned in one bit, leads elsewhere.
func TestTurned(t *testing.T) {
	for _, count := range []int{2, 3, 5, 8, 13} {
		l := leavesOf(count)
		root, _ := merkle.Root(l)
		for i := range l {
			own, _ := merkle.Path(l, i)
			for at := range own {
				for _, bit := range []byte{1, 128} {
					for _, where := range []int{0, 15, 31} {
						b := []byte(own[at])
						b[where] ^= bit
						path := slices.Clone(own)
						path[at] = string(b)
						upTells(t, count, i, l[i], path)
						if merkle.Check(root, count, i, l[i], path) {
							t.Fatalf("path of %d of %d, turned at %d, leads to the root", i, count, at)
						}
						noClash(t, "a turned path", l, i, l[i], path)
					}
				}
			}
		}
	}
}

func TestCheck(t *testing.T) {
	l := leavesOf(5)
	root, _ := merkle.Root(l)
	path, _ := merkle.Path(l, 3)
	if !merkle.Check(root, 5, 3, l[3], path) {
		t.Error("the root is not checked")
	}
	for _, other := range []string{"", root[:31], root + "\x00", "\x00" + root, l[3], node(path[2], path[1]), sum(""), strings.Repeat("\x00", 32), sum("\x00" + root)} {
		if merkle.Check(other, 5, 3, l[3], path) {
			t.Errorf("%x is the root", other)
		}
	}
	// where Up is an error it tells no root, not the empty text
	for _, x := range []struct {
		count, i int
		leaf     string
		path     api.Path
	}{
		{0, 0, l[3], nil}, {0, 0, "", nil}, {-1, 0, l[3], path}, {most + 1, 3, l[3], path}, {5, -1, l[3], path}, {5, 5, l[3], path},
		{5, 3, "", path}, {5, 3, l[3][:31], path}, {5, 3, l[3], nil}, {5, 3, l[3], path[:2]}, {5, 3, l[3], append(slices.Clone(path), root)}, {1, 0, "", nil}, {2, 0, root, api.Path{""}},
	} {
		for _, r := range []string{"", root, x.leaf, sum("")} {
			if merkle.Check(r, x.count, x.i, x.leaf, x.path) {
				t.Errorf("check of %x is true: %d of %d, %x", r, x.i, x.count, x.leaf)
			}
		}
	}
	if !merkle.Check(l[0], 1, 0, l[0], nil) {
		t.Error("a leaf alone is not the root")
	}
}

// With a digest in which no two texts meet Clash tells none: each case of those that it asks for, alone.
func TestClashNone(t *testing.T) {
	for _, count := range []int{1, 2, 3, 4, 5, 7, 8, 9} {
		l := leavesOf(count)
		was := slices.Clone(l)
		for _, i := range []int{0, count / 2, count - 1} {
			path, _ := merkle.Path(l, i)
			noClash(t, "the leaf itself", l, i, l[i], path)
			noClash(t, "another leaf", l, i, sum("another"), path)
			noClash(t, "a leaf that is no hash", l, i, l[i][:31], path)
			noClash(t, "the empty leaf", l, i, "", path)
			noClash(t, "one hash more", l, i, sum("another"), append(slices.Clone(path), l[0]))
			noClash(t, "no path", l, i, sum("another"), nil)
			noClash(t, "elsewhere", l, i, sum("another"), pathOf(len(path)))
			noClash(t, "elsewhere, from the leaf itself", l, i, l[i], pathOf(len(path)))
			for _, k := range []int{math.MinInt64, -1, count, count + 1, math.MaxInt64} {
				noClash(t, "no such leaf", l, k, l[i], path)
				noClash(t, "no such leaf, another", l, k, sum("another"), path)
			}
		}
		if !slices.Equal(l, was) {
			t.Errorf("%d leaves were changed", count)
		}
	}
	noClash(t, "of none", nil, 0, sum("a"), nil)
	noClash(t, "of none", nil, 0, "", nil)
	noClash(t, "of none", []string{}, -1, sum(""), nil)
	noClash(t, "of empty texts", []string{"", ""}, 0, "", api.Path{""})
}

// A node that stands as a leaf makes other trees with the same root: of other counts, so that no texts meet.
func TestClashOfTrees(t *testing.T) {
	l := leavesOf(4)
	ab, cd := node(l[0], l[1]), node(l[2], l[3])
	two := []string{ab, cd}
	rootIs(t, two, plainRoot(l))
	noClash(t, "a leaf below, by its path", two, 0, l[0], api.Path{l[1], cd})
	noClash(t, "a leaf below, by what is left of its path", two, 0, l[0], api.Path{cd})
	noClash(t, "a node as a leaf", l, 0, ab, api.Path{cd})
	noClash(t, "a node as a leaf, with a hash more", l, 0, ab, api.Path{l[1], cd})
	three := []string{ab, l[2], l[3]}
	noClash(t, "three", three, 0, l[0], api.Path{l[1], cd})
	if !merkle.Check(plainRoot(l), 2, 0, ab, api.Path{cd}) || merkle.Check(plainRoot(l), 4, 0, ab, api.Path{cd}) {
		t.Error("nodes as leaves")
	}
}

// As many leaves as a path may be followed in, and one more: trees have no bound.
func TestMost(t *testing.T) {
	l := leavesOf(most + 1)
	root := plainRoot(l[:most])
	rootIs(t, l[:most], root)
	path, e := merkle.Path(l[:most], most-1)
	if len(path) != 20 || e != api.OK || !merkle.Check(root, most, most-1, l[most-1], path) {
		t.Errorf("path of the last one of 2^20: %d hashes, %d", len(path), e)
	}
	rootIs(t, l, node(root, l[most]))
	pathIs(t, l, most, api.Path{root})
	upIs(t, most+1, most, l[most], api.Path{root}, "", api.ErrArg)
	noPath(t, l, most+1)
	noClash(t, "one more than may be", l, most, l[0], api.Path{root})
}

// What is answered is the caller's own, and what was handed in stays the caller's.
func TestNewMemory(t *testing.T) {
	for _, count := range []int{1, 2, 3, 5, 8} {
		room := append(leavesOf(count), "behind", "behind")
		l := room[:count]
		was := slices.Clone(room)
		path, _ := merkle.Path(l, 0)
		want := slices.Clone(path)
		again, _ := merkle.Path(l, 0)
		path = append(path, "more")
		for i := range path {
			path[i] = "x"
		}
		merkle.Root(l)
		merkle.Up(count, 0, l[0], again)
		merkle.Clash(l, 0, sum("other"), again)
		if !slices.Equal(room, was) {
			t.Errorf("%d leaves, or what stands behind them, were changed", count)
		}
		if !slices.Equal(again, want) {
			t.Errorf("two paths of %d leaves share their room", count)
		}
		for i := range l {
			l[i] = ""
		}
		if !slices.Equal(again, want) {
			t.Errorf("the path shares its room with %d leaves", count)
		}
	}
	// a path's room isn't written to, nor what stands behind it
	room := pathOf(5)
	was := slices.Clone(room)
	merkle.Up(8, 0, sum("l"), room[:3])
	merkle.Up(8, 0, sum("l"), room[:2])
	merkle.Check("", 8, 0, sum("l"), room[:3])
	merkle.Clash(leavesOf(8), 0, sum("l"), room[:3])
	if !slices.Equal(room, was) {
		t.Error("the path was changed")
	}
}

// A call leaves nothing behind that a later one could tell.
func TestNothingKept(t *testing.T) {
	l := leavesOf(5)
	for range 3 {
		rootIs(t, l, plainRoot(l))
		noRoot(t, []string{l[0], ""})
		pathIs(t, l, 4, plainPath(l, 4))
		noPath(t, l, 5)
		upIs(t, 5, 4, l[4], plainPath(l, 4), plainRoot(l), api.OK)
		upIs(t, 5, 4, l[4], plainPath(l, 3), "", api.ErrProof)
		upIs(t, 5, 5, l[4], plainPath(l, 4), "", api.ErrArg)
	}
}

// Long rows of chance, of ordinary and of wrong inputs.
func TestChance(t *testing.T) {
	r := rand.New(rand.NewSource(1515))
	for range 4000 {
		count := r.Intn(40) + 1
		l := fewOf(r, count, 1+r.Intn(60))
		i := r.Intn(count)
		path, _ := merkle.Path(l, i)
		leaf := l[i]
		switch r.Intn(8) {
		case 0:
			i = r.Intn(count+4) - 2
		case 1:
			leaf = l[r.Intn(count)]
		case 2:
			path, _ = merkle.Path(l, r.Intn(count))
		case 3:
			path = append(path, l[r.Intn(count)])
		case 4:
			if len(path) > 0 {
				path[r.Intn(len(path))] = l[r.Intn(count)]
			}
		case 5:
			count += r.Intn(5) - 2
		case 6:
			leaf = leaf[:r.Intn(33)]
		}
		upTells(t, count, i, leaf, path)
		root := plainRoot(l)
		want, e := plainUp(len(l), i, leaf, path)
		if merkle.Check(root, len(l), i, leaf, path) != (e == api.OK && want == root) {
			t.Fatalf("check of %d of %d", i, len(l))
		}
		noClash(t, "chance", l, i, leaf, path)
	}
}

func FuzzCalls(f *testing.F) {
	h := sum("h")
	f.Add(3, 2, h, h+h[:5], 32, 3)
	f.Add(1, 0, h, "", 32, 1)
	f.Add(-1, 5, "", h+h+h, 32, 0)
	f.Add(5, 4, h[:31], h, 16, 5)
	f.Fuzz(func(t *testing.T, count, i int, leaf, text string, width, most int) {
		var path api.Path
		width = 1 + (width&0xff+31)%64
		for len(text) > 0 {
			n := min(width, len(text))
			path, text = append(path, text[:n]), text[n:]
		}
		upTells(t, count, i, leaf, path)
		l := leavesOf(most & 63)
		l = append(l, path...)
		was := slices.Clone(l)
		fuzzTree(t, l, i)
		noClash(t, "fuzz", l, i, leaf, path)
		if !slices.Equal(l, was) {
			t.Fatal("the leaves were changed")
		}
	})
}

func fuzzTree(t *testing.T, l []string, i int) {
	for _, s := range l {
		if len(s) != 32 {
			noRoot(t, l)
			noPath(t, l, i)
			return
		}
	}
	root := plainRoot(l)
	rootIs(t, l, root)
	if i < 0 || i >= len(l) {
		noPath(t, l, i)
		return
	}
	ownPath(t, l, i, root)
}
