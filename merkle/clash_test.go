package merkle

import (
	"crypto/sha256"
	"math/rand"
	"slices"
	"strings"
	"testing"

	"keepsake/api"
)

// Two unlike texts with one sum can't be had of the digest, so that here stand some in which many texts meet.

// few has so many sums, and no more.
func few(kinds byte) digest {
	return func(l ...string) string {
		b := sha256.Sum256([]byte(strings.Join(l, "")))
		return hash(b[7] % kinds)
	}
}

// hash is one of 256 hashes.
func hash(b byte) string { return strings.Repeat("h", 31) + string([]byte{b}) }

// plainLevels are the levels, from below, two by two.
func plainLevels(sum digest, leaves []string) [][]string {
	rows := [][]string{leaves}
	for row := leaves; len(row) > 1; rows = append(rows, row) {
		var above []string
		for k := 0; k+1 < len(row); k += 2 {
			above = append(above, sum("\x01"+row[k]+row[k+1]))
		}
		if len(row)%2 == 1 {
			above = append(above, row[len(row)-1])
		}
		row = above
	}
	return rows
}

// plainClash is Clash as the chapter's words tell it once more; it tells at which level the texts met, too.
func plainClash(sum digest, leaves []string, i int, leaf string, path api.Path) (a, b string, level int) {
	for _, s := range append(append([]string{leaf}, leaves...), path...) {
		if len(s) != 32 {
			return "", "", -1
		}
	}
	if i < 0 || i >= len(leaves) || leaf == leaves[i] {
		return "", "", -1
	}
	rows := plainLevels(sum, leaves)
	now, at, used, level := leaf, i, 0, -1
	for n, row := range rows[:len(rows)-1] {
		if at%2 == 0 && at+1 == len(row) {
			at /= 2
			continue
		}
		if used == len(path) {
			return "", "", -1
		}
		text, own := "\x01"+now+path[used], ""
		if at%2 == 1 {
			text, own = "\x01"+path[used]+now, "\x01"+row[at-1]+row[at]
		} else {
			own = "\x01" + row[at] + row[at+1]
		}
		used++
		now, at = sum(text), at/2
		if level < 0 && now == rows[n+1][at] && text != own {
			a, b, level = text, own, n
		}
	}
	if used != len(path) || now != rows[len(rows)-1][0] {
		return "", "", -1
	}
	return a, b, level
}

func clashIs(t *testing.T, sum digest, leaves []string, i int, leaf string, path api.Path) int {
	t.Helper()
	a, b, level := plainClash(sum, leaves, i, leaf, path)
	x, y, found := sum.clash(leaves, i, leaf, path)
	if x != a || y != b || found != (level >= 0) {
		t.Fatalf("clash of %d of %d: %x %x %t, asked %x %x at %d", i, len(leaves), x, y, found, a, b, level)
	}
	if found && (x == y || sum(x) != sum(y) || len(x) != 65 || len(y) != 65 || x[0] != 1 || y[0] != 1) {
		t.Fatalf("clash of %d of %d: %x and %x", i, len(leaves), x, y)
	}
	return level
}

// Where all nodes are one, whatever leads up meets at the first level that has one beside it.
func TestClashByHand(t *testing.T) {
	one := digest(func(l ...string) string { return hash('1') })
	a, b, c, d, x := hash('a'), hash('b'), hash('c'), hash('d'), hash('x')
	for _, w := range []struct {
		leaves       []string
		i            int
		leaf         string
		path         api.Path
		theirs, ours string
	}{
		{[]string{a, b}, 0, x, api.Path{c}, x + c, a + b},
		{[]string{a, b}, 0, x, api.Path{b}, x + b, a + b},
		{[]string{a, b}, 0, b, api.Path{a}, b + a, a + b},
		{[]string{a, b}, 1, x, api.Path{c}, c + x, a + b},
		{[]string{a, b, c}, 1, x, api.Path{a, c}, a + x, a + b},
		{[]string{a, b, c}, 2, x, api.Path{d}, d + x, hash('1') + c},
		{[]string{a, b, c, d}, 2, x, api.Path{d, x}, x + d, c + d},
		{[]string{a, b, c, d, d}, 4, x, api.Path{x}, x + x, hash('1') + d},
	} {
		m, n, found := one.clash(w.leaves, w.i, w.leaf, w.path)
		if m != "\x01"+w.theirs || n != "\x01"+w.ours || !found {
			t.Errorf("clash of %d of %d: %x %x %t", w.i, len(w.leaves), m, n, found)
		}
		clashIs(t, one, w.leaves, w.i, w.leaf, w.path)
	}
}

// In such a digest, too, Clash tells none where one of the things is missing that it asks for.
func TestClashByHandNone(t *testing.T) {
	one := digest(func(l ...string) string { return hash('1') })
	a, b, c, x := hash('a'), hash('b'), hash('c'), hash('x')
	for _, w := range []struct {
		what   string
		leaves []string
		i      int
		leaf   string
		path   api.Path
	}{
		{"leaves that are no hashes", []string{a, b[:31]}, 0, x, api.Path{c}},
		{"leaves that are no hashes, the asked one", []string{a + "a", b}, 0, x, api.Path{c}},
		{"i ahead", []string{a, b}, -1, x, api.Path{c}},
		{"i behind", []string{a, b}, 2, x, api.Path{c}},
		{"the leaf itself", []string{a, b}, 0, a, api.Path{b}},
		{"the leaf itself by another path", []string{a, b}, 0, a, api.Path{c}},
		{"no hash", []string{a, b}, 0, x[:31], api.Path{c}},
		{"no hash in the path", []string{a, b}, 0, x, api.Path{c + c}},
		{"too long", []string{a, b}, 0, x, api.Path{c, c}},
		{"too short", []string{a, b}, 0, x, nil},
		{"a leaf alone, which is the root", []string{a}, 0, x, nil},
		{"of none", nil, 0, x, nil},
		{"of none, the root", nil, 0, hash('1'), nil},
		{"of none, the empty leaf", nil, 0, "", nil},
	} {
		if m, n, found := one.clash(w.leaves, w.i, w.leaf, w.path); m != "" || n != "" || found {
			t.Errorf("%s: %x %x %t", w.what, m, n, found)
		}
	}
	// a path that leads elsewhere
	apart := few(255)
	for k := range 100 {
		if m, n, found := apart.clash([]string{a, b}, 0, x, api.Path{hash(byte(k))}); found != (apart("\x01"+x+hash(byte(k))) == apart("\x01"+a+b)) {
			t.Errorf("elsewhere: %x %x %t", m, n, found)
		}
	}
}

// Texts that meet at each level, and that part and meet again above: the first level is told.
func TestClashLevels(t *testing.T) {
	r := rand.New(rand.NewSource(151))
	levels, none := map[int]int{}, 0
	for range 60000 {
		sum := few(byte(2 + r.Intn(6)))
		leaves := make([]string, 1+r.Intn(18))
		for i := range leaves {
			leaves[i] = hash(byte(r.Intn(6)))
		}
		was := slices.Clone(leaves)
		i := r.Intn(len(leaves))
		path, _ := sum.path(leaves, i)
		for at := range path {
			if r.Intn(2) == 0 {
				path[at] = hash(byte(r.Intn(6)))
			}
		}
		level := clashIs(t, sum, leaves, i, hash(byte(r.Intn(6))), path)
		levels[level]++
		if level < 0 {
			none++
		}
		if !slices.Equal(leaves, was) {
			t.Fatal("the leaves were changed")
		}
	}
	for _, level := range []int{-1, 0, 1, 2, 3, 4} {
		if levels[level] < 20 {
			t.Errorf("only %d of level %d", levels[level], level)
		}
	}
}

// The trees of any digest are the chapter's: level by level.
func TestTreesOfDigests(t *testing.T) {
	r := rand.New(rand.NewSource(152))
	for range 300 {
		sum := few(byte(1 + r.Intn(200)))
		leaves := make([]string, 1+r.Intn(40))
		for i := range leaves {
			leaves[i] = hash(byte(r.Intn(256)))
		}
		rows := plainLevels(sum, leaves)
		k := 0
		for level := range sum.levels(leaves) {
			if k == len(rows) || !slices.Equal(level, rows[k]) {
				t.Fatalf("level %d of %d leaves", k, len(leaves))
			}
			k++
		}
		if root, e := sum.root(leaves); k != len(rows) || root != rows[k-1][0] || e != api.OK {
			t.Fatalf("%d levels of %d leaves", k, len(leaves))
		}
	}
}

// What tells by iterating ends when nobody asks for more, and tells the same when it is asked again.
func TestAskedForFew(t *testing.T) {
	sum := few(200)
	leaves := []string{hash(1), hash(2), hash(3), hash(4), hash(5), hash(6), hash(7)}
	path, _ := sum.path(leaves, 4)
	levels, beside, turns, up := sum.levels(leaves), sum.beside(leaves, 4), sides(7, 4), sum.climb(7, 4, leaves[4], path)
	for range 2 {
		for stop := range 5 {
			n := 0
			for range levels {
				if n++; n > stop {
					break
				}
			}
			for range beside {
				if n++; n > 2*stop {
					break
				}
			}
			for range turns {
				if n++; n > 3*stop {
					break
				}
			}
			for range up {
				if n++; n > 4*stop {
					break
				}
			}
		}
		if !slices.Equal(slices.Collect(beside), path) {
			t.Error("asked again it tells others")
		}
		if l := slices.Collect(turns); !slices.Equal(l, []bool{false, false, true}) {
			t.Errorf("sides of 4 of 7: %v", l)
		}
		if l := slices.Collect(up); len(l) != 3 || l[2].hash != slices.Collect(levels)[3][0] {
			t.Error("asked again the path leads elsewhere")
		}
	}
}
