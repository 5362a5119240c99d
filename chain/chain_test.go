package chain_test

import (
	"encoding/hex"
	"fmt"
	"math"
	"math/rand"
	"slices"
	"strings"
	"testing"

	"keepsake/api"
	"keepsake/chain"
	"keepsake/evolve"
)

const (
	least = math.MinInt64
	most  = math.MaxInt64
)

var (
	root    = strings.Repeat("r", 32)
	noughts = strings.Repeat("\x00", 32)
)

// bytes is a text of n bytes, each unlike the one ahead.
func bytes(n int) string {
	b := make([]byte, n)
	for i := range b {
		b[i] = byte(i*11 + 3)
	}
	return string(b)
}

// turned has the bits of by turned in one of its bytes.
func turned(s string, at int, by byte) string {
	b := []byte(s)
	b[at] ^= by
	return string(b)
}

// hexed are the bytes that are written to the base 16, blanks aside.
func hexed(t *testing.T, s string) string {
	t.Helper()
	b, err := hex.DecodeString(strings.ReplaceAll(s, " ", ""))
	if err != nil {
		t.Fatal(err)
	}
	return string(b)
}

// wides are texts of 32 bytes, narrows such as have not as many.
func wides() []string {
	return []string{noughts, root, bytes(32), strings.Repeat("\xff", 32)}
}

func narrows() []string {
	l := []string{noughts[:31], noughts + "\x00", noughts + noughts, root + noughts}
	for _, n := range []int{0, 1, 16, 31, 33, 63, 64, 65, 4096, 1 << 16} {
		l = append(l, bytes(n))
	}
	return l
}

// seqs are places at the bounds and beyond, firsts are epochs.
func seqs() []int {
	return []int{least, least + 1, -lastEpoch - 1, -1, 0, 1, 2, 255, 256, 1 << 16, 1<<31 - 1, 1 << 31, lastEpoch - 1, lastEpoch, lastEpoch + 1, lastEpoch + 2, 1 << 40, 1<<62 + 1, most - 1, most}
}

func firsts() []int {
	return []int{least, least + 1, -lastEpoch - 1, -2, -1, 0, 1, 2, 5, 4095, 4096, 1 << 31, lastEpoch - 4097, lastEpoch - 4096, lastEpoch - 2, lastEpoch - 1, lastEpoch, lastEpoch + 1, lastEpoch + 2, lastTime, most - 1, most}
}

func isFirst(n int) bool { return n >= 0 && n <= lastEpoch }

// one is a record of that kind, which may be. In the epoch 0 no epoch is there that may be meant: then it is a release.
func one(kind, epoch, time int) api.Record {
	r := api.Record{Kind: kind, Epoch: epoch, Time: time}
	if epoch == 0 && kind != closed {
		r.Kind = released
	}
	switch r.Kind {
	case closed:
		r.Count, r.Root = time&4095, bytes(32 + time&7)[time&7:]
	case retained, purged:
		r.Target, r.Until = epoch-1, time+3
	case holds:
		r.Target, r.Name = epoch-1, "case"
	case released:
		r.Name = "case"
	}
	return r
}

// row are records by letters, of which each is a kind's: they follow on each other from first on, but for those behind the closure of the last epoch, which are left out.
func row(first int, letters string) []api.Record {
	var l []api.Record
	epoch, time := first, 7
	for _, b := range []byte(letters) {
		if epoch > lastEpoch {
			return l
		}
		r := one(strings.IndexByte("?crhlp", b), epoch, time)
		l = append(l, r)
		if r.Kind == closed {
			epoch++
		}
		time += len(l) % 3
	}
	return l
}

// letters are rows: none, one of each kind, closures behind each other, and amid others.
func letters() []string {
	return []string{"", "c", "r", "h", "l", "p", "cc", "ccc", "ccccccc", "lc", "cl", "rhlp", "crhlp", "rhlpc", "crcchlcp", "llll", "hhcc", "pcpcpc", "clcrchcpcclrhpc"}
}

// chainOf are records of which the epoch of the first is first: a row, and where it begins.
type chainOf struct {
	first int
	l     []api.Record
}

// right are rows that follow, from each first that may be.
func right() []chainOf {
	var all []chainOf
	for _, first := range firsts() {
		if !isFirst(first) {
			continue
		}
		for _, s := range letters() {
			all = append(all, chainOf{first, row(first, s)})
		}
	}
	return all
}

// few are rows for where all would take long.
func few() []chainOf {
	return []chainOf{
		{5, row(5, "")}, {5, row(5, "c")}, {0, row(0, "l")}, {0, row(0, "lcrc")}, {5, row(5, "crhlp")}, {1, row(1, "hhcc")}, {7, row(7, "crcchlcp")},
		{lastEpoch, row(lastEpoch, "rhc")}, {lastEpoch - 2, row(lastEpoch-2, "clccc")}, {lastEpoch, row(lastEpoch, "c")},
	}
}

// wrong are records that may not be, by one thing or by several, of that epoch and time.
func wrong(epoch, time int) []api.Record {
	var l []api.Record
	for kind := closed; kind <= purged; kind++ {
		for _, change := range []func(r *api.Record){
			func(r *api.Record) { r.Kind = 0 },
			func(r *api.Record) { r.Kind = 6 },
			func(r *api.Record) { r.Kind += 256 },
			func(r *api.Record) { r.Kind = -r.Kind },
			func(r *api.Record) { r.Epoch = -1 },
			func(r *api.Record) { r.Epoch = lastEpoch + 1 },
			func(r *api.Record) { r.Epoch = least },
			func(r *api.Record) { r.Epoch = most },
			func(r *api.Record) { r.Time = -1 },
			func(r *api.Record) { r.Time = lastTime + 1 },
			func(r *api.Record) { r.Time = least },
			func(r *api.Record) { r.Time = most },
			func(r *api.Record) { r.Count = -1 },
			func(r *api.Record) { r.Count = lastCount + 1 },
			func(r *api.Record) { r.Target = -1 },
			func(r *api.Record) { r.Target = r.Epoch + 1 },
			func(r *api.Record) { r.Until = -1 },
			func(r *api.Record) { r.Until = lastTime + 1 },
			func(r *api.Record) { r.Root = bytes(31) },
			func(r *api.Record) { r.Root = bytes(33) },
			func(r *api.Record) { r.Name = "A" },
			func(r *api.Record) { r.Name = "a b" },
			func(r *api.Record) { r.Name = "seventeen1letters" },
			func(r *api.Record) { r.Epoch, r.Time, r.Name = -1, -1, "A" },
			func(r *api.Record) { *r = api.Record{} },
		} {
			r := one(kind, epoch, time)
			change(&r)
			l = append(l, r)
		}
	}
	return l
}

// short tells records so that a long row does not fill what is printed.
func short(l []api.Record) string {
	var b strings.Builder
	for i, r := range l {
		if i == 12 {
			return b.String() + fmt.Sprintf("and %d more", len(l)-i)
		}
		fmt.Fprintf(&b, "{%d %d %d %d %d %d %.8q %.20q} ", r.Kind, r.Epoch, r.Time, r.Count, r.Target, r.Until, r.Root, r.Name)
	}
	return b.String()
}

// guarded hands on a row that a part was cut off of, and looks if it, and that part, are as they were.
func guarded[T comparable](t *testing.T, l []T, call func(l []T)) {
	t.Helper()
	var behind T
	whole := append(slices.Clone(l), behind, behind, behind)
	was := slices.Clone(whole)
	call(whole[:len(l)])
	if !slices.Equal(whole, was) {
		t.Fatalf("the row was changed: %v", whole)
	}
}

func saidIs(t *testing.T, was string, seq int, r api.Record) {
	t.Helper()
	w, f := wantSaid(was, seq, r)
	if s, e := chain.Said(was, seq, r); s != w || e != f {
		t.Fatalf("Said(%d bytes %.40x, %d, %s): %x %d, asked %x %d", len(was), was, seq, short([]api.Record{r}), s, e, w, f)
	}
}

func tagIs(t *testing.T, key, was string, seq int, r api.Record) {
	t.Helper()
	w, f := wantTag(key, was, seq, r)
	if s, e := chain.Tag(key, was, seq, r); s != w || e != f {
		t.Fatalf("Tag(%d bytes %.40x, %d bytes %.40x, %d, %s): %x %d, asked %x %d", len(key), key, len(was), was, seq, short([]api.Record{r}), s, e, w, f)
	}
}

// followIs holds Follow against the chapter's words, and tells what was answered.
func followIs(t *testing.T, first int, l []api.Record) api.Errno {
	t.Helper()
	w, n, f := wantFollow(first, l)
	guarded(t, l, func(l []api.Record) {
		if epoch, at, e := chain.Follow(first, l...); epoch != w || at != n || e != f {
			t.Fatalf("Follow(%d, %s): %d %d %d, asked %d %d %d", first, short(l), epoch, at, e, w, n, f)
		}
	})
	return f
}

func sealIs(t *testing.T, root string, first int, l []api.Record) api.Errno {
	t.Helper()
	w, f := wantSeal(root, first, l)
	guarded(t, l, func(l []api.Record) {
		made, e := chain.Seal(root, first, l...)
		if !slices.Equal(made, w) || e != f {
			t.Fatalf("Seal(%d bytes %.40x, %d, %s): %d sealed %d, asked %d %d", len(root), root, first, short(l), len(made), e, len(w), f)
		}
		if slices.Equal(recordsOf(made), l) != (e == api.OK || len(l) == 0) {
			t.Fatalf("Seal(%d, %s): of %d records, %d", first, short(l), len(made), e)
		}
	})
	return f
}

func checkIs(t *testing.T, root string, first int, l []api.Sealed) api.Errno {
	t.Helper()
	w, n, f := wantCheck(root, first, l)
	told(t, root, first, l, w, n, f)
	return f
}

// told holds Check against what is given.
func told(t *testing.T, root string, first int, l []api.Sealed, epoch, place int, err api.Errno) {
	t.Helper()
	guarded(t, l, func(l []api.Sealed) {
		if open, at, e := chain.Check(root, first, l...); open != epoch || at != place || e != err {
			t.Fatalf("Check(%d bytes %.40x, %d, %s): %d %d %d, asked %d %d %d", len(root), root, first, short(recordsOf(l)), open, at, e, epoch, place, err)
		}
	})
}

func lastAndSumAre(t *testing.T, l []api.Sealed) {
	t.Helper()
	guarded(t, l, func(l []api.Sealed) {
		if last, w := chain.Last(l...), wantLast(l); last != w {
			t.Fatalf("Last of %d: %x, asked %x", len(l), last, w)
		}
		if sum, w := chain.Sum(l...), wantSum(l); sum != w {
			t.Fatalf("Sum of %d: %x, asked %x", len(l), sum, w)
		}
	})
}

// forgeIs holds Forge against the chapter's words, and tells if there was something.
func forgeIs(t *testing.T, mine, theirs []api.Sealed, below int) bool {
	t.Helper()
	epoch, said, tag, found := wantForge(mine, theirs, below)
	forged(t, mine, theirs, below, epoch, said, tag, found)
	return found
}

// forged holds Forge against what is given.
func forged(t *testing.T, mine, theirs []api.Sealed, below, epoch int, said, tag string, found bool) {
	t.Helper()
	guarded(t, mine, func(mine []api.Sealed) {
		guarded(t, theirs, func(theirs []api.Sealed) {
			if at, m, by, ok := chain.Forge(mine, theirs, below); at != epoch || m != said || by != tag || ok != found {
				t.Fatalf("Forge(%s, %s, %d): %d %x %x %t, asked %d %x %x %t", short(recordsOf(mine)), short(recordsOf(theirs)), below, at, m, by, ok, epoch, said, tag, found)
			}
		})
	})
}

// seal seals what may be sealed.
func seal(t *testing.T, root string, first int, l []api.Record) []api.Sealed {
	t.Helper()
	made, e := chain.Seal(root, first, l...)
	if e != api.OK {
		t.Fatalf("Seal(%x, %d, %s): %d", root, first, short(l), e)
	}
	return made
}

// with is a row with another one at a place, swapped one with two in the place of each other, without one with one left out, more one with one more, ahead of the one at a place.
func with[T any](l []T, at int, s T) []T {
	l = slices.Clone(l)
	l[at] = s
	return l
}

func swapped[T any](l []T, i, j int) []T {
	l = slices.Clone(l)
	l[i], l[j] = l[j], l[i]
	return l
}

func without[T any](l []T, at int) []T { return slices.Delete(slices.Clone(l), at, at+1) }

func more[T any](l []T, at int, s T) []T { return slices.Insert(slices.Clone(l), at, s) }

// The chapter's example.
func TestExample(t *testing.T) {
	r := api.Record{Kind: api.RecClose, Epoch: 5, Time: 9, Count: 3, Root: bytes(32)}
	if open, n, e := chain.Follow(5, r); open != 6 || n != 1 || e != api.OK {
		t.Errorf("Follow: %d %d %d", open, n, e)
	}
	made := seal(t, root, 5, []api.Record{r})
	if open, n, e := chain.Check(root, 5, made...); open != 6 || n != 1 || e != api.OK {
		t.Errorf("Check: %d %d %d", open, n, e)
	}
}

// byHand is a row from 5 on, under root, with what is said of each, its tag, and the sum so far, worked out by other means.
func byHand() (l []api.Record, said, tags, sums []string) {
	r, s := strings.Repeat("R", 32), strings.Repeat("S", 32)
	l = []api.Record{
		{Kind: api.RecClose, Epoch: 5, Time: 9, Count: 3, Root: r},
		{Kind: api.RecHold, Epoch: 6, Time: 9, Target: 5, Name: "a"},
		{Kind: api.RecRetain, Epoch: 6, Time: 10, Until: 99},
		{Kind: api.RecClose, Epoch: 6, Time: 11, Root: s},
		{Kind: api.RecRelease, Epoch: 7, Time: 11, Name: "a"},
		{Kind: api.RecPurge, Epoch: 7, Time: lastTime, Target: 6, Until: 12},
	}
	said = []string{
		"0000000000000000000000000000000000000000000000000000000000000000 00000000 01 00000005 0000000000000009 00000003 00000000 0000000000000000 00000020 5252525252525252525252525252525252525252525252525252525252525252 00000000",
		"93836adf641d572373d0f9d2cf0cfd33a38736da739014b9ed744ef8404d995c 00000001 03 00000006 0000000000000009 00000000 00000005 0000000000000000 00000000 00000001 61",
		"e5bdf816f5941f49e719035c68894e2d6aa7da4607272d807c8fa3b43ac76d39 00000002 02 00000006 000000000000000a 00000000 00000000 0000000000000063 00000000 00000000",
		"d4ae8654cbe5024829fa0589591c1e0012b159a13931ed763aba1e3ba0855986 00000003 01 00000006 000000000000000b 00000000 00000000 0000000000000000 00000020 5353535353535353535353535353535353535353535353535353535353535353 00000000",
		"f7650133ee2312cc2c6f3ae6071feb35f60736b436f38f90dd42b372eb5e5d35 00000004 04 00000007 000000000000000b 00000000 00000000 0000000000000000 00000000 00000001 61",
		"5f4b151bb5087cab8162c3893eea313347903a3fe1ff6fdb155574ffb48e7a7d 00000005 05 00000007 0000010000000000 00000000 00000006 000000000000000c 00000000 00000000",
	}
	tags = []string{
		"93836adf641d572373d0f9d2cf0cfd33a38736da739014b9ed744ef8404d995c",
		"e5bdf816f5941f49e719035c68894e2d6aa7da4607272d807c8fa3b43ac76d39",
		"d4ae8654cbe5024829fa0589591c1e0012b159a13931ed763aba1e3ba0855986",
		"f7650133ee2312cc2c6f3ae6071feb35f60736b436f38f90dd42b372eb5e5d35",
		"5f4b151bb5087cab8162c3893eea313347903a3fe1ff6fdb155574ffb48e7a7d",
		"ffa50998c4ec8e340a017a36b293fef4e77be697f012dc0878f7a89f9617f85c",
	}
	sums = []string{
		"f9e3ef9521c06435bdd4bca49a2ef7c4320dc65f449b6719b74d59d740adfc68",
		"026d16a64ec2deb6108582677ae89fa8aa9ac7c74013ab41febc37929df592b8",
		"6e0b73a6198120da77383363b647c5a646755f61e4d95fe500e55b755fe9d0cb",
		"9ccff8f1d7345673f2376ad8793f189e463da2dcb57dd26e90dea5cd49117810",
		"44e72356f85075f6b6964b4ced858e7bb980154d31414bcb14bd10c22d16f4de",
		"d07adc9a3cb84eed523ec1256ff8b25ae6a15b34e2ccf732dc52df88160ce0eb",
	}
	return l, said, tags, sums
}

// P20.1 to P20.4: a row that was worked out by other means: what is said, the tags, and the sums.
func TestByHand(t *testing.T) {
	l, said, tags, sums := byHand()
	keys := []string{
		"9f2712ad1776bcec75825fe482a97bb36ef90765cdd7b4c27ec201f167f3cadd",
		"8f6200676a974aaf1225d018cabcda689c877f2febf5eda807d9ff43469c9f8e",
		"268b9ae9582fcdf82e36142698600fb60a3c01c96e31c70f94be393f37840934",
	}
	made := seal(t, root, 5, l)
	for i, r := range l {
		w, tag := hexed(t, said[i]), hexed(t, tags[i])
		was := chain.Last(made[:i]...)
		if s, e := chain.Said(was, i, r); s != w || e != api.OK {
			t.Errorf("Said of %d: %x %d", i, s, e)
		}
		if s, e := chain.Tag(hexed(t, keys[r.Epoch-5]), was, i, r); s != tag || e != api.OK {
			t.Errorf("Tag of %d: %x %d", i, s, e)
		}
		if made[i] != (api.Sealed{Record: r, Tag: tag}) {
			t.Errorf("sealed %d: %v", i, made[i])
		}
		if s := chain.Sum(made[:i+1]...); s != hexed(t, sums[i]) {
			t.Errorf("Sum of %d: %x", i+1, s)
		}
		if s := chain.Last(made[:i+1]...); s != tag {
			t.Errorf("Last of %d: %x", i+1, s)
		}
		if open, n, e := chain.Check(root, 5, made[:i+1]...); open != []int{6, 6, 6, 7, 7, 7}[i] || n != i+1 || e != api.OK {
			t.Errorf("Check of %d: %d %d %d", i+1, open, n, e)
		}
	}
	if s := chain.Sum(); s != hexed(t, "e3b0c44298fc1c149afbf4c8996fb92427ae41e4649b934ca495991b7852b855") {
		t.Errorf("Sum of none: %x", s)
	}
}

// P20.1: Begin, and what is ahead of the first one.
func TestBegin(t *testing.T) {
	if s := chain.Begin(); s != "\x00\x00\x00\x00\x00\x00\x00\x00\x00\x00\x00\x00\x00\x00\x00\x00\x00\x00\x00\x00\x00\x00\x00\x00\x00\x00\x00\x00\x00\x00\x00\x00" {
		t.Errorf("Begin: %x", s)
	}
	if s := chain.Last(); s != chain.Begin() {
		t.Errorf("Last of none: %x", s)
	}
	r := one(closed, 5, 9)
	key, _ := evolve.First(root, 5)
	tag, e := chain.Tag(key, chain.Begin(), 0, r)
	if made := seal(t, root, 5, []api.Record{r}); e != api.OK || len(made) != 1 || made[0].Tag != tag {
		t.Errorf("the first one's tag: %x %d, sealed %v", tag, e, made)
	}
}

// P20.1: Said and Tag at all lengths of keys and tags ahead, all places, and records of each kind that may be.
func TestSaid(t *testing.T) {
	all := append(wides(), narrows()...)
	for kind := closed; kind <= purged; kind++ {
		for _, epoch := range []int{0, 1, 5, 255, lastEpoch} {
			r := one(kind, epoch, 9)
			for _, was := range all {
				for _, seq := range seqs() {
					saidIs(t, was, seq, r)
					tagIs(t, root, was, seq, r)
				}
			}
			for _, key := range all {
				for _, was := range []string{noughts, bytes(32), "", noughts[1:], bytes(33)} {
					for _, seq := range []int{-1, 0, 1, lastEpoch, lastEpoch + 1} {
						tagIs(t, key, was, seq, r)
					}
				}
			}
		}
	}
}

// P20.1: records that may not be, alone and with other things that are wrong.
func TestSaidWrong(t *testing.T) {
	for _, epoch := range []int{0, 5, lastEpoch} {
		for _, r := range wrong(epoch, 9) {
			for _, was := range []string{noughts, bytes(32), "", bytes(31), bytes(33)} {
				for _, seq := range []int{least, -1, 0, 1, lastEpoch, lastEpoch + 1, most} {
					saidIs(t, was, seq, r)
					for _, key := range []string{root, "", root[1:], root + "r"} {
						tagIs(t, key, was, seq, r)
					}
				}
			}
			if s, e := chain.Said(noughts, 0, r); (s != "" || e != api.ErrArg) && !mayBe(r) {
				t.Errorf("Said of %s: %x %d", short([]api.Record{r}), s, e)
			}
			if s, e := chain.Tag(root, noughts, 0, r); (s != "" || e != api.ErrArg) && !mayBe(r) {
				t.Errorf("Tag of %s: %x %d", short([]api.Record{r}), s, e)
			}
		}
	}
}

// P20.1: by hand, what is refused, and what is not.
func TestSaidByHand(t *testing.T) {
	r := one(released, 5, 9)
	bad := r
	bad.Name = "B"
	for _, c := range []struct {
		key, was string
		seq      int
		r        api.Record
		said     api.Errno
		tag      api.Errno
	}{
		{root, noughts, 0, r, api.OK, api.OK},
		{root, root, 1, r, api.OK, api.OK},
		{root, root, lastEpoch, r, api.OK, api.OK},
		{noughts, noughts, 0, r, api.OK, api.OK},
		{root, noughts, lastEpoch + 1, r, api.ErrArg, api.ErrArg},
		{root, noughts, -1, r, api.ErrArg, api.ErrArg},
		{root, noughts, least, r, api.ErrArg, api.ErrArg},
		{root, noughts, most, r, api.ErrArg, api.ErrArg},
		{root, noughts[1:], 0, r, api.ErrArg, api.ErrArg},
		{root, noughts + "\x00", 0, r, api.ErrArg, api.ErrArg},
		{root, "", 0, r, api.ErrArg, api.ErrArg},
		{root, noughts, 0, bad, api.ErrArg, api.ErrArg},
		{root, noughts, 0, api.Record{}, api.ErrArg, api.ErrArg},
		{"", noughts, 0, r, api.OK, api.ErrArg},
		{root[1:], noughts, 0, r, api.OK, api.ErrArg},
		{root + "r", noughts, 0, r, api.OK, api.ErrArg},
		{root + root, noughts, 0, r, api.OK, api.ErrArg},
		{"", "", -1, bad, api.ErrArg, api.ErrArg},
	} {
		s, e := chain.Said(c.was, c.seq, c.r)
		if e != c.said || (s == "") != (e != api.OK) {
			t.Errorf("Said(%x, %d, %v): %x %d", c.was, c.seq, c.r, s, e)
		}
		s, e = chain.Tag(c.key, c.was, c.seq, c.r)
		if e != c.tag || (s == "") != (e != api.OK) || (len(s) == 32) != (e == api.OK) {
			t.Errorf("Tag(%x, %x, %d, %v): %x %d", c.key, c.was, c.seq, c.r, s, e)
		}
	}
}

// P20.1: what is said is unlike, and so is the tag, where one thing is unlike.
func TestSaidApart(t *testing.T) {
	seenSaid, seenTag := map[string]string{}, map[string]string{}
	look := func(key, was string, seq int, r api.Record) {
		what := fmt.Sprint(was, seq, r)
		said, e := chain.Said(was, seq, r)
		tag, f := chain.Tag(key, was, seq, r)
		if e != api.OK || f != api.OK {
			t.Fatalf("%s: %d %d", what, e, f)
		}
		if by, ok := seenSaid[said]; ok && by != what {
			t.Errorf("%s and %s are said alike", by, what)
		}
		if by, ok := seenTag[tag]; ok && by != key+what {
			t.Errorf("%s and %s have one tag", by, key+what)
		}
		seenSaid[said], seenTag[tag] = what, key+what
	}
	for _, r := range append(row(5, "crhlp"), one(released, 0, 0), one(closed, lastEpoch, lastTime)) {
		for _, seq := range []int{0, 1, 2, 256, 1 << 16, 1 << 24, lastEpoch - 1, lastEpoch} {
			for _, key := range wides() {
				for _, was := range wides() {
					look(key, was, seq, r)
				}
			}
		}
		for bit := range 256 {
			look(root, turned(noughts, bit/8, 1<<(bit%8)), 0, r)
			look(turned(root, bit/8, 1<<(bit%8)), noughts, 0, r)
		}
		for bit := range 32 {
			look(root, noughts, 1<<bit, r)
		}
	}
}

// P20.2: rows that follow, from each first; and from each other first than that they do not.
func TestFollow(t *testing.T) {
	for _, c := range right() {
		if e := followIs(t, c.first, c.l); e != api.OK {
			t.Fatalf("a row from %d on: %d", c.first, e)
		}
		for i := range c.l {
			followIs(t, c.first, c.l[:i])
			followIs(t, c.l[i].Epoch, c.l[i:])
		}
		for _, first := range append(firsts(), c.first-1, c.first+1) {
			e := followIs(t, first, c.l)
			if w := api.ErrChain; isFirst(first) && first != c.first && len(c.l) > 0 && e != w {
				t.Fatalf("a row of %d from %d on: %d", c.first, first, e)
			}
			if !isFirst(first) && e != api.ErrArg {
				t.Fatalf("from %d on: %d", first, e)
			}
		}
	}
}

// P20.2: by hand, at the edges of epochs and times.
func TestFollowByHand(t *testing.T) {
	c, l := func(epoch, time int) api.Record { return one(closed, epoch, time) }, func(epoch, time int) api.Record { return one(released, epoch, time) }
	h := func(epoch, time int) api.Record { return one(holds, epoch, time) }
	bad := func(epoch, time int) api.Record { r := one(released, epoch, time); r.Name = ""; return r }
	for _, w := range []struct {
		first     int
		l         []api.Record
		epoch, at int
		e         api.Errno
	}{
		{-1, nil, 0, 0, api.ErrArg},
		{lastEpoch + 1, nil, 0, 0, api.ErrArg},
		{least, nil, 0, 0, api.ErrArg},
		{most, nil, 0, 0, api.ErrArg},
		{-1, []api.Record{c(0, 0)}, 0, 0, api.ErrArg},
		{lastEpoch + 1, []api.Record{c(lastEpoch, 0)}, 0, 0, api.ErrArg},
		{lastEpoch + 1, []api.Record{c(lastEpoch+1, 0)}, 0, 0, api.ErrArg},
		{-1, []api.Record{bad(-1, 0)}, 0, 0, api.ErrArg},
		{0, nil, 0, 0, api.OK},
		{5, nil, 5, 0, api.OK},
		{lastEpoch, nil, lastEpoch, 0, api.OK},
		{0, []api.Record{c(0, 0)}, 1, 1, api.OK},
		{5, []api.Record{c(5, 9)}, 6, 1, api.OK},
		{5, []api.Record{h(5, 9)}, 5, 1, api.OK},
		{5, []api.Record{c(5, lastTime)}, 6, 1, api.OK},
		{5, []api.Record{c(4, 9)}, 5, 0, api.ErrChain},
		{5, []api.Record{c(6, 9)}, 5, 0, api.ErrChain},
		{5, []api.Record{c(5, -1)}, 5, 0, api.ErrChain},
		{5, []api.Record{c(5, lastTime+1)}, 5, 0, api.ErrChain},
		{5, []api.Record{bad(5, 9)}, 5, 0, api.ErrChain},
		{0, []api.Record{c(0, 0), c(1, 0), c(2, 0)}, 3, 3, api.OK},
		{0, []api.Record{c(0, 0), c(0, 0)}, 1, 1, api.ErrChain},
		{0, []api.Record{c(0, 0), c(2, 0)}, 1, 1, api.ErrChain},
		{5, []api.Record{l(5, 9), h(5, 9), c(5, 9)}, 6, 3, api.OK},
		{5, []api.Record{l(5, 9), h(5, 8)}, 5, 1, api.ErrChain},
		{5, []api.Record{l(5, 9), h(5, 10), l(5, 9)}, 5, 2, api.ErrChain},
		{5, []api.Record{l(5, 9), h(5, 10), l(5, 10)}, 5, 3, api.OK},
		{5, []api.Record{c(5, 9), l(6, 8)}, 6, 1, api.ErrChain},
		{5, []api.Record{c(5, 9), l(6, 9)}, 6, 2, api.OK},
		{5, []api.Record{c(5, 9), l(5, 9)}, 6, 1, api.ErrChain},
		{5, []api.Record{l(5, 9), l(6, 9)}, 5, 1, api.ErrChain},
		{5, []api.Record{l(5, 9), bad(5, 9), l(4, 0)}, 5, 1, api.ErrChain},
		{5, []api.Record{c(5, 9), c(6, 9), bad(7, 9)}, 7, 2, api.ErrChain},
		{5, []api.Record{bad(5, 9), c(5, 9)}, 5, 0, api.ErrChain},
		{lastEpoch, []api.Record{l(lastEpoch, 9), h(lastEpoch, 9)}, lastEpoch, 2, api.OK},
		{lastEpoch, []api.Record{c(lastEpoch, 9)}, 1 << 32, 1, api.OK},
		{lastEpoch - 1, []api.Record{c(lastEpoch-1, 9), c(lastEpoch, 9)}, 1 << 32, 2, api.OK},
		{lastEpoch - 1, []api.Record{c(lastEpoch-1, 9)}, lastEpoch, 1, api.OK},
		{lastEpoch, []api.Record{c(lastEpoch, 9), l(lastEpoch, 9)}, 1 << 32, 1, api.ErrChain},
		{lastEpoch, []api.Record{c(lastEpoch, 9), l(lastEpoch+1, 9)}, 1 << 32, 1, api.ErrChain},
		{lastEpoch, []api.Record{c(lastEpoch, 9), c(lastEpoch+1, 9)}, 1 << 32, 1, api.ErrChain},
		{lastEpoch, []api.Record{c(lastEpoch, 9), l(0, 9)}, 1 << 32, 1, api.ErrChain},
		{lastEpoch, []api.Record{c(lastEpoch, 9), c(0, 9)}, 1 << 32, 1, api.ErrChain},
		{lastEpoch, []api.Record{l(lastEpoch, 9), c(lastEpoch, 9), {}}, 1 << 32, 2, api.ErrChain},
	} {
		if epoch, at, e := chain.Follow(w.first, w.l...); epoch != w.epoch || at != w.at || e != w.e {
			t.Errorf("Follow(%d, %s): %d %d %d, asked %d %d %d", w.first, short(w.l), epoch, at, e, w.epoch, w.at, w.e)
		}
		followIs(t, w.first, w.l)
	}
}

// places are the first one of a row, inner ones, and the last one.
func places(n int) []int {
	l := []int{0, 1, n / 2, n - 2, n - 1}
	slices.Sort(l)
	return slices.DeleteFunc(slices.Compact(l), func(i int) bool { return i < 0 || i >= n })
}

// changes are what one thing of a record is turned to: some may be, and follow, and some not.
func changes(r api.Record) []api.Record {
	var l []api.Record
	change := func(set func(r *api.Record)) {
		c := r
		set(&c)
		if c != r {
			l = append(l, c)
		}
	}
	for _, kind := range []int{0, closed, retained, holds, released, purged, 6} {
		change(func(r *api.Record) { r.Kind = kind })
	}
	for _, by := range []int{-256, -3, -2, -1, 1, 2, 3, 256, 1 << 32, lastTime} {
		change(func(r *api.Record) { r.Epoch += by })
		change(func(r *api.Record) { r.Time += by })
		change(func(r *api.Record) { r.Count += by })
		change(func(r *api.Record) { r.Target += by })
		change(func(r *api.Record) { r.Until += by })
	}
	for _, n := range []int{least, -1, 0, 1, lastEpoch, lastTime, most} {
		change(func(r *api.Record) { r.Epoch = n })
		change(func(r *api.Record) { r.Time = n })
		change(func(r *api.Record) { r.Count = n })
		change(func(r *api.Record) { r.Target = n })
		change(func(r *api.Record) { r.Until = n })
	}
	for _, s := range []string{"", "x", bytes(31), noughts, bytes(33)} {
		change(func(r *api.Record) { r.Root = s })
	}
	for _, s := range []string{"", "b", "casf", "case1", "A", bytes(17)} {
		change(func(r *api.Record) { r.Name = s })
	}
	return l
}

// P20.2: rows with one record turned in one thing, at the first, inner and the last places.
func TestFollowTurned(t *testing.T) {
	for _, c := range few() {
		for _, at := range places(len(c.l)) {
			for _, r := range changes(c.l[at]) {
				l := with(c.l, at, r)
				e := followIs(t, c.first, l)
				if epoch, place, f := chain.Follow(c.first, l...); !mayBe(r) && (e != api.ErrChain || f != e || place != at || epoch != c.l[at].Epoch) {
					t.Fatalf("%s: %d %d %d", short(l), epoch, place, f)
				}
			}
		}
	}
}

// P20.2: rows with one record that may not be, that is of another epoch, or of another time, at each place; and two of them.
func TestFollowWrong(t *testing.T) {
	for _, c := range few() {
		// what is wrong tells at which place; a time that is later is wrong at none, but may be at the next one
		type fault struct {
			l  []api.Record
			at int
		}
		var all []fault
		for _, at := range places(len(c.l)) {
			r := c.l[at]
			for _, w := range wrong(r.Epoch, r.Time) {
				if !mayBe(w) {
					all = append(all, fault{with(c.l, at, w), at})
				}
			}
			for kind := closed; kind <= purged; kind++ {
				if r.Epoch > 0 {
					all = append(all, fault{with(c.l, at, one(kind, r.Epoch-1, r.Time)), at})
				}
				if r.Epoch < lastEpoch {
					all = append(all, fault{with(c.l, at, one(kind, r.Epoch+1, r.Time)), at})
				}
			}
			if at > 0 {
				early := r
				early.Time = c.l[at-1].Time - 1
				all = append(all, fault{with(c.l, at, early), at})
			}
		}
		for i, f := range all {
			if e := followIs(t, c.first, f.l); e != api.ErrChain {
				t.Fatalf("%s: %d", short(f.l), e)
			}
			epoch, at, e := chain.Follow(c.first, f.l...)
			if epoch != c.l[f.at].Epoch || at != f.at || e != api.ErrChain {
				t.Fatalf("%s: %d %d %d, asked %d %d", short(f.l), epoch, at, e, c.l[f.at].Epoch, f.at)
			}
			for j := i % 7; j < len(all); j += 7 {
				both := slices.Clone(f.l)
				both[all[j].at] = all[j].l[all[j].at]
				followIs(t, c.first, both)
			}
		}
	}
}

// P20.2: times that go on by nothing, that go on, and that go back, by one and by much.
func TestFollowTimes(t *testing.T) {
	times := []int{0, 1, 8, 9, 10, lastTime - 1, lastTime}
	for _, letters := range []string{"lll", "clp", "ccc", "hcl"} {
		for _, a := range times {
			for _, b := range times {
				for _, c := range times {
					l := row(5, letters)
					l[0].Time, l[1].Time, l[2].Time = a, b, c
					e := followIs(t, 5, l)
					if (e == api.OK) != (a <= b && b <= c) {
						t.Fatalf("%s: %d", short(l), e)
					}
				}
			}
		}
	}
}

// P20.2: rows up to the closure of the last epoch, and records of all kinds and epochs behind it.
func TestFollowLast(t *testing.T) {
	for by := range 5 {
		first := lastEpoch - by
		l := row(first, strings.Repeat("hc", by+1))
		if epoch, n, e := chain.Follow(first, l...); epoch != 4294967296 || n != 2*(by+1) || e != api.OK {
			t.Fatalf("from %d on: %d %d %d", first, epoch, n, e)
		}
		for kind := closed; kind <= purged; kind++ {
			for _, epoch := range []int{least, -1, 0, 1, first, lastEpoch - 1, lastEpoch, lastEpoch + 1, lastEpoch + 2, most} {
				behind := append(slices.Clone(l), one(kind, epoch, lastTime))
				followIs(t, first, behind)
				if at, n, e := chain.Follow(first, behind...); at != 4294967296 || n != len(l) || e != api.ErrChain {
					t.Fatalf("%d of %d behind the last closure: %d %d %d", kind, epoch, at, n, e)
				}
				checkIs(t, root, first, append(seal(t, root, first, l), api.Sealed{Record: one(kind, epoch, lastTime), Tag: noughts}))
			}
		}
		if by < 3 {
			sealIs(t, root, first, l)
			told(t, root, first, seal(t, root, first, l), 4294967296, len(l), api.OK)
		}
	}
}

// P20.3, P20.6: Seal of each row that follows, and that it is right, with the open epoch and how many they are.
func TestSeal(t *testing.T) {
	for i, c := range right() {
		root := wides()[i%4]
		if e := sealIs(t, root, c.first, c.l); e != api.OK {
			t.Fatalf("Seal(%d, %s): %d", c.first, short(c.l), e)
		}
		made := seal(t, root, c.first, c.l)
		checkIs(t, root, c.first, made)
		told(t, root, c.first, made, openBehind(c.first, c.l), len(c.l), api.OK)
		lastAndSumAre(t, made)
		was := chain.Begin()
		for seq, s := range made {
			key, _ := evolve.At(root, c.first, s.Record.Epoch)
			tag, e := chain.Tag(key, was, seq, c.l[seq])
			if s.Tag != tag || e != api.OK || s.Record != c.l[seq] {
				t.Fatalf("sealed %d of %s: %x, asked %x %d", seq, short(c.l), s.Tag, tag, e)
			}
			was = s.Tag
			told(t, root, c.first, made[:seq], s.Record.Epoch, seq, api.OK)
		}
	}
}

// P20.3: each row under roots of all lengths, from each first; of several errors that of the root is told.
func TestRoots(t *testing.T) {
	for _, c := range few() {
		made := seal(t, root, c.first, c.l)
		for _, by := range append(wides(), narrows()...) {
			for _, first := range append(firsts(), c.first) {
				e := sealIs(t, by, first, c.l)
				checkIs(t, by, first, made)
				if len(by) != 32 {
					told(t, by, first, made, 0, 0, api.ErrArg)
				}
				if (len(by) != 32 || !isFirst(first)) && e != api.ErrArg {
					t.Fatalf("Seal(%d bytes, %d): %d", len(by), first, e)
				}
			}
			if by != root && len(by) == 32 && len(c.l) > 0 {
				told(t, by, c.first, made, c.first, 0, api.ErrTag)
			}
			if len(by) != 32 {
				told(t, by, c.first, with(append(made, api.Sealed{}), 0, api.Sealed{}), 0, 0, api.ErrArg)
				sealIs(t, by, c.first, append(slices.Clone(c.l), api.Record{}))
			}
		}
	}
}

// P20.3: rows that do not follow, with tags as they were, without any, and with the first one wrong.
func TestSealWrong(t *testing.T) {
	for _, c := range few() {
		made := seal(t, root, c.first, c.l)
		for _, at := range places(len(c.l)) {
			r := c.l[at]
			faults := append(wrong(r.Epoch, r.Time), one(closed, r.Epoch+1, r.Time), one(released, r.Epoch-1, r.Time))
			if at > 0 {
				early := r
				early.Time = c.l[at-1].Time - 1
				faults = append(faults, early)
			}
			for _, w := range faults {
				l := with(c.l, at, w)
				e := sealIs(t, root, c.first, l)
				sealed := slices.Clone(made)
				sealed[at].Record = w
				if f := checkIs(t, root, c.first, sealed); f != e && !(e == api.OK && f == api.ErrTag) {
					t.Fatalf("%s: %d %d", short(l), e, f)
				}
				if e == api.OK {
					continue
				}
				// a wrong tag ahead of it is told behind it
				sealed[0].Tag = turned(sealed[0].Tag, 0, 1)
				checkIs(t, root, c.first, sealed)
				if !mayBe(w) {
					told(t, root, c.first, sealed, r.Epoch, at, api.ErrChain)
				}
			}
		}
	}
}

// closures are so many of them, and a row of letters behind.
func closures(first, n int, letters string) []api.Record {
	return row(first, strings.Repeat("c", n)+letters)
}

// P20.3: records up to 4096 epochs beyond the first, and one more.
func TestLimit(t *testing.T) {
	for _, first := range []int{0, 5, lastEpoch - 4097} {
		for _, c := range []struct {
			closures int
			behind   string
			e        api.Errno
		}{
			{4095, "lc", api.OK}, {4096, "", api.OK}, {4096, "l", api.OK}, {4096, "rhlpc", api.OK}, {4097, "", api.OK},
			{4096, "lcl", api.ErrLimit}, {4097, "l", api.ErrLimit}, {4097, "r", api.ErrLimit}, {4097, "c", api.ErrLimit}, {4097, "hlp", api.ErrLimit}, {4098, "", api.ErrLimit},
		} {
			l := closures(first, c.closures, c.behind)
			if e := sealIs(t, root, first, l); e != c.e {
				t.Fatalf("Seal of %d closures and %q from %d on: %d", c.closures, c.behind, first, e)
			}
			if c.e == api.OK {
				told(t, root, first, sealAll(root, first, l), openBehind(first, l), len(l), api.OK)
			} else {
				told(t, root, first, sealAll(root, first, l), first, 0, api.ErrLimit)
			}
		}
	}
	// from here on the last epoch is not too far
	const first = lastEpoch - 4096
	l := closures(first, 4097, "")
	sealed := seal(t, root, first, l)
	told(t, root, first, sealed, 1<<32, 4097, api.OK)
	told(t, root, first, append(sealed, api.Sealed{Record: one(released, lastEpoch, lastTime)}), 1<<32, 4097, api.ErrChain)
	sealIs(t, root, first, append(l, one(released, lastEpoch+1, lastTime)))
}

// P20.3: several errors at once, beyond the limit: the root's first, then that a record does not follow, then the limit, then the tag.
func TestLimitAndOthers(t *testing.T) {
	const first = 5
	l := closures(first, 4097, "ll")
	sealed := sealAll(root, first, l)
	last := len(l) - 1
	told(t, root, first, sealed, first, 0, api.ErrLimit)
	for _, at := range []int{0, 1, 2000, last} {
		forged := slices.Clone(sealed)
		forged[at].Tag = noughts
		told(t, root, first, forged, first, 0, api.ErrLimit)
		for _, by := range []string{"", root[1:], root + "r"} {
			told(t, by, first, forged, 0, 0, api.ErrArg)
			sealIs(t, by, first, l)
		}
	}
	for _, at := range []int{0, 1, 2000, 4096, 4097, last} {
		broken := slices.Clone(sealed)
		broken[at].Record.Root = "x"
		broken[0].Tag = ""
		told(t, root, first, broken, l[at].Epoch, at, api.ErrChain)
		told(t, root[1:], first, broken, 0, 0, api.ErrArg)
		told(t, root, -1, broken, 0, 0, api.ErrArg)
		if made, e := chain.Seal(root, first, recordsOf(broken)...); len(made) != 0 || e != api.ErrChain {
			t.Fatalf("Seal of a row that breaks at %d: %d %d", at, len(made), e)
		}
	}
	told(t, root, -1, sealed, 0, 0, api.ErrArg)
	told(t, root, lastEpoch+1, sealed, 0, 0, api.ErrArg)
	told(t, root, first+1, sealed, first+1, 0, api.ErrChain)
}

// P20.3: one tag turned in one bit, or of another length: told with its place, and the open epoch ahead of it.
func TestTagTurned(t *testing.T) {
	for _, c := range few() {
		made := seal(t, root, c.first, c.l)
		for at, s := range made {
			set := func(tag string) {
				forged := slices.Clone(made)
				forged[at].Tag = tag
				told(t, root, c.first, forged, s.Record.Epoch, at, api.ErrTag)
				checkIs(t, root, c.first, forged)
				told(t, root, c.first, forged[:at], s.Record.Epoch, at, api.OK)
			}
			for bit := range 256 {
				if len(made) < 5 || bit%8 == at%8 {
					set(turned(s.Tag, bit/8, 1<<(bit%8)))
				}
			}
			for _, tag := range []string{"", "x", s.Tag[:31], s.Tag[1:], s.Tag + "\x00", s.Tag + s.Tag, noughts, bytes(32), bytes(4096)} {
				set(tag)
			}
			for j, other := range made {
				if j != at {
					set(other.Tag)
				}
			}
		}
	}
}

// P20.3: two tags and more that are wrong: the first one is told.
func TestTagsTurned(t *testing.T) {
	for _, c := range few() {
		made := seal(t, root, c.first, c.l)
		for i := range made {
			for j := i + 1; j < len(made); j++ {
				forged := slices.Clone(made)
				forged[i].Tag, forged[j].Tag = noughts, noughts
				told(t, root, c.first, forged, made[i].Record.Epoch, i, api.ErrTag)
				forged[j].Record.Time = -1
				told(t, root, c.first, forged, made[j].Record.Epoch, j, api.ErrChain)
			}
		}
	}
}

// P20.3: one thing of one record turned, with the tags as they were: what still follows has a wrong tag there.
func TestRecordTurned(t *testing.T) {
	turns := 0
	for _, c := range few() {
		made := seal(t, root, c.first, c.l)
		for _, at := range places(len(made)) {
			for _, r := range changes(made[at].Record) {
				forged := slices.Clone(made)
				forged[at].Record = r
				checkIs(t, root, c.first, forged)
				if _, _, e := wantFollow(c.first, recordsOf(forged)); e == api.OK {
					told(t, root, c.first, forged, made[at].Record.Epoch, at, api.ErrTag)
					turns++
				}
			}
		}
	}
	if turns < 100 {
		t.Errorf("only %d rows followed", turns)
	}
}

// P20.3: two records, or two tags, or both, in the place of each other; one left out; one more.
func TestMoved(t *testing.T) {
	for _, c := range few() {
		made := seal(t, root, c.first, c.l)
		for i := range made {
			for j := range i {
				checkIs(t, root, c.first, swapped(made, j, i))
				sealIs(t, root, c.first, swapped(c.l, j, i))
				records := slices.Clone(made)
				records[i].Record, records[j].Record = records[j].Record, records[i].Record
				if e := checkIs(t, root, c.first, records); e == api.OK && made[i].Record != made[j].Record {
					t.Fatalf("%s, with %d and %d moved, is right", short(c.l), j, i)
				}
				tags := slices.Clone(made)
				tags[i].Tag, tags[j].Tag = tags[j].Tag, tags[i].Tag
				told(t, root, c.first, tags, made[j].Record.Epoch, j, api.ErrTag)
			}
			e := checkIs(t, root, c.first, without(made, i))
			if (e == api.OK) != (i == len(made)-1) {
				t.Fatalf("%s without %d: %d", short(c.l), i, e)
			}
			sealIs(t, root, c.first, without(c.l, i))
		}
		for at := range len(made) + 1 {
			for _, s := range append(slices.Clone(made), api.Sealed{}, api.Sealed{Record: one(released, c.first, 7), Tag: noughts}, api.Sealed{Record: one(closed, c.first+1, 9)}) {
				if e := checkIs(t, root, c.first, more(made, at, s)); e == api.OK {
					t.Fatalf("%s, with one more at %d, is right", short(c.l), at)
				}
				sealIs(t, root, c.first, more(c.l, at, s.Record))
			}
		}
	}
}

// P20.3: a row is right under its own root, and from its own first epoch on, alone, and each piece of it that begins later is not.
func TestOwn(t *testing.T) {
	for _, c := range few() {
		made := seal(t, root, c.first, c.l)
		for i := 1; i < len(made); i++ {
			first := made[i].Record.Epoch
			told(t, root, first, made[i:], first, 0, api.ErrTag)
			key, _ := evolve.At(root, c.first, first)
			told(t, key, first, made[i:], first, 0, api.ErrTag)
		}
		for bit := range 256 {
			if len(made) > 0 && bit%5 == 0 {
				told(t, turned(root, bit/8, 1<<(bit%8)), c.first, made, c.first, 0, api.ErrTag)
			}
		}
	}
}

// P20.4: Last and Sum of none, one and many, with tags of all lengths, whatever the records are.
func TestLastAndSum(t *testing.T) {
	lastAndSumAre(t, nil)
	lastAndSumAre(t, []api.Sealed{})
	if s := chain.Last(); s != noughts {
		t.Errorf("Last of none: %x", s)
	}
	var l []api.Sealed
	for i, tag := range append(wides(), append(narrows(), "", "", "a")...) {
		lastAndSumAre(t, []api.Sealed{{Tag: tag}})
		l = append(l, api.Sealed{Record: one(i%6, i, i), Tag: tag})
		lastAndSumAre(t, l)
		if s := chain.Last(l...); s != tag {
			t.Errorf("Last of %d: %.40x", len(l), s)
		}
		if s, ahead := chain.Sum(l...), chain.Sum(l[:i]...); s != summed(ahead+tag) || len(s) != 32 {
			t.Errorf("Sum of %d: %x", len(l), s)
		}
	}
	for i := range l {
		lastAndSumAre(t, l[i:])
		lastAndSumAre(t, without(l, i))
	}
	// the records are not in the sum
	for i := range l {
		other := slices.Clone(l)
		other[i].Record = api.Record{}
		if chain.Sum(other...) != chain.Sum(l...) {
			t.Errorf("the sum hangs on the record %d", i)
		}
	}
}

// P20.8: rows with unlike tags have unlike sums: also where all tags, one behind the other, are the same bytes.
func TestSumsApart(t *testing.T) {
	seen := map[string]string{}
	look := func(tags ...string) {
		var l []api.Sealed
		for _, tag := range tags {
			l = append(l, api.Sealed{Tag: tag})
		}
		sum, what := chain.Sum(l...), fmt.Sprintf("%q", tags)
		if by, ok := seen[sum]; ok && by != what {
			t.Errorf("%.60s and %.60s have one sum", by, what)
		}
		seen[sum] = what
		lastAndSumAre(t, l)
	}
	pieces := []string{"", "a", "b", "ab", "aa", "\x00", noughts, bytes(32), summed(""), summed("") + "a", summed(summed("") + "a")}
	look()
	for _, a := range pieces {
		look(a)
		for _, b := range pieces {
			look(a, b)
			for _, c := range pieces {
				look(a, b, c)
			}
		}
	}
	if len(seen) != 1+11+11*11+11*11*11 {
		t.Errorf("%d rows", len(seen))
	}
	for _, c := range few() {
		made := seal(t, root, c.first, c.l)
		for at := range made {
			for bit := range 256 {
				forged := slices.Clone(made)
				forged[at].Tag = turned(forged[at].Tag, bit/8, 1<<(bit%8))
				if chain.Sum(forged...) == chain.Sum(made...) {
					t.Fatalf("the sum does not hang on the tag %d", at)
				}
			}
			for _, l := range [][]api.Sealed{made[:at], made[at+1:], without(made, at), more(made, at, made[at])} {
				if chain.Sum(l...) == chain.Sum(made...) {
					t.Fatalf("a piece of %d has the sum of %d", len(l), len(made))
				}
			}
			for j := range at {
				if chain.Sum(swapped(made, at, j)...) == chain.Sum(made...) {
					t.Fatalf("%d and %d may be moved", j, at)
				}
			}
		}
	}
}

// belows are those about an epoch, at nought, and at the ends.
func belows(epoch int) []int {
	return []int{least, -1, 0, 1, epoch - 1, epoch, epoch + 1, epoch + 2, lastEpoch, lastEpoch + 1, most}
}

// forgeAll holds Forge of two rows at all belows about the epoch at which they part, both ways.
func forgeAll(t *testing.T, mine, theirs []api.Sealed) {
	t.Helper()
	for range 2 {
		epoch := 0
		if at := common(mine, theirs); at < len(theirs) {
			epoch = theirs[at].Record.Epoch
		}
		for _, below := range belows(epoch) {
			forgeIs(t, mine, theirs, below)
		}
		mine, theirs = theirs, mine
	}
}

// P20.5: rows that are the same, of which one is the other's front, and of none.
func TestForgeSame(t *testing.T) {
	for _, c := range few() {
		made := seal(t, root, c.first, c.l)
		for i := range len(made) + 1 {
			for _, below := range belows(c.first + 1) {
				forged(t, made, made[:i], below, 0, "", "", false)
				forged(t, made[:i], made[:i], below, 0, "", "", false)
				forged(t, made, nil, below, 0, "", "", false)
				forged(t, nil, nil, below, 0, "", "", false)
			}
			forgeAll(t, made[:i], made)
			if i == len(made) {
				continue
			}
			// behind mine's end theirs' first one is told
			s := made[i]
			said, _ := wantSaid(chain.Last(made[:i]...), i, s.Record)
			forged(t, made[:i], made, s.Record.Epoch+1, s.Record.Epoch, said, s.Tag, true)
			forged(t, made[:i], made[:i+1], most, s.Record.Epoch, said, s.Tag, true)
			forged(t, made[:i], made, s.Record.Epoch, 0, "", "", false)
			forged(t, made[:i], made, 0, 0, "", "", false)
			forged(t, made[:i], made, least, 0, "", "", false)
		}
	}
}

// P20.5: rows that part by the record alone, by the tag alone, and by both, at each place; behind it they are the same, or not, or end.
func TestForgeApart(t *testing.T) {
	for _, c := range few() {
		made := seal(t, root, c.first, c.l)
		for at, s := range made {
			other := s.Record
			other.Time++
			for _, w := range []api.Sealed{{Record: other, Tag: s.Tag}, {Record: s.Record, Tag: noughts}, {Record: other, Tag: bytes(32)}, {Record: s.Record, Tag: ""}, {Record: other, Tag: bytes(31)}, {Record: s.Record, Tag: s.Tag + "\x00"}, {Record: s.Record, Tag: turned(s.Tag, 31, 128)}} {
				theirs := with(made, at, w)
				said, e := wantSaid(chain.Last(made[:at]...), at, w.Record)
				if e != api.OK {
					t.Fatal(e)
				}
				epoch := s.Record.Epoch
				for _, row := range [][]api.Sealed{theirs, theirs[:at+1], append(slices.Clone(theirs), w, w), with(theirs, len(theirs)-1, w), append(slices.Clone(theirs[:at+1]), api.Sealed{}, api.Sealed{})} {
					forgeAll(t, made, row)
					forged(t, made, row, epoch+1, epoch, said, w.Tag, true)
					forged(t, made, row, most, epoch, said, w.Tag, true)
					forged(t, made, row, epoch, 0, "", "", false)
					forged(t, made, row, epoch-1, 0, "", "", false)
					forged(t, made, row, 0, 0, "", "", false)
					forged(t, made, row, least, 0, "", "", false)
					forged(t, made[:at], row, epoch+1, epoch, said, w.Tag, true)
				}
			}
		}
	}
}

// P20.5: each thing of a record, turned, parts the rows: the rows are held against each other whole.
func TestForgeTurned(t *testing.T) {
	for _, c := range few() {
		made := seal(t, root, c.first, c.l)
		for _, at := range places(len(made)) {
			for _, r := range changes(made[at].Record) {
				theirs := slices.Clone(made)
				theirs[at].Record = r
				forgeAll(t, made, theirs)
				if !mayBe(r) {
					forged(t, made, theirs, most, 0, "", "", false)
					forged(t, made[:at], theirs, most, 0, "", "", false)
				}
			}
		}
	}
}

// P20.5: a record of which nothing can be said, or a tag ahead that has not 32 bytes: then nothing is told, be there one farther on of which something could.
func TestForgeNothingSaid(t *testing.T) {
	for _, c := range few() {
		made := seal(t, root, c.first, c.l)
		for at, s := range made {
			for _, w := range wrong(s.Record.Epoch, s.Record.Time) {
				theirs := slices.Clone(made)
				theirs[at].Record = w
				if at+1 < len(theirs) {
					theirs[at+1].Tag = noughts
				}
				forgeIs(t, made, theirs, s.Record.Epoch+1)
				if !mayBe(w) {
					forged(t, made, theirs, most, 0, "", "", false)
					forged(t, made[:at], theirs[:at+1], most, 0, "", "", false)
				}
			}
			if at == 0 {
				continue
			}
			for _, was := range narrows() {
				// the tag ahead is the same in both, so that they part here
				mine, theirs := slices.Clone(made), slices.Clone(made)
				mine[at-1].Tag, theirs[at-1].Tag = was, was
				theirs[at].Tag = noughts
				forged(t, mine, theirs, most, 0, "", "", false)
				forged(t, mine[:at], theirs, most, 0, "", "", false)
				// it is theirs alone, so that they part one ahead of here
				ahead := made[at-1].Record
				said, _ := wantSaid(chain.Last(made[:at-1]...), at-1, ahead)
				forged(t, made, theirs, most, ahead.Epoch, said, was, true)
				forged(t, made, theirs, ahead.Epoch, 0, "", "", false)
			}
			for _, was := range wides() {
				mine, theirs := slices.Clone(made), slices.Clone(made)
				mine[at-1].Tag, theirs[at-1].Tag = was, was
				theirs[at].Tag = noughts
				said, _ := wantSaid(was, at, s.Record)
				forged(t, mine, theirs, most, s.Record.Epoch, said, noughts, true)
			}
		}
	}
}

// P20.5: records of epochs at the ends, and such as are beyond.
func TestForgeEpochs(t *testing.T) {
	for _, epoch := range firsts() {
		for kind := closed; kind <= purged; kind++ {
			theirs := []api.Sealed{{Record: one(kind, epoch, 9), Tag: bytes(32)}, {Record: one(released, 5, 9), Tag: bytes(32)}}
			for _, below := range append(belows(epoch), firsts()...) {
				forgeIs(t, nil, theirs, below)
				forgeIs(t, []api.Sealed{{}}, theirs, below)
				forgeIs(t, []api.Sealed{theirs[0], {}}, theirs, below)
				forgeIs(t, theirs[1:], theirs, below)
			}
		}
	}
}

// walk is a row that follows, of so many records, the first ones as given, the rest at random.
func walk(r *rand.Rand, first, n int, from []api.Record) []api.Record {
	l := slices.Clone(from)
	time, epoch := 0, openBehind(first, l)
	if len(l) > 0 {
		time = l[len(l)-1].Time
	}
	for len(l) < n && epoch <= lastEpoch {
		time += r.Intn(3)
		one := one([]int{closed, closed, retained, holds, released, purged}[r.Intn(6)], epoch, time)
		if one.Kind == closed {
			one.Count = r.Intn(3)
			epoch++
		}
		l = append(l, one)
	}
	return l
}

// sound holds P20.7 of two rows that are right, and both have closed all epochs below one.
func sound(t *testing.T, root string, first int, mine, theirs []api.Sealed, below int) (parted bool) {
	t.Helper()
	of := func(l []api.Sealed) []api.Sealed {
		return slices.DeleteFunc(slices.Clone(l), func(s api.Sealed) bool { return s.Record.Epoch >= below })
	}
	epoch, said, tag, found := chain.Forge(mine, theirs, below)
	if slices.Equal(of(mine), of(theirs)) {
		if found || epoch != 0 || said != "" || tag != "" {
			t.Fatalf("two rows that are the same below %d: %d %x %x %t", below, epoch, said, tag, found)
		}
		return false
	}
	if !found || epoch < first || epoch >= below {
		t.Fatalf("two rows that are not the same below %d: %d %t", below, epoch, found)
	}
	key, e := evolve.At(root, first, epoch)
	if e != api.OK || library(macOf(key), said) != tag {
		t.Fatalf("what is told has not its tag under the key of %d: %x %x", epoch, said, tag)
	}
	for i, s := range mine {
		if by, e := chain.Said(chain.Last(mine[:i]...), i, s.Record); by == said || e != api.OK {
			t.Fatalf("what is told is said of mine's %d: %x", i, said)
		}
	}
	return true
}

// P20.7: two right rows, that part somewhere, below each epoch that both have closed.
func TestSound(t *testing.T) {
	r := rand.New(rand.NewSource(20))
	parted, same := 0, 0
	for i := range 1500 {
		first := []int{0, 5, 1 << 31, lastEpoch - 3, lastEpoch}[r.Intn(5)]
		root := wides()[i%4]
		front := walk(r, first, r.Intn(6), nil)
		mine := seal(t, root, first, walk(r, first, len(front)+r.Intn(8), front))
		theirs := seal(t, root, first, walk(r, first, len(front)+r.Intn(8), front))
		closed := min(openBehind(first, recordsOf(mine)), openBehind(first, recordsOf(theirs)))
		for below := first; below <= closed; below++ {
			for _, pair := range [][2][]api.Sealed{{mine, theirs}, {theirs, mine}} {
				if sound(t, root, first, pair[0], pair[1], below) {
					parted++
				} else {
					same++
				}
			}
		}
		forgeAll(t, mine, theirs)
	}
	if parted < 500 || same < 500 {
		t.Errorf("%d rows parted, %d did not", parted, same)
	}
}

// P20.7: of one row with one record more, one less, or another one, sealed again, at each place.
func TestSoundByOne(t *testing.T) {
	for _, c := range few() {
		mine := seal(t, root, c.first, c.l)
		var others [][]api.Record
		for at, r := range c.l {
			others = append(others, without(c.l, at), more(c.l, at, r), more(c.l, at, one(released, r.Epoch, r.Time)), with(c.l, at, one(r.Kind, r.Epoch, r.Time+1)))
			for _, o := range changes(r) {
				others = append(others, with(c.l, at, o))
			}
		}
		for _, l := range others {
			if _, _, e := wantFollow(c.first, l); e != api.OK {
				continue
			}
			theirs := seal(t, root, c.first, l)
			for below := c.first; below <= min(openBehind(c.first, c.l), openBehind(c.first, l)); below++ {
				sound(t, root, c.first, mine, theirs, below)
				sound(t, root, c.first, theirs, mine, below)
			}
		}
	}
}

// P1: what is refused tells the empty row, empty texts and noughts.
func TestRefused(t *testing.T) {
	l := row(5, "crhlp")
	bad := with(l, 4, api.Record{})
	empty := func(what string, made []api.Sealed, e, f api.Errno) {
		t.Helper()
		if len(made) != 0 || e != f {
			t.Errorf("%s: %v %d, asked %d", what, made, e, f)
		}
	}
	made, e := chain.Seal("", 5, l...)
	empty("no root", made, e, api.ErrArg)
	made, e = chain.Seal(root, -1, l...)
	empty("no first", made, e, api.ErrArg)
	made, e = chain.Seal(root, 6, l...)
	empty("another first", made, e, api.ErrChain)
	made, e = chain.Seal(root, 5, bad...)
	empty("a record that may not be", made, e, api.ErrChain)
	made, e = chain.Seal(root, 5, closures(5, 4098, "")...)
	empty("too far", made, e, api.ErrLimit)
	for _, first := range firsts() {
		if epoch, at, e := chain.Follow(first, l...); !isFirst(first) && (epoch != 0 || at != 0 || e != api.ErrArg) {
			t.Errorf("Follow(%d): %d %d %d", first, epoch, at, e)
		}
		if epoch, at, e := chain.Check("", first); epoch != 0 || at != 0 || e != api.ErrArg {
			t.Errorf("Check without a root, from %d on: %d %d %d", first, epoch, at, e)
		}
		if epoch, at, e := chain.Check(root, first); !isFirst(first) && (epoch != 0 || at != 0 || e != api.ErrArg) || isFirst(first) && (epoch != first || at != 0 || e != api.OK) {
			t.Errorf("Check of none, from %d on: %d %d %d", first, epoch, at, e)
		}
		made, e = chain.Seal(root, first)
		if w := api.ErrArg; isFirst(first) {
			empty("none", made, e, api.OK)
		} else {
			empty("none, of no first", made, e, w)
		}
	}
}

// P1, P2: what a call answers hangs on its arguments alone, and is the caller's own.
func TestAgain(t *testing.T) {
	l := row(5, "crcchlcp")
	w := seal(t, root, 5, l)
	mine := slices.Clone(w)
	for i := range 30 {
		made := seal(t, root, 5, l)
		if !slices.Equal(made, w) {
			t.Fatalf("sealed again, it is something else")
		}
		made[i%len(made)] = api.Sealed{}
		_ = append(made[:i%len(made)], api.Sealed{Tag: "x"})
		chain.Seal(noughts, i, row(i, "chl")...)
		chain.Seal("", 5, l...)
		chain.Seal(root, 6, l...)
		chain.Check(root, 5, made...)
		chain.Follow(-i, l...)
		chain.Said("", i, l[0])
		chain.Forge(made, w, i)
		told(t, root, 5, w, 9, len(l), api.OK)
		forged(t, w, w, most, 0, "", "", false)
		lastAndSumAre(t, w)
		if !slices.Equal(w, mine) {
			t.Fatalf("what was answered has been changed")
		}
	}
}

// anySealed is a row that mostly follows, with mostly right tags, with one or two faults in it.
func anySealed(r *rand.Rand, root string, first int) []api.Sealed {
	l := walk(r, first, r.Intn(14), nil)
	if r.Intn(3) == 0 && len(l) > 0 {
		at := r.Intn(len(l))
		all := append(changes(l[at]), wrong(l[at].Epoch, l[at].Time)...)
		l[at] = all[r.Intn(len(all))]
	}
	sealed, e := wantSeal(root, first, l)
	if e != api.OK {
		for _, record := range l {
			sealed = append(sealed, api.Sealed{Record: record, Tag: bytes(30 + r.Intn(4))})
		}
	}
	for range r.Intn(4) / 2 {
		if len(sealed) == 0 {
			return sealed
		}
		at := r.Intn(len(sealed))
		switch r.Intn(4) {
		case 0:
			sealed = without(sealed, at)
		case 1:
			sealed = more(sealed, at, sealed[r.Intn(len(sealed))])
		case 2:
			sealed[at].Tag = narrows()[r.Intn(len(narrows()))]
		case 3:
			sealed[at].Tag = turned(bytes(32), r.Intn(32), 1)
		}
	}
	return sealed
}

// P20.1 to P20.8: rows at random, right and wrong.
func TestRandom(t *testing.T) {
	r := rand.New(rand.NewSource(20))
	for i := range 2500 {
		root := append(wides(), narrows()...)[r.Intn(4+i%2)]
		first := []int{0, 1, 5, lastEpoch - 2, lastEpoch, r.Intn(lastEpoch + 1), firsts()[r.Intn(len(firsts()))]}[r.Intn(7)]
		mine, theirs := anySealed(r, root, first), anySealed(r, root, first)
		for _, l := range [][]api.Sealed{mine, theirs} {
			followIs(t, first, recordsOf(l))
			sealIs(t, root, first, recordsOf(l))
			checkIs(t, root, first, l)
			lastAndSumAre(t, l)
			for seq, s := range l {
				saidIs(t, chain.Last(l[:seq]...), seq, s.Record)
				tagIs(t, root, chain.Last(l[:seq]...), seq, s.Record)
			}
		}
		if n := r.Intn(len(mine) + 1); r.Intn(2) == 0 {
			theirs = append(slices.Clone(mine[:n]), theirs[min(n, len(theirs)):]...)
		}
		forgeAll(t, mine, theirs)
	}
}

// P1: no call panics, and all of it is as the chapter says, at whatever bytes and numbers.
func FuzzCalls(f *testing.F) {
	for i, n := range append(firsts(), seqs()...) {
		f.Add(root, noughts, n, i, "clrhp", closed+i%5, n, n, i, n, bytes(32), "case")
		f.Add(root, root[:i%33], 5, n, "crcchlcp", closed+i%5, 6, 70, i, 5, "", "a")
		f.Add(root[:i%33], noughts, n, 1<<i, "cccc", released, n, 9, 0, n, "", "")
	}
	f.Fuzz(func(t *testing.T, root, was string, first, n int, letters string, kind, epoch, time, count, target int, hash, name string) {
		r := api.Record{Kind: kind, Epoch: epoch, Time: time, Count: count, Target: target, Until: count, Root: hash, Name: name}
		letters = strings.Map(func(b rune) rune { return []rune("crhlp")[uint(b)%5] }, letters[:min(len(letters), 40)])
		for _, root := range []string{root, (root + noughts)[:32]} {
			for _, first := range []int{first, first & lastEpoch} {
				saidIs(t, was, n, r)
				tagIs(t, root, was, n, r)
				l := row(first&lastEpoch, letters)
				sealed := sealAll((root + noughts)[:32], first&lastEpoch, l)
				fuzzRow(t, root, first, l, sealed, sealed)
				at := int(uint(n) % uint(len(l)+1))
				fuzzRow(t, root, first, more(l, at, r), more(sealed, at, api.Sealed{Record: r, Tag: was}), sealed)
				if at < len(l) {
					fuzzRow(t, root, first, with(l, at, r), with(sealed, at, api.Sealed{Record: r, Tag: was}), sealed)
					fuzzRow(t, root, first, without(l, at), without(sealed, at), sealed)
				}
				for _, below := range []int{n, first, epoch} {
					forgeIs(t, sealed, more(sealed, at, api.Sealed{Record: r, Tag: was}), below)
				}
			}
		}
	})
}

func fuzzRow(t *testing.T, root string, first int, l []api.Record, sealed, mine []api.Sealed) {
	t.Helper()
	followIs(t, first, l)
	sealIs(t, root, first, l)
	checkIs(t, root, first, sealed)
	lastAndSumAre(t, sealed)
	forgeAll(t, mine, sealed)
}
