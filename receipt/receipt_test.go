package receipt_test

import (
	"encoding/hex"
	"fmt"
	"math"
	"math/rand"
	"slices"
	"strings"
	"testing"

	"keepsake/api"
	"keepsake/chain"
	"keepsake/evolve"
	"keepsake/receipt"
)

const (
	least = math.MinInt64
	most  = math.MaxInt64
)

var (
	root    = strings.Repeat("r", 32)
	noughts = strings.Repeat("\x00", 32)
)

// bytes is a text of n bytes, each unlike the one ahead.
func bytes(n int) string {
	b := make([]byte, n)
	for i := range b {
		b[i] = byte(i*11 + 3)
	}
	return string(b)
}

// turned has the bits of by turned in one of its bytes.
func turned(s string, at int, by byte) string {
	b := []byte(s)
	b[at] ^= by
	return string(b)
}

// hexed are the bytes that are written to the base 16, blanks aside.
func hexed(t *testing.T, s string) string {
	t.Helper()
	b, err := hex.DecodeString(strings.ReplaceAll(s, " ", ""))
	if err != nil {
		t.Fatal(err)
	}
	return string(b)
}

// wides are texts of 32 bytes, narrows such as have not as many.
func wides() []string {
	return []string{noughts, root, bytes(32), strings.Repeat("\xff", 32)}
}

func narrows() []string {
	l := []string{noughts[:31], noughts + "\x00", noughts + noughts, root + noughts}
	for _, n := range []int{0, 1, 16, 31, 33, 63, 64, 65, 4096} {
		l = append(l, bytes(n))
	}
	return l
}

// numbers are such as may be places or epochs, at the bounds of these and of their bytes, and such as may not.
func numbers() []int {
	return []int{least, least + 1, -lastEpoch - 1, -256, -2, -1, 0, 1, 2, 5, 255, 256, 4095, 4096, 1 << 16, 1<<31 - 1, 1 << 31, lastEpoch - 4097, lastEpoch - 4096, lastEpoch - 1, lastEpoch, lastEpoch + 1, lastEpoch + 2, 1 << 33, lastTime, 1<<62 + 1, most - 1, most}
}

// one is a record of that kind, which may be. In the epoch 0 no epoch is there that may be meant: then it is a release.
func one(kind, epoch, time int) api.Record {
	r := api.Record{Kind: kind, Epoch: epoch, Time: time}
	if epoch == 0 && kind != closed {
		r.Kind = released
	}
	switch r.Kind {
	case closed:
		r.Count, r.Root = time&4095, bytes(32 + time&7)[time&7:]
	case retained, purged:
		r.Target, r.Until = epoch-1, time+3
	case holds:
		r.Target, r.Name = epoch-1, "case"
	case released:
		r.Name = "case"
	}
	return r
}

// row are records by letters, of which each is a kind's: they follow on each other from first on, but for those behind the closure of the last epoch, which are left out.
func row(first int, letters string) []api.Record {
	var l []api.Record
	epoch, time := first, 7
	for _, b := range []byte(letters) {
		if epoch > lastEpoch {
			return l
		}
		r := one(strings.IndexByte("?crhlp", b), epoch, time)
		l = append(l, r)
		if r.Kind == closed {
			epoch++
		}
		time += len(l) % 3
	}
	return l
}

// seal seals what may be sealed.
func seal(t *testing.T, root string, first int, l []api.Record) []api.Sealed {
	t.Helper()
	made, e := chain.Seal(root, first, l...)
	if e != api.OK {
		t.Fatalf("Seal(%x, %d, %s): %d", root, first, short(l), e)
	}
	return made
}

// sealedRow is a row that was sealed: under which root, from which epoch on.
type sealedRow struct {
	root  string
	first int
	l     []api.Sealed
}

// right are sealed rows: of none, of one of each kind, of closures behind each other, and amid others, from epochs at the bounds on.
func right(t *testing.T) []sealedRow {
	t.Helper()
	var all []sealedRow
	for i, first := range []int{0, 1, 5, 4096, 1 << 31, lastEpoch - 4, lastEpoch - 1, lastEpoch} {
		for j, letters := range []string{"", "c", "r", "h", "l", "p", "cc", "ccccc", "lc", "cl", "rhlp", "crhlp", "rhlpc", "llcl", "crcchlcp", "clcrchcpcclrhpc"} {
			root := wides()[(i+j)%4]
			all = append(all, sealedRow{root, first, seal(t, root, first, row(first, letters))})
		}
	}
	return all
}

// few are rows for where all would take long.
func few(t *testing.T) []sealedRow {
	t.Helper()
	var all []sealedRow
	for _, c := range right(t) {
		if (c.first == 0 || c.first == 5 || c.first == lastEpoch-4 || c.first == lastEpoch) && len(c.l) < 9 {
			all = append(all, c)
		}
	}
	return all
}

// receiptsOf are the receipts of a row's closures.
func receiptsOf(t *testing.T, c sealedRow) []api.Receipt {
	t.Helper()
	var out []api.Receipt
	for i, s := range c.l {
		r, e := receipt.Make(c.l, i)
		if (e == api.OK) != (s.Record.Kind == closed) {
			t.Fatalf("Make(%s, %d): %d", shortRow(c.l), i, e)
		}
		if e == api.OK {
			out = append(out, r)
		}
	}
	return out
}

// signed is the receipt of a closure of that epoch, at a place and behind a tag as they are told, with the tag that it has under its epoch's key: be there such a key, or none.
func signed(root string, first, epoch, seq int, was string) api.Receipt {
	r := api.Receipt{Seq: seq, Was: was, Record: one(closed, epoch, 9)}
	if epoch >= first && epoch-first <= mostOn+1 {
		r.Tag = tagOf(root, first, was, seq, r.Record)
	} else {
		r.Tag = tagOf(root, epoch, was, seq, r.Record)
	}
	return r
}

// wrongRecords are records that no receipt may have: no closures, and closures that may not be, by one thing or by several.
func wrongRecords(epoch, time int) []api.Record {
	l := []api.Record{{}, {Epoch: epoch, Time: time}}
	for kind := retained; kind <= purged; kind++ {
		l = append(l, one(kind, max(epoch, 1), time))
	}
	for _, change := range []func(r *api.Record){
		func(r *api.Record) { r.Kind = 0 },
		func(r *api.Record) { r.Kind = retained },
		func(r *api.Record) { r.Kind = purged },
		func(r *api.Record) { r.Kind = 6 },
		func(r *api.Record) { r.Kind += 256 },
		func(r *api.Record) { r.Kind = -1 },
		func(r *api.Record) { r.Kind = least },
		func(r *api.Record) { r.Epoch = -1 },
		func(r *api.Record) { r.Epoch = lastEpoch + 1 },
		func(r *api.Record) { r.Epoch = least },
		func(r *api.Record) { r.Epoch = most },
		func(r *api.Record) { r.Time = -1 },
		func(r *api.Record) { r.Time = lastTime + 1 },
		func(r *api.Record) { r.Time = least },
		func(r *api.Record) { r.Time = most },
		func(r *api.Record) { r.Count = -1 },
		func(r *api.Record) { r.Count = lastCount + 1 },
		func(r *api.Record) { r.Count = most },
		func(r *api.Record) { r.Target = 1 },
		func(r *api.Record) { r.Target = -1 },
		func(r *api.Record) { r.Until = 1 },
		func(r *api.Record) { r.Until = -1 },
		func(r *api.Record) { r.Root = "" },
		func(r *api.Record) { r.Root = bytes(31) },
		func(r *api.Record) { r.Root = bytes(33) },
		func(r *api.Record) { r.Root = bytes(4096) },
		func(r *api.Record) { r.Name = "a" },
		func(r *api.Record) { r.Name = "A" },
		func(r *api.Record) { r.Epoch, r.Time, r.Count, r.Root, r.Name = -1, -1, -1, "", "A" },
		func(r *api.Record) { r.Kind, r.Root = holds, bytes(31) },
	} {
		r := one(closed, epoch, time)
		change(&r)
		l = append(l, r)
	}
	return l
}

// wrong are receipts that may not be, by one thing of a right one alone, and by several.
func wrong(r api.Receipt) []api.Receipt {
	var l []api.Receipt
	change := func(set func(r *api.Receipt)) {
		c := r
		set(&c)
		l = append(l, c)
	}
	for _, w := range wrongRecords(r.Record.Epoch, r.Record.Time) {
		change(func(r *api.Receipt) { r.Record = w })
		change(func(r *api.Receipt) { r.Record, r.Seq = w, -1 })
		change(func(r *api.Receipt) { r.Record, r.Tag = w, "" })
	}
	for _, seq := range numbers() {
		if !within(seq, lastSeq) {
			change(func(r *api.Receipt) { r.Seq = seq })
			change(func(r *api.Receipt) { r.Seq, r.Was = seq, bytes(33) })
		}
	}
	for _, s := range narrows() {
		change(func(r *api.Receipt) { r.Was = s })
		change(func(r *api.Receipt) { r.Tag = s })
		change(func(r *api.Receipt) { r.Was, r.Tag = s, s })
		// what is too much or too little in one is not made good by the other
		change(func(r *api.Receipt) { r.Was, r.Tag = s, bytes(max(0, 64-len(s))) })
	}
	change(func(r *api.Receipt) { r.Was = r.Was[:31] })
	change(func(r *api.Receipt) { r.Tag = r.Tag[:31] })
	change(func(r *api.Receipt) { r.Was += "\x00" })
	change(func(r *api.Receipt) { r.Tag += "\x00" })
	change(func(r *api.Receipt) { r.Was, r.Tag = r.Was[:31], r.Was[31:]+r.Tag })
	change(func(r *api.Receipt) { r.Was, r.Tag = r.Was+r.Tag[:1], r.Tag[1:] })
	change(func(r *api.Receipt) { *r = api.Receipt{} })
	return slices.DeleteFunc(l, mayBe)
}

// others are receipts with one thing turned, each in its turn: some may be, and some not.
func others(r api.Receipt) []api.Receipt {
	var l []api.Receipt
	change := func(set func(r *api.Receipt)) {
		c := r
		set(&c)
		if c != r {
			l = append(l, c)
		}
	}
	for bit := range 256 {
		change(func(r *api.Receipt) { r.Was = turned(r.Was, bit/8, 1<<(bit%8)) })
		change(func(r *api.Receipt) { r.Tag = turned(r.Tag, bit/8, 1<<(bit%8)) })
		change(func(r *api.Receipt) { r.Record.Root = turned(r.Record.Root, bit/8, 1<<(bit%8)) })
	}
	for _, n := range numbers() {
		change(func(r *api.Receipt) { r.Seq = n })
		change(func(r *api.Receipt) { r.Record.Epoch = n })
		change(func(r *api.Receipt) { r.Record.Time = n })
		change(func(r *api.Receipt) { r.Record.Count = n })
		change(func(r *api.Receipt) { r.Record.Target = n })
		change(func(r *api.Receipt) { r.Record.Until = n })
	}
	for _, by := range []int{-256, -2, -1, 1, 2, 256, 1 << 32} {
		change(func(r *api.Receipt) { r.Seq += by })
		change(func(r *api.Receipt) { r.Record.Epoch += by })
		change(func(r *api.Receipt) { r.Record.Time += by })
		change(func(r *api.Receipt) { r.Record.Count += by })
	}
	for kind := -1; kind <= 6; kind++ {
		change(func(r *api.Receipt) { r.Record.Kind = kind })
	}
	for _, s := range append(wides(), narrows()...) {
		change(func(r *api.Receipt) { r.Was = s })
		change(func(r *api.Receipt) { r.Tag = s })
		change(func(r *api.Receipt) { r.Record.Root = s })
		change(func(r *api.Receipt) { r.Record.Name = s })
	}
	change(func(r *api.Receipt) { r.Was, r.Tag = r.Tag, r.Was })
	change(func(r *api.Receipt) { r.Record.Name = "a" })
	return l
}

// short, shortRow and shown tell records, rows and receipts so that long ones do not fill what is printed.
func short(l []api.Record) string {
	var b strings.Builder
	for i, r := range l {
		if i == 12 {
			return b.String() + fmt.Sprintf("and %d more", len(l)-i)
		}
		fmt.Fprintf(&b, "{%d %d %d %d %d %d %.8q %.20q} ", r.Kind, r.Epoch, r.Time, r.Count, r.Target, r.Until, r.Root, r.Name)
	}
	return b.String()
}

func shortRow(l []api.Sealed) string {
	var records []api.Record
	for _, s := range l {
		records = append(records, s.Record)
	}
	return short(records)
}

func shown(r api.Receipt) string {
	return fmt.Sprintf("%d %s %d bytes %.40x, %d bytes %.40x", r.Seq, short([]api.Record{r.Record}), len(r.Was), r.Was, len(r.Tag), r.Tag)
}

// guarded hands on a row that a part was cut off of, with closures of which a receipt may be, and looks if it, and that part, are as they were.
func guarded(t *testing.T, l []api.Sealed, call func(l []api.Sealed)) {
	t.Helper()
	behind := api.Sealed{Record: one(closed, 5, 9), Tag: root}
	whole := append(slices.Clone(l), behind, behind, behind)
	was := slices.Clone(whole)
	call(whole[:len(l)])
	if !slices.Equal(whole, was) {
		t.Fatalf("the row was changed: %s", shortRow(whole))
	}
}

// makeIs holds Make against the chapter's words, and tells the error.
func makeIs(t *testing.T, l []api.Sealed, i int) api.Errno {
	t.Helper()
	w, f := wantMake(l, i)
	guarded(t, l, func(l []api.Sealed) {
		if r, e := receipt.Make(l, i); r != w || e != f {
			t.Fatalf("Make(%s, %d): %s %d, asked %s %d", shortRow(l), i, shown(r), e, shown(w), f)
		}
	})
	return f
}

// allIs holds All against the chapter's words, and tells how many they are.
func allIs(t *testing.T, l []api.Sealed) int {
	t.Helper()
	w := wantAll(l)
	guarded(t, l, func(l []api.Sealed) {
		if all := receipt.All(l); !slices.Equal(all, w) {
			t.Fatalf("All(%s): %d receipts %v, asked %d %v", shortRow(l), len(all), all, len(w), w)
		}
	})
	return len(w)
}

func checkIs(t *testing.T, root string, first int, r api.Receipt) api.Errno {
	t.Helper()
	w := wantCheck(root, first, r)
	checked(t, root, first, r, w)
	return w
}

// checked holds Check against what is given.
func checked(t *testing.T, root string, first int, r api.Receipt, w api.Errno) {
	t.Helper()
	if e := receipt.Check(root, first, r); e != w {
		t.Fatalf("Check(%d bytes %.40x, %d, %s): %d, asked %d", len(root), root, first, shown(r), e, w)
	}
}

func putIs(t *testing.T, r api.Receipt) string {
	t.Helper()
	w, f := wantPut(r)
	if s, e := receipt.Put(r); s != w || e != f {
		t.Fatalf("Put(%s): %x %d, asked %x %d", shown(r), s, e, w, f)
	}
	return w
}

// takeIs holds Take against the chapter's words, and that what is taken, put again, is what was cut off.
func takeIs(t *testing.T, s string) api.Errno {
	t.Helper()
	w, behind, f := wantTake(s)
	r, rest, e := receipt.Take(s)
	if r != w || rest != behind || e != f {
		t.Fatalf("Take(%d bytes %.300x): %s, %d bytes, %d, asked %s, %d bytes, %d", len(s), s, shown(r), len(rest), e, shown(w), len(behind), f)
	}
	if put, p := receipt.Put(r); e == api.OK && (p != api.OK || put+rest != s) {
		t.Fatalf("Take(%d bytes %.300x): put again %x %d", len(s), s, put, p)
	}
	return f
}

func ofIs(t *testing.T, l []api.Sealed, r api.Receipt) bool {
	t.Helper()
	w := wantOf(l, r)
	guarded(t, l, func(l []api.Sealed) {
		if of := receipt.Of(l, r); of != w {
			t.Fatalf("Of(%s, %s): %t, asked %t", shortRow(l), shown(r), of, w)
		}
	})
	return w
}

func forgeIs(t *testing.T, mine []api.Sealed, r api.Receipt) bool {
	t.Helper()
	w, by, found := wantForge(mine, r)
	guarded(t, mine, func(mine []api.Sealed) {
		if msg, tag, ok := receipt.Forge(mine, r); msg != w || tag != by || ok != found {
			t.Fatalf("Forge(%s, %s): %x %x %t, asked %x %x %t", shortRow(mine), shown(r), msg, tag, ok, w, by, found)
		}
	})
	return found
}

// held holds all that is asked of a receipt against the chapter's words.
func held(t *testing.T, root string, first int, l []api.Sealed, r api.Receipt) {
	t.Helper()
	checkIs(t, root, first, r)
	takeIs(t, putIs(t, r))
	ofIs(t, l, r)
	forgeIs(t, l, r)
}

// with is a row with another one at a place, swapped one with two in the place of each other, without one with one left out, more one with one more, ahead of the one at a place.
func with[T any](l []T, at int, s T) []T {
	l = slices.Clone(l)
	l[at] = s
	return l
}

func swapped[T any](l []T, i, j int) []T {
	l = slices.Clone(l)
	l[i], l[j] = l[j], l[i]
	return l
}

func without[T any](l []T, at int) []T { return slices.Delete(slices.Clone(l), at, at+1) }

func more[T any](l []T, at int, s T) []T { return slices.Insert(slices.Clone(l), at, s) }

// The chapter's example.
func TestExample(t *testing.T) {
	r := api.Record{Kind: api.RecClose, Epoch: 5, Time: 9, Count: 3, Root: bytes(32)}
	l := seal(t, root, 5, []api.Record{r})
	made, e := receipt.Make(l, 0)
	was := "\x00\x00\x00\x00\x00\x00\x00\x00\x00\x00\x00\x00\x00\x00\x00\x00\x00\x00\x00\x00\x00\x00\x00\x00\x00\x00\x00\x00\x00\x00\x00\x00"
	if w := (api.Receipt{Seq: 0, Record: r, Was: was, Tag: l[0].Tag}); made != w || e != api.OK || len(was) != 32 {
		t.Errorf("%s %d", shown(made), e)
	}
	if all := receipt.All(l); len(all) != 1 || all[0] != made {
		t.Errorf("All: %v", all)
	}
}

// byHand is a row from 7 on, under 32 times k, with the bytes of its closures' receipts, worked out by other means: piece by piece the Seq, Was, Tag and the record.
func byHand() (l []api.Record, bytes map[int]string) {
	steps := make([]byte, 32)
	for i := range steps {
		steps[i] = byte(i)
	}
	l = []api.Record{
		{Kind: api.RecRelease, Epoch: 7, Time: 3, Name: "x"},
		{Kind: api.RecClose, Epoch: 7, Time: 4, Count: 1, Root: strings.Repeat("R", 32)},
		{Kind: api.RecRetain, Epoch: 8, Time: 4, Target: 7, Until: 900},
		{Kind: api.RecClose, Epoch: 8, Time: 260, Count: 4096, Root: string(steps)},
		{Kind: api.RecClose, Epoch: 9, Time: lastTime, Root: strings.Repeat("\xff", 32)},
	}
	return l, map[int]string{
		1: "00000001 d3c8e13ad066ac7e6deb4553ae88b6fa459c04cafc4374951d3d3d7f62c25dbb ce20da50f97d2906e9d1c7d038622840599ef9976780b47df03df37aa5db2c4d 01 00000007 0000000000000004 00000001 00000000 0000000000000000 00000020 5252525252525252525252525252525252525252525252525252525252525252 00000000",
		3: "00000003 ea8d806fbdeda6cc996f86c2864774b2b675e73c28b7215d9ceef43c86542121 fd43ca74897055bd9a6408a4f24fb4a45e3a26fcbb3ca07a07b99e20b8b4efca 01 00000008 0000000000000104 00001000 00000000 0000000000000000 00000020 000102030405060708090a0b0c0d0e0f101112131415161718191a1b1c1d1e1f 00000000",
		4: "00000004 fd43ca74897055bd9a6408a4f24fb4a45e3a26fcbb3ca07a07b99e20b8b4efca 8549616ca424c129f6e38f77e1de8e59cda73fa13722ff8f7671f0e86572fcf3 01 00000009 0000010000000000 00000000 00000000 0000000000000000 00000020 ffffffffffffffffffffffffffffffffffffffffffffffffffffffffffffffff 00000000",
	}
}

// P21.1 to P21.4: a row that was worked out by other means.
func TestByHand(t *testing.T) {
	key := strings.Repeat("k", 32)
	records, laid := byHand()
	l := seal(t, key, 7, records)
	var all []api.Receipt
	for i := range l {
		r, e := receipt.Make(l, i)
		if laid[i] == "" {
			if r != (api.Receipt{}) || e != api.ErrNone {
				t.Errorf("Make of %d: %s %d", i, shown(r), e)
			}
			continue
		}
		s := hexed(t, laid[i])
		w := api.Receipt{Seq: i, Record: records[i], Was: s[4:36], Tag: s[36:68]}
		if r != w || e != api.OK || len(s) != long {
			t.Errorf("Make of %d: %s %d", i, shown(r), e)
		}
		if put, e := receipt.Put(w); put != s || e != api.OK {
			t.Errorf("Put of %d: %x %d", i, put, e)
		}
		if back, rest, e := receipt.Take(s + "behind"); back != w || rest != "behind" || e != api.OK {
			t.Errorf("Take of %d: %s %q %d", i, shown(back), rest, e)
		}
		checked(t, key, 7, w, api.OK)
		checked(t, key, 6, w, api.ErrTag)
		checked(t, root, 7, w, api.ErrTag)
		checked(t, key, 10, w, api.ErrArg)
		if !receipt.Of(l, w) || receipt.Of(l[:i], w) {
			t.Errorf("Of %d: %t %t", i, receipt.Of(l, w), receipt.Of(l[:i], w))
		}
		if msg, tag, ok := receipt.Forge(l[:i], w); msg != s[4:36]+s[:4]+s[68:] || tag != s[36:68] || !ok {
			t.Errorf("Forge of %d: %x %x %t", i, msg, tag, ok)
		}
		if msg, tag, ok := receipt.Forge(l, w); msg != "" || tag != "" || ok {
			t.Errorf("Forge of %d, that is there: %x %x %t", i, msg, tag, ok)
		}
		all = append(all, w)
	}
	if made := receipt.All(l); !slices.Equal(made, all) || len(all) != 3 {
		t.Errorf("All: %v", made)
	}
}

// is are places of a row of n: all of a short one, and such as it has not.
func is(n int) []int {
	l := append(numbers(), n-2, n-1, n, n+1, 2*n, -n, 1<<32+n-1, 1<<62+n-1)
	for i := range min(n, 40) {
		l = append(l, i)
	}
	return l
}

// makeAll holds Make, of all places of the row and of others, and All of it against the chapter's words.
func makeAll(t *testing.T, l []api.Sealed) {
	t.Helper()
	for _, i := range is(len(l)) {
		if e := makeIs(t, l, i); e != api.ErrNone && !within(i, len(l)-1) {
			t.Fatalf("Make of %d records, %d: %d", len(l), i, e)
		}
	}
	made := 0
	for i := range l {
		if makeIs(t, l, i) == api.OK {
			made++
		}
	}
	if n := allIs(t, l); n != made {
		t.Fatalf("All(%s): %d, but %d are made", shortRow(l), n, made)
	}
}

// P21.1: no record.
func TestMakeNone(t *testing.T) {
	for _, l := range [][]api.Sealed{nil, {}} {
		makeAll(t, l)
		for _, i := range is(0) {
			if r, e := receipt.Make(l, i); r != (api.Receipt{}) || e != api.ErrNone {
				t.Errorf("Make of none, %d: %s %d", i, shown(r), e)
			}
		}
		if all := receipt.All(l); len(all) != 0 {
			t.Errorf("All of none: %v", all)
		}
	}
}

// P21.1: one record, of each kind, with right and other tags.
func TestMakeOne(t *testing.T) {
	for kind := closed; kind <= purged; kind++ {
		for _, epoch := range []int{0, 1, 5, lastEpoch} {
			r := one(kind, epoch, 9)
			for _, tag := range append(wides(), narrows()...) {
				l := []api.Sealed{{Record: r, Tag: tag}}
				makeAll(t, l)
				w, f := api.Receipt{}, api.ErrNone
				if r.Kind == closed {
					f = api.ErrArg
				}
				if r.Kind == closed && len(tag) == 32 {
					w, f = api.Receipt{Record: r, Was: noughts, Tag: tag}, api.OK
				}
				if made, e := receipt.Make(l, 0); made != w || e != f {
					t.Errorf("Make(%s, 0): %s %d", shortRow(l), shown(made), e)
				}
				if all := receipt.All(l); len(all) == 1 != (f == api.OK) || len(all) > 1 {
					t.Errorf("All(%s): %v", shortRow(l), all)
				}
			}
		}
	}
}

// P21.1: rows of all kinds that were sealed, and parts of them.
func TestMake(t *testing.T) {
	for _, c := range right(t) {
		for i := range len(c.l) + 1 {
			makeAll(t, c.l[:i])
			makeAll(t, c.l[i:])
		}
		made := receiptsOf(t, c)
		if all := receipt.All(c.l); !slices.Equal(all, made) {
			t.Fatalf("All(%s): %v", shortRow(c.l), all)
		}
		for _, r := range made {
			if r.Was != chain.Last(c.l[:r.Seq]...) || r.Tag != chain.Last(c.l[:r.Seq+1]...) || r.Record != c.l[r.Seq].Record {
				t.Fatalf("Make(%s, %d): %s", shortRow(c.l), r.Seq, shown(r))
			}
		}
	}
}

// P21.1: closures that may not be, records of no kind, at each place: those that may be, behind and ahead, are there.
func TestMakeWrongRecords(t *testing.T) {
	for _, c := range few(t) {
		for at, s := range c.l {
			for _, w := range wrongRecords(s.Record.Epoch, s.Record.Time) {
				l := with(c.l, at, api.Sealed{Record: w, Tag: s.Tag})
				makeAll(t, l)
				want := api.ErrNone
				if w.Kind == closed {
					want = api.ErrArg
				}
				if r, e := receipt.Make(l, at); r != (api.Receipt{}) || e != want {
					t.Fatalf("Make(%s, %d): %s %d", shortRow(l), at, shown(r), e)
				}
			}
		}
	}
	// two of them, and all
	bad := wrongRecords(5, 9)
	for i, a := range bad {
		l := []api.Sealed{{Record: one(closed, 5, 9), Tag: root}, {Record: a, Tag: noughts}, {Record: bad[(i*7+1)%len(bad)], Tag: root}, {Record: one(closed, 6, 9), Tag: root}}
		makeAll(t, l)
		makeAll(t, l[1:3])
		if all := receipt.All(l); len(all) != 2 || all[0].Seq != 0 || all[1].Seq != 3 {
			t.Fatalf("All(%s): %v", shortRow(l), all)
		}
	}
}

// P21.1: tags, and tags ahead, that have not 32 bytes: two closures behind each other may both not be, for one tag.
func TestMakeNarrow(t *testing.T) {
	for _, c := range few(t) {
		for at, s := range c.l {
			for _, tag := range append(narrows(), wides()...) {
				l := with(c.l, at, api.Sealed{Record: s.Record, Tag: tag})
				makeAll(t, l)
				for i, want := range map[int]string{at: l[at].Tag, at + 1: l[at].Tag} {
					r, e := receipt.Make(l, i)
					if i < len(l) && l[i].Record.Kind == closed && len(want) != 32 && (r != (api.Receipt{}) || e != api.ErrArg) {
						t.Fatalf("Make(%s, %d) with a tag of %d bytes: %s %d", shortRow(l), i, len(want), shown(r), e)
					}
				}
			}
		}
	}
	c := one(closed, 5, 9)
	for _, n := range []struct{ was, tag, made int }{{32, 32, 2}, {31, 32, 0}, {33, 32, 0}, {0, 32, 0}, {32, 31, 1}, {32, 33, 1}, {32, 0, 1}, {31, 33, 0}, {64, 0, 0}, {0, 64, 0}} {
		l := []api.Sealed{{Record: c, Tag: bytes(n.was)}, {Record: c, Tag: bytes(n.tag)}}
		if all := receipt.All(l); len(all) != n.made {
			t.Errorf("tags of %d and %d bytes: %v", n.was, n.tag, all)
		}
		makeAll(t, l)
	}
}

// P21.1: rows that do not follow on each other: Make and All ask for no more than the record and the tags beside it.
func TestMakeNoFollowing(t *testing.T) {
	for _, c := range few(t) {
		for at := range c.l {
			other := c.l[at]
			other.Record.Epoch, other.Record.Time = lastEpoch-other.Record.Epoch, lastTime-other.Record.Time
			for _, l := range [][]api.Sealed{swapped(c.l, 0, at), without(c.l, at), more(c.l, at, c.l[at]), more(c.l, 0, c.l[at]), with(c.l, at, other), append(slices.Clone(c.l), c.l...)} {
				makeAll(t, l)
			}
		}
		back := slices.Clone(c.l)
		slices.Reverse(back)
		makeAll(t, back)
	}
	// closures of one epoch, in whatever order, each with the same tag
	s := api.Sealed{Record: one(closed, 5, 9), Tag: root}
	l := []api.Sealed{s, s, {Record: one(closed, 0, 0), Tag: root}, {Record: one(closed, lastEpoch, 0), Tag: root}, s}
	makeAll(t, l)
	if all := receipt.All(l); len(all) != 5 {
		t.Errorf("All of five: %v", all)
	}
}

// P21.1: many records: all closures are told, in their order, and this ends soon.
func TestMakeMany(t *testing.T) {
	var l []api.Sealed
	for i := range 1 << 17 {
		kind := closed + i%3%2
		l = append(l, api.Sealed{Record: one(kind, 1+i, i), Tag: library("", four(i))})
	}
	n := allIs(t, l)
	if w := 87381; n != w {
		t.Errorf("%d receipts, asked %d", n, w)
	}
	for _, i := range []int{0, 1, 2, 4095, 4096, 65535, 65536, len(l) - 2, len(l) - 1, len(l)} {
		makeIs(t, l, i)
	}
}

// roots are such as may be, and such as may not.
func roots() []string {
	l := append(wides(), bytes(1<<16))
	return append(l, narrows()...)
}

// P21.2: receipts of rows that were sealed, with the row's root and first, with others, and with such as may not be.
func TestCheck(t *testing.T) {
	for _, c := range few(t) {
		for _, r := range receiptsOf(t, c) {
			checked(t, c.root, c.first, r, api.OK)
			for _, root := range roots() {
				for _, first := range append(numbers(), c.first, c.first-1, c.first+1, r.Record.Epoch, r.Record.Epoch+1) {
					if e := checkIs(t, root, first, r); (e == api.OK) != (root == c.root && first == c.first) {
						t.Fatalf("Check(%x, %d, %s): %d, sealed from %d on", root, first, shown(r), e, c.first)
					}
				}
			}
		}
	}
}

// P21.2: roots by their lengths.
func TestCheckRoots(t *testing.T) {
	r := signed(root, 5, 6, 3, bytes(32))
	for n := range 200 {
		w := api.ErrArg
		if n == 32 {
			w = api.ErrTag
		}
		checked(t, bytes(n), 5, r, w)
	}
	// a key of more bytes may have the same block as one of 32, a root not
	checked(t, root, 5, r, api.OK)
	checked(t, root+"\x00", 5, r, api.ErrArg)
	checked(t, root[:31], 5, r, api.ErrArg)
	end := "a root that ends with a nought.\x00"
	r = signed(end, 5, 6, 3, bytes(32))
	checked(t, end, 5, r, api.OK)
	checked(t, end[:31], 5, r, api.ErrArg)
}

// P21.2: epochs ahead of first, at first, and beyond it, up to the last one that has a key, and behind that; and first at its bounds.
func TestCheckEpochs(t *testing.T) {
	for _, first := range numbers() {
		for _, on := range []int{-lastEpoch, -4097, -4096, -2, -1, 0, 1, 2, 4095, 4096, 4097, 4098, 1 << 20, lastEpoch} {
			epoch := first + on
			if first < -lastEpoch || first > 2*lastEpoch || !within(epoch, lastEpoch) {
				continue
			}
			w := api.OK
			switch {
			case !within(first, lastEpoch) || on < 0:
				w = api.ErrArg
			case on > 4096:
				w = api.ErrLimit
			}
			r := signed(root, max(first, 0), epoch, 3, bytes(32))
			checked(t, root, first, r, w)
			checkIs(t, root, first, r)
			if w == api.OK {
				w = api.ErrTag
			}
			r.Tag = turned(r.Tag, 7, 1)
			checked(t, root, first, r, w)
			r.Tag = r.Tag[1:]
			checked(t, root, first, r, api.ErrArg)
		}
		// epochs that are far from first, too, ahead of it and behind
		for _, epoch := range []int{0, 1, 5, 4096, 4097, lastEpoch} {
			checkIs(t, root, first, signed(root, min(max(first, 0), lastEpoch), epoch, 0, noughts))
		}
	}
}

// P21.2: receipts that may not be, by one thing alone and by several, whatever else is wrong.
func TestCheckWrong(t *testing.T) {
	for _, epoch := range []int{5, 6, 5 + 4096} {
		r := signed(root, 5, epoch, 3, bytes(32))
		for _, w := range wrong(r) {
			for _, first := range []int{5, 6, 0, -1, 5000, lastEpoch, lastEpoch + 1} {
				for _, root := range []string{root, noughts, "", root[1:]} {
					checked(t, root, first, w, api.ErrArg)
				}
			}
			checkIs(t, root, 5, w)
		}
	}
	// the right tag of what may not be is none, and a receipt that may not be is told ahead of its epoch's key
	for _, w := range wrongRecords(4102, 9) {
		r := api.Receipt{Seq: 3, Record: w, Was: noughts, Tag: library(macOf(keyOf(root, 5, 5)), said(noughts, 3, w))}
		checked(t, root, 5, r, api.ErrArg)
	}
	for _, seq := range []int{-1, lastSeq + 1} {
		checked(t, root, 5, signed(root, 5, 5, seq, noughts), api.ErrArg)
		checked(t, root, 5, signed(root, 5, 4102, seq, noughts), api.ErrArg)
	}
	for _, was := range []string{"", noughts[1:], noughts + "\x00"} {
		checked(t, root, 5, signed(root, 5, 5, 0, was), api.ErrArg)
		checked(t, root, 5, signed(root, 5, 4102, 0, was), api.ErrArg)
	}
}

// P21.2: places and tags ahead of all kinds, each with its right tag: right, be there such records or not.
func TestCheckPlaces(t *testing.T) {
	for _, seq := range []int{0, 1, 2, 255, 256, 1 << 16, 1 << 24, 1 << 31, lastSeq - 1, lastSeq} {
		for _, was := range wides() {
			for _, epoch := range []int{5, 6, 300} {
				r := signed(root, 5, epoch, seq, was)
				checked(t, root, 5, r, api.OK)
				held(t, root, 5, nil, r)
			}
		}
	}
}

// P21.2: each thing of a right receipt, turned: none is right.
func TestCheckTurned(t *testing.T) {
	for _, c := range few(t) {
		for _, r := range receiptsOf(t, c) {
			for _, o := range others(r) {
				e := checkIs(t, c.root, c.first, o)
				if e == api.OK || e == api.ErrTag != (mayBe(o) && o.Record.Epoch >= c.first && o.Record.Epoch <= c.first+4096) {
					t.Fatalf("Check(%x, %d, %s): %d", c.root, c.first, shown(o), e)
				}
			}
		}
	}
}

// P21.2: several errors at once: what may not be ahead of the key's error, that ahead of the tag.
func TestCheckOrder(t *testing.T) {
	for n := range 1 << 7 {
		key, first, epoch := root, 5, 6
		bit := func(i int) bool { return n>>i&1 == 1 }
		if bit(0) {
			key = root[1:]
		}
		if bit(1) {
			first = -1
		}
		if bit(2) {
			epoch = 5 + 4097
		}
		if bit(3) {
			epoch = 4
		}
		r := signed(root, 5, epoch, 3, bytes(32))
		if bit(4) {
			r.Tag = turned(r.Tag, 0, 128)
		}
		if bit(5) {
			r.Was = r.Was[1:]
		}
		if bit(6) {
			r.Record.Count = 4097
		}
		w := api.OK
		switch {
		case bit(0) || bit(1) || bit(5) || bit(6) || bit(3):
			w = api.ErrArg
		case bit(2):
			w = api.ErrLimit
		case bit(4):
			w = api.ErrTag
		}
		checked(t, key, first, r, w)
	}
}

// P21.3: bytes, piece by piece, and back, with nothing, something, and another receipt behind it.
func TestPutTake(t *testing.T) {
	for _, c := range right(t) {
		made := receiptsOf(t, c)
		whole := ""
		for _, r := range made {
			s, e := receipt.Put(r)
			if len(s) != long || e != api.OK || s[:4] != four(r.Seq) || s[4:36] != r.Was || s[36:68] != r.Tag || s[68:] != laid(r.Record) {
				t.Fatalf("Put(%s): %x %d", shown(r), s, e)
			}
			for _, behind := range []string{"", "\x00", "b", bytes(40), s, putIs(t, made[0]), s[:136], strings.Repeat("\xff", 300)} {
				if back, rest, e := receipt.Take(s + behind); back != r || rest != behind || e != api.OK {
					t.Fatalf("Take of %s with %d bytes behind it: %s %x %d", shown(r), len(behind), shown(back), rest, e)
				}
				takeIs(t, s+behind)
			}
			whole += s
		}
		// a row of receipts is taken one by one
		for _, r := range made {
			back, rest, e := receipt.Take(whole)
			if back != r || e != api.OK {
				t.Fatalf("Take of a row: %s %d, asked %s", shown(back), e, shown(r))
			}
			whole = rest
		}
		if whole != "" {
			t.Fatalf("%d bytes are left", len(whole))
		}
	}
}

// P21.3: places, tags and closures at their bounds.
func TestPutBounds(t *testing.T) {
	seen := map[string]api.Receipt{}
	for _, seq := range []int{0, 1, 255, 256, 1 << 16, 1 << 24, 1<<31 - 1, 1 << 31, lastSeq - 1, lastSeq} {
		for _, was := range wides() {
			for _, tag := range wides() {
				for _, record := range []api.Record{one(closed, 0, 0), one(closed, 5, 9), one(closed, lastEpoch, lastTime), {Kind: closed, Count: lastCount, Root: noughts}} {
					r := api.Receipt{Seq: seq, Record: record, Was: was, Tag: tag}
					s := putIs(t, r)
					if e := takeIs(t, s); e != api.OK || len(s) != long {
						t.Fatalf("Take of %s: %d", shown(r), e)
					}
					if by, ok := seen[s]; ok {
						t.Fatalf("%s and %s have the same bytes", shown(by), shown(r))
					}
					seen[s] = r
				}
			}
		}
	}
}

// P21.3: receipts that may not be have no bytes.
func TestPutWrong(t *testing.T) {
	for _, r := range []api.Receipt{signed(root, 5, 5, 0, noughts), signed(root, 5, 6, 3, bytes(32)), signed(root, 0, 0, lastSeq, root)} {
		for _, w := range wrong(r) {
			if s, e := receipt.Put(w); s != "" || e != api.ErrArg {
				t.Fatalf("Put(%s): %x %d", shown(w), s, e)
			}
			putIs(t, w)
		}
		for _, o := range others(r) {
			takeIs(t, putIs(t, o))
		}
	}
}

// P21.3: each shorter beginning of a receipt's bytes, and bytes of which one was turned, each in its turn, by each bit and by all.
func TestTakeTurned(t *testing.T) {
	for _, r := range []api.Receipt{signed(root, 5, 5, 0, noughts), signed(root, 5, 6, 3, bytes(32)), {Seq: lastSeq, Record: one(closed, lastEpoch, lastTime), Was: root, Tag: bytes(32)}} {
		s := putIs(t, r)
		for n := range len(s) {
			if back, rest, e := receipt.Take(s[:n]); back != (api.Receipt{}) || rest != "" || e != api.ErrForm {
				t.Fatalf("Take of the first %d bytes: %s %x %d", n, shown(back), rest, e)
			}
			takeIs(t, s[n:])
			takeIs(t, s[:n]+s[n+1:])
			takeIs(t, s[:n]+s[n+1:]+"\x00\x00\x00\x00\x00")
			takeIs(t, s[:n]+"\x00"+s[n:])
		}
		for at := range len(s) {
			for by := 1; by < 256; by++ {
				o := turned(s, at, byte(by))
				e := takeIs(t, o)
				// of the Seq and the tags, and of the Root, each byte may be another one; of the Target, the Until and the lengths none
				if (at < 68 || at >= 101 && at < 133) && e != api.OK || (at == 68 || at >= 85 && at < 101 || at >= 133) && e != api.ErrForm {
					t.Fatalf("the byte %d turned by %d: %d", at, by, e)
				}
				takeIs(t, o+"behind")
			}
		}
	}
}

// P21.3: bytes of receipts that may not be, as far as these have any; and such as are laid otherwise.
func TestTakeWrong(t *testing.T) {
	r := signed(root, 5, 6, 3, bytes(32))
	for _, w := range wrong(r) {
		s := four(w.Seq) + w.Was + w.Tag + laid(w.Record)
		takeIs(t, s)
		takeIs(t, s+"behind")
		takeIs(t, s+noughts+noughts+noughts)
		takeIs(t, s+putIs(t, r))
	}
	for kind := retained; kind <= purged; kind++ {
		s := four(3) + bytes(32) + root + laid(one(kind, 6, 9))
		for _, behind := range []string{"", noughts + noughts + noughts, putIs(t, r)} {
			if back, rest, e := receipt.Take(s + behind); back != (api.Receipt{}) || rest != "" || e != api.ErrForm {
				t.Fatalf("Take of a record of the kind %d: %s %d bytes %d", kind, shown(back), len(rest), e)
			}
		}
	}
	for kind := range 256 {
		s := turned(putIs(t, r), 68, byte(kind))
		if e := takeIs(t, s); (e == api.OK) != (kind == 0) {
			t.Fatalf("the kind turned by %d: %d", kind, e)
		}
	}
	seq, record := four(r.Seq), laid(r.Record)
	for _, s := range []string{
		record, r.Was + r.Tag + record, seq + r.Tag + record, seq + record + r.Was + r.Tag, seq + text(r.Was) + text(r.Tag) + record, eight(r.Seq) + r.Was + r.Tag + record,
		seq + r.Was + r.Tag + text(record), "\x00" + seq + r.Was + r.Tag + record, seq + r.Was + r.Tag, seq + r.Was + r.Tag + record[:68], seq + r.Was + r.Tag + "\x00" + record,
	} {
		if e := takeIs(t, s); e != api.ErrForm {
			t.Fatalf("Take(%x): %d", s, e)
		}
		takeIs(t, s+noughts+noughts)
	}
}

// P21.3: texts that are empty, short and long.
func TestTakeTexts(t *testing.T) {
	for n := range 400 {
		for _, s := range []string{bytes(n), strings.Repeat("\x00", n), strings.Repeat("\x01", n), strings.Repeat("\xff", n)} {
			if back, rest, e := receipt.Take(s); back != (api.Receipt{}) || rest != "" || e != api.ErrForm {
				t.Fatalf("Take(%x): %s %x %d", s, shown(back), rest, e)
			}
			takeIs(t, s)
		}
	}
	for _, s := range []string{bytes(1 << 20), strings.Repeat("\x00", 1<<20), strings.Repeat("\xff", 1<<20)} {
		if e := takeIs(t, s); e != api.ErrForm {
			t.Fatalf("Take of %d bytes: %d", len(s), e)
		}
		front := putIs(t, signed(root, 5, 6, 3, bytes(32)))
		if _, rest, e := receipt.Take(front + s); rest != s || e != api.OK {
			t.Fatalf("Take with %d bytes behind: %d bytes, %d", len(s), len(rest), e)
		}
	}
}

// rowsBeside are a row, shorter and longer ones, none, and other ones.
func rowsBeside(t *testing.T, c sealedRow) [][]api.Sealed {
	t.Helper()
	l := [][]api.Sealed{nil, {}, c.l, append(slices.Clone(c.l), api.Sealed{}), append(slices.Clone(c.l), c.l...), seal(t, bytes(32), 5, row(5, "crclcc"))}
	for i := range c.l {
		l = append(l, c.l[:i], c.l[i:], without(c.l, i), swapped(c.l, 0, i), with(c.l, i, api.Sealed{}))
		l = append(l, with(c.l, i, api.Sealed{Record: c.l[i].Record, Tag: turned(c.l[i].Tag, 31, 1)}), with(c.l, i, api.Sealed{Record: c.l[i].Record, Tag: c.l[i].Tag[1:]}))
		other := c.l[i]
		other.Record.Time++
		l = append(l, with(c.l, i, other))
	}
	return l
}

// P21.4: receipts that Make makes, with the row that they are of and with others.
func TestOf(t *testing.T) {
	for _, c := range few(t) {
		for _, r := range receiptsOf(t, c) {
			if !receipt.Of(c.l, r) || !receipt.Of(c.l[:r.Seq+1], r) || receipt.Of(c.l[:r.Seq], r) || receipt.Of(nil, r) {
				t.Fatalf("Of(%s, %s): %t %t %t %t", shortRow(c.l), shown(r), receipt.Of(c.l, r), receipt.Of(c.l[:r.Seq+1], r), receipt.Of(c.l[:r.Seq], r), receipt.Of(nil, r))
			}
			msg, tag, ok := receipt.Forge(c.l[:r.Seq], r)
			if msg != r.Was+four(r.Seq)+laid(r.Record) || tag != r.Tag || !ok {
				t.Fatalf("Forge of what is behind the row: %x %x %t", msg, tag, ok)
			}
			for _, l := range rowsBeside(t, c) {
				if of := ofIs(t, l, r); of == forgeIs(t, l, r) {
					t.Fatalf("Of and Forge of %s: both %t", shown(r), of)
				}
			}
		}
		for _, l := range rowsBeside(t, c) {
			for i := range l {
				if r, e := receipt.Make(l, i); ofIs(t, l, r) != (e == api.OK) || forgeIs(t, l, r) {
					t.Fatalf("Of(%s, %s), made with %d", shortRow(l), shown(r), e)
				}
			}
		}
	}
}

// P21.4: each thing turned, another one's Seq: none is of the row; of those that may be Forge tells.
func TestOfTurned(t *testing.T) {
	for _, c := range few(t) {
		for _, r := range receiptsOf(t, c) {
			for _, o := range others(r) {
				if receipt.Of(c.l, o) || ofIs(t, c.l, o) {
					t.Fatalf("Of(%s, %s)", shortRow(c.l), shown(o))
				}
				if found := forgeIs(t, c.l, o); found != mayBe(o) {
					t.Fatalf("Forge(%s, %s): %t", shortRow(c.l), shown(o), found)
				}
				msg, tag, ok := receipt.Forge(c.l, o)
				if mayBe(o) && (msg != o.Was+four(o.Seq)+laid(o.Record) || tag != o.Tag || !ok) {
					t.Fatalf("Forge(%s, %s): %x %x %t", shortRow(c.l), shown(o), msg, tag, ok)
				}
				forgeIs(t, nil, o)
			}
			for seq := -3; seq < len(c.l)+3; seq++ {
				o := r
				o.Seq = seq
				if of := ofIs(t, c.l, o); of != (seq == r.Seq) || forgeIs(t, c.l, o) != (seq >= 0 && !of) {
					t.Fatalf("Of(%s, %s): %t", shortRow(c.l), shown(o), of)
				}
			}
		}
	}
}

// P21.4: receipts that may not be are of no row, also where a closure that may not be is just so; Forge tells nothing of them.
func TestOfWrong(t *testing.T) {
	for _, c := range few(t) {
		for _, r := range receiptsOf(t, c) {
			for _, w := range wrong(r) {
				rows := [][]api.Sealed{c.l, nil, c.l[:r.Seq]}
				// a row that has it just so
				l := with(c.l, r.Seq, api.Sealed{Record: w.Record, Tag: w.Tag})
				if r.Seq > 0 {
					l[r.Seq-1].Tag = w.Was
				}
				for _, l := range append(rows, l) {
					msg, tag, ok := receipt.Forge(l, w)
					if receipt.Of(l, w) || msg != "" || tag != "" || ok {
						t.Fatalf("Of(%s, %s): %t; Forge: %x %x %t", shortRow(l), shown(w), receipt.Of(l, w), msg, tag, ok)
					}
					ofIs(t, l, w)
					forgeIs(t, l, w)
				}
			}
		}
	}
	// the zero receipt is none of a record of which none is made
	for _, l := range [][]api.Sealed{nil, {{}}, {{Record: one(released, 5, 9), Tag: root}}, {{Record: api.Record{Kind: closed}}}} {
		if receipt.Of(l, api.Receipt{}) || receipt.Of(l, api.Receipt{Seq: 1}) || receipt.Of(l, api.Receipt{Seq: -1}) {
			t.Errorf("the zero receipt is of %s", shortRow(l))
		}
		if msg, tag, ok := receipt.Forge(l, api.Receipt{}); msg != "" || tag != "" || ok {
			t.Errorf("Forge of the zero receipt: %x %x %t", msg, tag, ok)
		}
	}
}

// P21.4: what Forge tells hangs on mine at the place Seq alone, not on whether the receipt is right.
func TestForgeAnyTag(t *testing.T) {
	l := seal(t, root, 5, row(5, "crc"))
	r, _ := receipt.Make(l, 2)
	for _, tag := range wides() {
		o := r
		o.Tag = tag
		msg, by, ok := receipt.Forge(l, o)
		if msg != r.Was+four(2)+laid(r.Record) || by != tag || !ok {
			t.Errorf("Forge: %x %x %t", msg, by, ok)
		}
		if e := receipt.Check(root, 5, o); e != api.ErrTag {
			t.Errorf("Check: %d", e)
		}
	}
}

// P21.5: of records that were sealed each closure's receipt is right, and of these; and there are as many as epochs are closed.
func TestRight(t *testing.T) {
	for _, c := range right(t) {
		open, n, e := chain.Check(c.root, c.first, c.l...)
		all := receipt.All(c.l)
		if e != api.OK || n != len(c.l) || len(all) != open-c.first {
			t.Fatalf("%d receipts of a row from %d to %d: %d", len(all), c.first, open, e)
		}
		for i, r := range all {
			made, e := receipt.Make(c.l, r.Seq)
			msg, tag, forged := receipt.Forge(c.l, r)
			if made != r || e != api.OK || r.Record.Epoch != c.first+i || !receipt.Of(c.l, r) || forged || msg != "" || tag != "" {
				t.Fatalf("%s: %d", shown(r), e)
			}
			checked(t, c.root, c.first, r, api.OK)
			held(t, c.root, c.first, c.l, r)
			s, e := receipt.Put(r)
			back, rest, f := receipt.Take(s)
			if e != api.OK || back != r || rest != "" || f != api.OK {
				t.Fatalf("back from %x: %s %x %d", s, shown(back), rest, f)
			}
		}
	}
}

// P21.5: of as many closures as can be sealed, some of the receipts, and the last ones.
func TestRightFar(t *testing.T) {
	for _, first := range []int{0, lastEpoch - 4096} {
		c := sealedRow{root, first, seal(t, root, first, row(first, strings.Repeat("c", 4097)))}
		all := receipt.All(c.l)
		if len(all) != 4097 {
			t.Fatalf("%d receipts", len(all))
		}
		for i, r := range all {
			if i%173 == 0 || i > 4092 {
				checked(t, root, first, r, api.OK)
				held(t, root, first, c.l, r)
			}
			if !receipt.Of(c.l, r) || receipt.Of(c.l[:i], r) {
				t.Fatalf("%d is of none", i)
			}
		}
		if first > 0 {
			checked(t, root, first-1, all[4095], api.ErrTag)
			checked(t, root, first-1, all[4096], api.ErrLimit)
		}
	}
}

// walk is a row that follows, of so many records, the first ones as given, the rest at random.
func walk(r *rand.Rand, first, n int, from []api.Record) []api.Record {
	l := slices.Clone(from)
	time, epoch := 0, first
	for _, s := range l {
		time = s.Time
		if s.Kind == closed {
			epoch++
		}
	}
	for len(l) < n && epoch <= lastEpoch {
		time += r.Intn(3)
		one := one([]int{closed, closed, retained, holds, released, purged}[r.Intn(6)], epoch, time)
		if one.Kind == closed {
			one.Count = r.Intn(3)
			epoch++
		}
		l = append(l, one)
	}
	return l
}

// sound holds P21.6 of a receipt that is right, and records that are: it is of these, or what is told has its tag, and is said of none of them.
func sound(t *testing.T, root string, first int, mine []api.Sealed, r api.Receipt) (forged bool) {
	t.Helper()
	checked(t, root, first, r, api.OK)
	held(t, root, first, mine, r)
	msg, tag, found := receipt.Forge(mine, r)
	if receipt.Of(mine, r) {
		if found || msg != "" || tag != "" {
			t.Fatalf("%s is of mine: %x %x %t", shown(r), msg, tag, found)
		}
		return false
	}
	key, e := evolve.At(root, first, r.Record.Epoch)
	if !found || e != api.OK || library(macOf(key), msg) != tag {
		t.Fatalf("what is told of %s has not its tag: %x %x %t", shown(r), msg, tag, found)
	}
	for i, s := range mine {
		if by, e := chain.Said(chain.Last(mine[:i]...), i, s.Record); by == msg || e != api.OK {
			t.Fatalf("what is told of %s is said of mine's %d: %x", shown(r), i, msg)
		}
	}
	return true
}

// P21.6: receipts of another row that was sealed under the same root, that parts from mine somewhere.
func TestSound(t *testing.T) {
	r := rand.New(rand.NewSource(21))
	forged, same := 0, 0
	for i := range 1500 {
		first := []int{0, 5, 1 << 31, lastEpoch - 3, lastEpoch}[r.Intn(5)]
		root := wides()[i%4]
		front := walk(r, first, r.Intn(6), nil)
		mine := seal(t, root, first, walk(r, first, len(front)+r.Intn(8), front))
		theirs := seal(t, root, first, walk(r, first, len(front)+r.Intn(8), front))
		for _, receipts := range [][]api.Receipt{receipt.All(mine), receipt.All(theirs)} {
			for _, o := range receipts {
				for _, l := range [][]api.Sealed{mine, theirs} {
					if sound(t, root, first, l, o) {
						forged++
					} else {
						same++
					}
				}
			}
		}
	}
	if forged < 500 || same < 500 {
		t.Errorf("%d receipts are of none, %d are", forged, same)
	}
}

// P21.6: receipts that are tagged anew under the key of their epoch, with one thing that is unlike: none is of mine.
func TestSoundTagged(t *testing.T) {
	for _, c := range few(t) {
		for _, r := range receiptsOf(t, c) {
			if sound(t, c.root, c.first, c.l, r) {
				t.Fatalf("%s is of none", shown(r))
			}
			for _, o := range others(r) {
				epoch := o.Record.Epoch
				if !mayBe(o) || epoch < c.first || epoch > c.first+mostOn || epoch > c.first+100 && epoch%4096 > 5 {
					continue
				}
				o.Tag = tagOf(c.root, c.first, o.Was, o.Seq, o.Record)
				if forged := sound(t, c.root, c.first, c.l, o); forged != (o != r) {
					t.Fatalf("%s, tagged anew: %t", shown(o), forged)
				}
			}
		}
		// of a place behind the row, right behind it and farther
		for on := range 3 {
			r := signed(c.root, c.first, c.first, len(c.l)+on, chain.Last(c.l...))
			if !sound(t, c.root, c.first, c.l, r) {
				t.Fatalf("%s is behind the row", shown(r))
			}
		}
	}
}

// P1: what is refused tells the zero receipt, the empty row, and empty texts.
func TestRefused(t *testing.T) {
	l := []api.Sealed{{Record: one(released, 5, 9), Tag: root}, {Record: one(closed, 5, 9), Tag: "short"}, {Record: one(closed, 6, 9), Tag: root}, {Record: api.Record{Kind: closed}, Tag: root}}
	for i, w := range map[int]api.Errno{least: api.ErrNone, -1: api.ErrNone, 0: api.ErrNone, 1: api.ErrArg, 2: api.ErrArg, 3: api.ErrArg, 4: api.ErrNone, most: api.ErrNone} {
		if r, e := receipt.Make(l, i); r != (api.Receipt{}) || e != w {
			t.Errorf("Make of %d: %s %d", i, shown(r), e)
		}
	}
	if all := receipt.All(l); len(all) != 0 {
		t.Errorf("All: %v", all)
	}
	for _, r := range []api.Receipt{{}, {Seq: -1}, {Record: l[2].Record, Was: "short", Tag: root}, {Record: l[2].Record, Was: root, Tag: "short"}, {Record: l[0].Record, Was: root, Tag: root}} {
		if s, e := receipt.Put(r); s != "" || e != api.ErrArg {
			t.Errorf("Put(%s): %x %d", shown(r), s, e)
		}
		if msg, tag, ok := receipt.Forge(l, r); msg != "" || tag != "" || ok {
			t.Errorf("Forge(%s): %x %x %t", shown(r), msg, tag, ok)
		}
		if receipt.Of(l, r) {
			t.Errorf("Of(%s)", shown(r))
		}
		checked(t, root, 5, r, api.ErrArg)
	}
	s := putIs(t, signed(root, 5, 6, 3, bytes(32)))
	for _, s := range []string{"", "x", s[:4], s[:36], s[:68], s[:136], s[1:] + "x", noughts + s} {
		if r, rest, e := receipt.Take(s); r != (api.Receipt{}) || rest != "" || e != api.ErrForm {
			t.Errorf("Take(%x): %s %x %d", s, shown(r), rest, e)
		}
	}
}

// P1, P2: what a call answers hangs on its arguments alone, and what All answers is the caller's own.
func TestAgain(t *testing.T) {
	l := seal(t, root, 5, row(5, "crcchlcp"))
	mine, w := slices.Clone(l), wantAll(l)
	kept := receipt.All(l)
	for i := range 30 {
		all := receipt.All(l)
		if !slices.Equal(all, w) || len(all) != 4 {
			t.Fatalf("asked again, it is something else")
		}
		all[i%4] = api.Receipt{}
		_ = append(all[:i%4], api.Receipt{Tag: "x"})
		other := receipt.All(l[:i%8])
		_ = append(other, api.Receipt{Tag: "y"}, api.Receipt{Tag: "z"})
		receipt.Make(l, i-5)
		receipt.Make(nil, i)
		receipt.Check("", 5, w[0])
		receipt.Check(root, i, w[i%4])
		receipt.Put(api.Receipt{})
		receipt.Take("")
		receipt.Take(bytes(i * 7))
		receipt.Of(l[:i%8], w[i%4])
		receipt.Forge(l[:i%8], w[i%4])
		for _, r := range w {
			held(t, root, 5, l, r)
			makeIs(t, l, r.Seq)
		}
		if !slices.Equal(l, mine) || !slices.Equal(kept, w) {
			t.Fatalf("the row, or what was answered, has been changed")
		}
	}
}

// anyRow is a row that mostly is right, with a fault or two in it.
func anyRow(r *rand.Rand, root string, first int) []api.Sealed {
	records := walk(r, first, r.Intn(14), nil)
	l, e := chain.Seal(root, first, records...)
	if e != api.OK {
		for _, s := range records {
			l = append(l, api.Sealed{Record: s, Tag: bytes(32)})
		}
	}
	for range r.Intn(4) / 2 {
		if len(l) == 0 {
			return l
		}
		at := r.Intn(len(l))
		switch r.Intn(5) {
		case 0:
			l = without(l, at)
		case 1:
			l = more(l, at, l[r.Intn(len(l))])
		case 2:
			l[at].Tag = narrows()[r.Intn(len(narrows()))]
		case 3:
			l[at].Tag = turned(bytes(32), r.Intn(32), 1)
		case 4:
			bad := wrongRecords(l[at].Record.Epoch, l[at].Record.Time)
			l[at].Record = bad[r.Intn(len(bad))]
		}
	}
	return l
}

// anyReceipt is a receipt of one of two rows, or of none, mostly as it was made.
func anyReceipt(r *rand.Rand, root string, first int, mine, theirs []api.Sealed) api.Receipt {
	all := append(receipt.All(mine), receipt.All(theirs)...)
	if len(all) == 0 {
		return signed(root, first, min(first+r.Intn(3), lastEpoch), r.Intn(4), noughts)
	}
	o := all[r.Intn(len(all))]
	switch r.Intn(5) {
	case 0:
		bad := wrong(o)
		return bad[r.Intn(len(bad))]
	case 1:
		l := others(o)
		return l[r.Intn(len(l))]
	case 2:
		o.Seq = r.Intn(len(mine) + 2)
	}
	return o
}

// P21.1 to P21.6: rows and receipts at random, right and wrong.
func TestRandom(t *testing.T) {
	r := rand.New(rand.NewSource(21))
	for i := range 3000 {
		root := append(wides(), narrows()...)[r.Intn(4+i%2)]
		first := []int{0, 1, 5, lastEpoch - 2, lastEpoch, r.Intn(lastEpoch + 1)}[r.Intn(6)]
		mine, theirs := anyRow(r, root, first), anyRow(r, root, first)
		if n := r.Intn(len(mine) + 1); r.Intn(2) == 0 {
			theirs = append(slices.Clone(mine[:n]), theirs[min(n, len(theirs)):]...)
		}
		for _, l := range [][]api.Sealed{mine, theirs} {
			for at := -1; at <= len(l); at++ {
				makeIs(t, l, at)
			}
			allIs(t, l)
		}
		for range 6 {
			o := anyReceipt(r, root, first, mine, theirs)
			held(t, root, first, mine, o)
			held(t, root, first, theirs, o)
			s := putIs(t, o) + bytes(r.Intn(3))
			if s != "" {
				takeIs(t, turned(s, r.Intn(len(s)), byte(r.Intn(256))))
				takeIs(t, s[r.Intn(len(s)):])
			}
		}
	}
}

// P1: no call panics, and all of it is as the chapter says, at whatever bytes and numbers.
func FuzzCalls(f *testing.F) {
	for i, n := range numbers() {
		f.Add(root, noughts, bytes(32), n, i, "clrhp", closed, n, n, i, 0, bytes(32), "", four(i)+root)
		f.Add(root, root[:i%33], root, 5, n, "crcchlcp", closed+i%5, 6, 70, i, 5, "", "a", bytes(i*5))
		f.Add(root[:i%33], noughts, bytes(i), n, 3, "cccc", closed, n, 9, 0, 0, root, "", four(n)+noughts+root+laid(one(closed, 5, 9)))
	}
	f.Fuzz(func(t *testing.T, root, was, tag string, first, n int, letters string, kind, epoch, time, count, target int, hash, name, s string) {
		takeIs(t, s)
		letters = strings.Map(func(b rune) rune { return []rune("crhlp")[uint(b)%5] }, letters[:min(len(letters), 40)])
		near := first & lastEpoch
		l, e := chain.Seal((root + noughts)[:32], near, row(near, letters)...)
		if e != api.OK {
			t.Fatalf("Seal from %d on: %d", near, e)
		}
		record := api.Record{Kind: kind, Epoch: epoch, Time: time, Count: count, Target: target, Until: target, Root: hash, Name: name}
		for _, r := range append(receipt.All(l), api.Receipt{Seq: n, Record: record, Was: was, Tag: tag}, api.Receipt{Seq: n & lastSeq, Record: one(closed, epoch&lastEpoch, time&lastTime), Was: (was + noughts)[:32], Tag: (tag + noughts)[:32]}) {
			at := int(uint(n) % uint(len(l)+1))
			for _, l := range [][]api.Sealed{l, l[:at], more(l, at, api.Sealed{Record: r.Record, Tag: r.Tag}), more(l, at, api.Sealed{Record: record, Tag: was})} {
				makeIs(t, l, n)
				makeIs(t, l, at)
				allIs(t, l)
				for _, by := range []api.Receipt{r, {Seq: at, Record: r.Record, Was: r.Was, Tag: r.Tag}, {Seq: r.Seq, Record: record, Was: r.Was, Tag: r.Tag}} {
					held(t, root, first, l, by)
					held(t, (root + noughts)[:32], near, l, by)
				}
			}
			takeIs(t, putIs(t, r)+s)
		}
	})
}
