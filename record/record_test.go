package record_test

import (
	"encoding/hex"
	"fmt"
	"math"
	"math/rand"
	"slices"
	"strings"
	"testing"

	"keepsake/api"
	"keepsake/record"
)

// rows is a text of n bytes, each unlike the one ahead.
func rows(n int) string {
	b := make([]byte, n)
	for i := range b {
		b[i] = byte(i*7 + 1)
	}
	return string(b)
}

// turned has the bits of by turned in one of its bytes.
func turned(s string, at int, by byte) string {
	b := []byte(s)
	b[at] ^= by
	return string(b)
}

// hexed are the bytes that are written to the base 16, blanks aside.
func hexed(t *testing.T, s string) string {
	t.Helper()
	b, err := hex.DecodeString(strings.ReplaceAll(s, " ", ""))
	if err != nil {
		t.Fatal(err)
	}
	return string(b)
}

// right are records that may be, one of each kind.
func right() []api.Record {
	return []api.Record{
		{Kind: closed, Epoch: 7, Time: 70, Count: 3, Root: rows(32)},
		{Kind: retained, Epoch: 7, Time: 70, Target: 6, Until: 99},
		{Kind: holds, Epoch: 7, Time: 70, Target: 6, Name: "case9"},
		{Kind: released, Epoch: 7, Time: 70, Name: "case9"},
		{Kind: purged, Epoch: 7, Time: 70, Target: 6, Until: 99},
	}
}

// kinds are those that are none beside those that are.
func kinds() []int {
	return []int{math.MinInt64, -256, -255, -1, 0, closed, retained, holds, released, purged, 6, 7, 255, 256, 257, 258, 259, 260, 261, math.MaxInt64}
}

// epochs, times, counts, targets and untils are those at the bounds, beyond them, and between.
func epochs() []int {
	return []int{math.MinInt64, math.MinInt64 + 1, -lastEpoch - 1, -1, 0, 1, 2, 255, 1<<31 - 1, 1 << 31, lastEpoch - 1, lastEpoch, lastEpoch + 1, lastEpoch + 2, lastTime, math.MaxInt64}
}

func times() []int {
	return []int{math.MinInt64, -lastTime, -1, 0, 1, 255, lastEpoch, lastEpoch + 1, lastTime - 1, lastTime, lastTime + 1, 2 * lastTime, 1 << 62, math.MaxInt64}
}

func counts() []int {
	return []int{math.MinInt64, -lastCount, -1, 0, 1, 255, 256, lastCount - 1, lastCount, lastCount + 1, 2 * lastCount, lastEpoch, lastEpoch + 1, lastEpoch + 2, math.MaxInt64}
}

func targets(epoch int) []int {
	return []int{math.MinInt64, -lastEpoch - 1, -1, 0, 1, epoch - 2, epoch - 1, epoch, epoch + 1, lastEpoch - 1, lastEpoch, lastEpoch + 1, lastEpoch + 2, math.MaxInt64}
}

// roots are texts at the bounds of a Root, and beyond.
func roots() []string {
	l := []string{"", strings.Repeat("\x00", 32), strings.Repeat("\xff", 32)}
	for _, n := range []int{1, 16, 31, 32, 33, 63, 64, 4096, 1 << 16} {
		l = append(l, rows(n))
	}
	return l
}

// names are texts at the bounds of a name's length, and beyond, and each byte alone, and first, last and amid others.
func names() []string {
	x := func(n int) string { return strings.Repeat("x", n) }
	l := []string{"", "a", "z", "0", "9", "a0", "9z", "abcdefghijklmnop", "qrstuvwxyz012345", "6789", x(15), x(16), x(17), x(18), x(32), x(256), x(272), x(1 << 16), "caf\u00e9", "\u0661", " a", "a ", "a b", "A", "aB", "a\n", "a\x00"}
	for b := range 256 {
		one := string([]byte{byte(b)})
		l = append(l, one, one+"a", "a"+one, "0"+one+"z", x(15)+one, one+x(15), x(7)+one+x(8), x(16)+one, one+x(16))
	}
	return l
}

// few are names that show each way in which one may be wrong, for where all would take long.
func few() []string {
	return []string{"", "a", "0", "z9", strings.Repeat("x", 15), strings.Repeat("9", 16), strings.Repeat("x", 17), "A", "a b", "\x00", "a\xff", strings.Repeat("x", 15) + "-", rows(32), strings.Repeat("a", 1<<16)}
}

// short tells a record so that a long text does not fill what is printed.
func short(r api.Record) string {
	return fmt.Sprintf("{%d %d %d %d %d %d %.20q %.20q}", r.Kind, r.Epoch, r.Time, r.Count, r.Target, r.Until, r.Root, r.Name)
}

// checkTake holds what is taken of s against what is asked; what was taken, put, is what was cut off.
func checkTake(t *testing.T, s string) {
	t.Helper()
	r, rest, e := record.Take(s)
	if w, left, f := wantTake(s); r != w || rest != left || e != f {
		t.Errorf("Take(%d bytes %.90x): %s %d bytes %d, asked %s %d bytes %d", len(s), s, short(r), len(rest), e, short(w), len(left), f)
	}
	if e != api.OK {
		return
	}
	if again, f := record.Put(r); again+rest != s || f != api.OK {
		t.Errorf("Put(Take(%.90x)): %.90x %d", s, again, f)
	}
}

// checkRecord holds what is told of a record against what is asked; of one that may be Take leads back, whatever is behind.
func checkRecord(t *testing.T, r api.Record) {
	t.Helper()
	if e, w := record.Check(r), wantCheck(r); e != w {
		t.Errorf("Check(%s): %d, asked %d", short(r), e, w)
	}
	s, e := record.Put(r)
	if w, f := wantPut(r); s != w || e != f {
		t.Errorf("Put(%s): %d bytes %.90x %d, asked %d bytes %.90x %d", short(r), len(s), s, e, len(w), w, f)
	}
	if shown, w := record.Show(r), wantShow(r); shown != w {
		t.Errorf("Show(%s): %q, asked %q", short(r), shown, w)
	}
	if e != api.OK {
		return
	}
	for _, behind := range []string{"", "\x00", "x", s} {
		if back, rest, f := record.Take(s + behind); back != r || rest != behind || f != api.OK {
			t.Errorf("Take(Put(%s) and %d bytes): %s %d bytes %d", short(r), len(behind), short(back), len(rest), f)
		}
	}
}

// refused tells if something is taken of s, or is told beside its error.
func refused(t *testing.T, what, s string) {
	t.Helper()
	if r, rest, e := record.Take(s); r != (api.Record{}) || rest != "" || e != api.ErrForm {
		t.Errorf("Take of %s: %s %d bytes %d, asked %d", what, short(r), len(rest), e, api.ErrForm)
	}
}

// The chapter's example.
func TestExample(t *testing.T) {
	r := api.Record{Kind: api.RecHold, Epoch: 3, Time: 9, Target: 2, Name: "a"}
	if e := record.Check(r); e != api.OK {
		t.Errorf("Check: %d", e)
	}
	if s := record.Show(r); s != "hold a 2 at 9" {
		t.Errorf("Show: %q", s)
	}
	s, e := record.Put(r)
	if want := hexed(t, "03 00000003 0000000000000009 00000000 00000002 0000000000000000 00000000 00000001 61"); s != want || e != api.OK {
		t.Errorf("Put: %x %d", s, e)
	}
	if back, rest, f := record.Take(s + "behind"); back != r || rest != "behind" || f != api.OK {
		t.Errorf("Take: %v %q %d", back, rest, f)
	}
}

// P19.1: the kinds are those that api numbers.
func TestKinds(t *testing.T) {
	for i, k := range []int{api.RecClose, api.RecRetain, api.RecHold, api.RecRelease, api.RecPurge} {
		if k != right()[i].Kind {
			t.Errorf("the kind %d is %d", k, right()[i].Kind)
		}
	}
	for _, k := range kinds() {
		for _, r := range append(right(), api.Record{}, api.Record{Epoch: 7, Time: 70}, api.Record{Epoch: 7, Time: 70, Target: 6}) {
			was := r.Kind
			r.Kind = k
			checkRecord(t, r)
			if k < closed || k > purged {
				if e := record.Check(r); e != api.ErrArg {
					t.Errorf("Check of the kind %d: %d", k, e)
				}
			}
			if k == 0 || k > purged && k < 256 {
				refused(t, "a kind that is none", laid(r))
			}
			// a retention and a purge say the same, and a release is a hold of the epoch 0, if its kind is turned
			may := k == was || k == retained && was == purged || k == purged && was == retained || k == holds && was == released
			if e := record.Check(r); was != 0 && (e == api.OK) != may {
				t.Errorf("a record of the kind %d as one of %d: %t", was, k, may)
			}
		}
	}
}

// P19.1: which records may be, each thing wrong alone and with others.
func TestCheckByHand(t *testing.T) {
	root, name := rows(32), "abcdefghijklm019"
	for _, c := range []struct {
		r api.Record
		e api.Errno
	}{
		{api.Record{}, api.ErrArg},
		// closures
		{api.Record{Kind: 1, Root: root}, api.OK},
		{api.Record{Kind: 1, Epoch: lastEpoch, Time: lastTime, Count: 4096, Root: root}, api.OK},
		{api.Record{Kind: 1, Epoch: 1, Time: 1, Count: 1, Root: strings.Repeat("\x00", 32)}, api.OK},
		{api.Record{Kind: 1, Epoch: -1, Root: root}, api.ErrArg},
		{api.Record{Kind: 1, Epoch: lastEpoch + 1, Root: root}, api.ErrArg},
		{api.Record{Kind: 1, Epoch: math.MinInt64, Root: root}, api.ErrArg},
		{api.Record{Kind: 1, Epoch: math.MaxInt64, Root: root}, api.ErrArg},
		{api.Record{Kind: 1, Time: -1, Root: root}, api.ErrArg},
		{api.Record{Kind: 1, Time: lastTime + 1, Root: root}, api.ErrArg},
		{api.Record{Kind: 1, Time: math.MinInt64, Root: root}, api.ErrArg},
		{api.Record{Kind: 1, Time: math.MaxInt64, Root: root}, api.ErrArg},
		{api.Record{Kind: 1, Count: -1, Root: root}, api.ErrArg},
		{api.Record{Kind: 1, Count: 4095, Root: root}, api.OK},
		{api.Record{Kind: 1, Count: 4097, Root: root}, api.ErrArg},
		{api.Record{Kind: 1, Count: lastEpoch + 1, Root: root}, api.ErrArg},
		{api.Record{Kind: 1}, api.ErrArg},
		{api.Record{Kind: 1, Root: root[:1]}, api.ErrArg},
		{api.Record{Kind: 1, Root: root[:31]}, api.ErrArg},
		{api.Record{Kind: 1, Root: root + "x"}, api.ErrArg},
		{api.Record{Kind: 1, Root: root + root}, api.ErrArg},
		{api.Record{Kind: 1, Root: strings.Repeat("x", 1<<20)}, api.ErrArg},
		{api.Record{Kind: 1, Epoch: 2, Root: root, Target: 1}, api.ErrArg},
		{api.Record{Kind: 1, Epoch: 2, Root: root, Target: -1}, api.ErrArg},
		{api.Record{Kind: 1, Epoch: 2, Root: root, Until: 1}, api.ErrArg},
		{api.Record{Kind: 1, Epoch: 2, Root: root, Name: "a"}, api.ErrArg},
		{api.Record{Kind: 1, Epoch: 2, Root: root, Name: "A"}, api.ErrArg},
		{api.Record{Kind: 1, Epoch: -1, Time: -1, Count: -1, Target: -1, Until: -1, Root: "x", Name: "A"}, api.ErrArg},
		// retentions
		{api.Record{Kind: 2, Epoch: 1}, api.OK},
		{api.Record{Kind: 2, Epoch: lastEpoch, Time: lastTime, Target: lastEpoch - 1, Until: lastTime}, api.OK},
		{api.Record{Kind: 2, Epoch: 9, Time: 5, Target: 8, Until: 1}, api.OK},
		{api.Record{Kind: 2}, api.ErrArg},
		{api.Record{Kind: 2, Epoch: 1, Target: -1}, api.ErrArg},
		{api.Record{Kind: 2, Epoch: 1, Target: 1}, api.ErrArg},
		{api.Record{Kind: 2, Epoch: 1, Target: 2}, api.ErrArg},
		{api.Record{Kind: 2, Epoch: lastEpoch, Target: lastEpoch}, api.ErrArg},
		{api.Record{Kind: 2, Epoch: lastEpoch + 1, Target: lastEpoch}, api.ErrArg},
		{api.Record{Kind: 2, Epoch: lastEpoch + 1}, api.ErrArg},
		{api.Record{Kind: 2, Epoch: math.MinInt64, Target: math.MaxInt64}, api.ErrArg},
		{api.Record{Kind: 2, Epoch: math.MinInt64, Target: 5}, api.ErrArg},
		{api.Record{Kind: 2, Epoch: -1, Target: -2}, api.ErrArg},
		{api.Record{Kind: 2, Epoch: math.MaxInt64, Target: 5}, api.ErrArg},
		{api.Record{Kind: 2, Epoch: 1, Until: -1}, api.ErrArg},
		{api.Record{Kind: 2, Epoch: 1, Until: lastTime + 1}, api.ErrArg},
		{api.Record{Kind: 2, Epoch: 1, Time: -1}, api.ErrArg},
		{api.Record{Kind: 2, Epoch: 1, Time: lastTime + 1}, api.ErrArg},
		{api.Record{Kind: 2, Epoch: 1, Count: 1}, api.ErrArg},
		{api.Record{Kind: 2, Epoch: 1, Count: -1}, api.ErrArg},
		{api.Record{Kind: 2, Epoch: 1, Root: root}, api.ErrArg},
		{api.Record{Kind: 2, Epoch: 1, Root: "\x00"}, api.ErrArg},
		{api.Record{Kind: 2, Epoch: 1, Name: name}, api.ErrArg},
		// holds
		{api.Record{Kind: 3, Epoch: 1, Name: name}, api.OK},
		{api.Record{Kind: 3, Epoch: lastEpoch, Time: lastTime, Target: lastEpoch - 1, Name: "0"}, api.OK},
		{api.Record{Kind: 3, Name: name}, api.ErrArg},
		{api.Record{Kind: 3, Epoch: 1, Target: 1, Name: name}, api.ErrArg},
		{api.Record{Kind: 3, Epoch: 1, Target: -1, Name: name}, api.ErrArg},
		{api.Record{Kind: 3, Epoch: 2, Target: 3, Name: name}, api.ErrArg},
		{api.Record{Kind: 3, Epoch: lastEpoch + 1, Name: name}, api.ErrArg},
		{api.Record{Kind: 3, Epoch: 1, Time: -1, Name: name}, api.ErrArg},
		{api.Record{Kind: 3, Epoch: 1, Time: lastTime + 1, Name: name}, api.ErrArg},
		{api.Record{Kind: 3, Epoch: 1}, api.ErrArg},
		{api.Record{Kind: 3, Epoch: 1, Name: name + "x"}, api.ErrArg},
		{api.Record{Kind: 3, Epoch: 1, Name: "A"}, api.ErrArg},
		{api.Record{Kind: 3, Epoch: 1, Count: 1, Name: name}, api.ErrArg},
		{api.Record{Kind: 3, Epoch: 1, Until: 1, Name: name}, api.ErrArg},
		{api.Record{Kind: 3, Epoch: 1, Root: root, Name: name}, api.ErrArg},
		// releases
		{api.Record{Kind: 4, Name: name}, api.OK},
		{api.Record{Kind: 4, Epoch: lastEpoch, Time: lastTime, Name: "z"}, api.OK},
		{api.Record{Kind: 4, Epoch: -1, Name: name}, api.ErrArg},
		{api.Record{Kind: 4, Epoch: lastEpoch + 1, Name: name}, api.ErrArg},
		{api.Record{Kind: 4, Time: -1, Name: name}, api.ErrArg},
		{api.Record{Kind: 4, Time: lastTime + 1, Name: name}, api.ErrArg},
		{api.Record{Kind: 4}, api.ErrArg},
		{api.Record{Kind: 4, Name: name + "x"}, api.ErrArg},
		{api.Record{Kind: 4, Name: "a-b"}, api.ErrArg},
		{api.Record{Kind: 4, Epoch: 2, Target: 1, Name: name}, api.ErrArg},
		{api.Record{Kind: 4, Epoch: 2, Count: 1, Name: name}, api.ErrArg},
		{api.Record{Kind: 4, Epoch: 2, Until: 1, Name: name}, api.ErrArg},
		{api.Record{Kind: 4, Epoch: 2, Root: root, Name: name}, api.ErrArg},
		// purges
		{api.Record{Kind: 5, Epoch: 1}, api.OK},
		{api.Record{Kind: 5, Epoch: lastEpoch, Time: lastTime, Target: lastEpoch - 1, Until: lastTime}, api.OK},
		{api.Record{Kind: 5, Epoch: 9, Time: 5, Target: 8, Until: 6}, api.OK},
		{api.Record{Kind: 5}, api.ErrArg},
		{api.Record{Kind: 5, Epoch: 1, Target: 1}, api.ErrArg},
		{api.Record{Kind: 5, Epoch: 1, Target: -1}, api.ErrArg},
		{api.Record{Kind: 5, Epoch: 1, Until: -1}, api.ErrArg},
		{api.Record{Kind: 5, Epoch: 1, Until: lastTime + 1}, api.ErrArg},
		{api.Record{Kind: 5, Epoch: 1, Time: -1}, api.ErrArg},
		{api.Record{Kind: 5, Epoch: 1, Count: 1}, api.ErrArg},
		{api.Record{Kind: 5, Epoch: 1, Root: root}, api.ErrArg},
		{api.Record{Kind: 5, Epoch: 1, Name: name}, api.ErrArg},
		// kinds that are none
		{api.Record{Kind: 6, Epoch: 1}, api.ErrArg},
		{api.Record{Kind: -1, Epoch: 1}, api.ErrArg},
		{api.Record{Kind: 0, Epoch: 1}, api.ErrArg},
		{api.Record{Kind: 255, Epoch: 1, Name: name}, api.ErrArg},
		{api.Record{Kind: 256 + 4, Epoch: 1, Name: name}, api.ErrArg},
		{api.Record{Kind: math.MinInt64 + 4, Name: name}, api.ErrArg},
		{api.Record{Kind: math.MaxInt64, Root: root}, api.ErrArg},
	} {
		if e := record.Check(c.r); e != c.e {
			t.Errorf("Check(%s): %d, asked %d", short(c.r), e, c.e)
		}
		checkRecord(t, c.r)
		checkTake(t, laid(c.r))
		if c.e == api.OK {
			continue
		}
		if s, e := record.Put(c.r); s != "" || e != api.ErrArg {
			t.Errorf("Put(%s): %x %d", short(c.r), s, e)
		}
		if s := record.Show(c.r); s != "" {
			t.Errorf("Show(%s): %q", short(c.r), s)
		}
	}
}

// changes are all ways to set one thing of a record to a bound of it, or beyond.
func changes(epoch int) [][]func(r *api.Record) {
	l := make([][]func(r *api.Record), 8)
	number := func(to int, numbers []int, field func(r *api.Record) *int) {
		for _, n := range numbers {
			l[to] = append(l[to], func(r *api.Record) { *field(r) = n })
		}
	}
	number(0, kinds(), func(r *api.Record) *int { return &r.Kind })
	number(1, epochs(), func(r *api.Record) *int { return &r.Epoch })
	number(2, times(), func(r *api.Record) *int { return &r.Time })
	number(3, counts(), func(r *api.Record) *int { return &r.Count })
	number(4, targets(epoch), func(r *api.Record) *int { return &r.Target })
	number(5, times(), func(r *api.Record) *int { return &r.Until })
	for _, s := range roots() {
		l[6] = append(l[6], func(r *api.Record) { r.Root = s })
	}
	for _, s := range few() {
		l[7] = append(l[7], func(r *api.Record) { r.Name = s })
	}
	return l
}

// P19.1, P19.2, P19.3: of each kind one thing at each of its bounds and beyond, and each two things.
func TestBounds(t *testing.T) {
	for _, base := range right() {
		all := changes(base.Epoch)
		for i, first := range all {
			for _, one := range first {
				r := base
				one(&r)
				checkRecord(t, r)
				checkTake(t, laid(r)+"behind")
				for _, second := range all[i+1:] {
					for _, other := range second {
						both := r
						other(&both)
						checkRecord(t, both)
						checkTake(t, laid(both))
					}
				}
			}
		}
	}
}

// P19.1: all things at once, each as it may be, and in one or two ways as it may not.
func TestSeveral(t *testing.T) {
	all := changes(2)
	var pick func(r api.Record, at int)
	pick = func(r api.Record, at int) {
		if at == len(all) {
			checkRecord(t, r)
			return
		}
		for _, i := range [][]int{{4, 5, 6, 7, 8, 9}, {3, 4, 6}, {2, 3}, {2, 3, 4}, {2, 3, 4, 7}, {2, 3, 4}, {0, 5, 6}, {0, 1, 6}}[at] {
			next := r
			all[at][i](&next)
			pick(next, at+1)
		}
	}
	pick(api.Record{}, 0)
}

// P19.1: names by hand.
func TestNameByHand(t *testing.T) {
	for _, c := range []struct {
		s  string
		ok bool
	}{
		{"", false},
		{"a", true}, {"z", true}, {"0", true}, {"9", true}, {"m5", true},
		{"abcdefghijklmno", true}, {"abcdefghijklmnop", true}, {"0123456789abcdef", true}, {"zzzzzzzzzzzzzzzz", true},
		{"abcdefghijklmnopq", false}, {strings.Repeat("a", 1<<20), false}, {strings.Repeat("0", 272), false},
		{"`", false}, {"{", false}, {"/", false}, {":", false}, {"A", false}, {"Z", false}, {"\x00", false}, {"\xff", false}, {" ", false}, {"-", false}, {"_", false}, {"\xe1", false}, {"\xb0", false},
		{"a b", false}, {"aB", false}, {"a\x00", false}, {"\x00a", false}, {"abcdefghijklmno-", false}, {"-bcdefghijklmnop", false}, {"caf\u00e9", false}, {"a\n", false},
	} {
		if ok := record.Name(c.s); ok != c.ok {
			t.Errorf("Name(%.20q): %t, asked %t", c.s, ok, c.ok)
		}
	}
}

// P19.1: names with each byte, alone and amid others, and records with them.
func TestNames(t *testing.T) {
	may := 0
	for b := range 256 {
		if record.Name(string([]byte{byte(b)})) {
			may++
		}
	}
	if may != 36 {
		t.Errorf("%d bytes are names", may)
	}
	for _, s := range append(names(), roots()...) {
		if ok := record.Name(s); ok != wantName(s) {
			t.Errorf("Name(%.20q): %t, asked %t", s, ok, wantName(s))
		}
		for _, r := range right() {
			r.Name = s
			checkRecord(t, r)
			checkTake(t, laid(r)+s)
		}
	}
}

// P19.1: a record's bytes, worked out by hand.
func TestPutByHand(t *testing.T) {
	for _, c := range []struct {
		r     api.Record
		bytes string
	}{
		{api.Record{Kind: api.RecClose, Epoch: 0x01020304, Time: 0x0506070809, Count: 0x0a0b, Root: "0123456789abcdefghijklmnopqrstuv"},
			"01 01020304 0000000506070809 00000a0b 00000000 0000000000000000 00000020 303132333435363738396162636465666768696a6b6c6d6e6f70717273747576 00000000"},
		{api.Record{Kind: api.RecRetain, Epoch: 0x11121314, Time: 1, Target: 0x0c0d0e0f, Until: 0x7172737475},
			"02 11121314 0000000000000001 00000000 0c0d0e0f 0000007172737475 00000000 00000000"},
		{api.Record{Kind: api.RecHold, Epoch: lastEpoch, Time: lastTime, Target: lastEpoch - 1, Name: "abcdefghijklm019"},
			"03 ffffffff 0000010000000000 00000000 fffffffe 0000000000000000 00000000 00000010 6162636465666768696a6b6c6d303139"},
		{api.Record{Kind: api.RecRelease, Name: "z9"},
			"04 00000000 0000000000000000 00000000 00000000 0000000000000000 00000000 00000002 7a39"},
		{api.Record{Kind: api.RecPurge, Epoch: 1, Time: 256, Until: lastTime},
			"05 00000001 0000000000000100 00000000 00000000 0000010000000000 00000000 00000000"},
	} {
		want := hexed(t, c.bytes)
		if s, e := record.Put(c.r); s != want || e != api.OK {
			t.Errorf("Put(%s): %x %d, asked %x", short(c.r), s, e, want)
		}
		for _, behind := range []string{"", "\x00", "behind", want} {
			if r, rest, e := record.Take(want + behind); r != c.r || rest != behind || e != api.OK {
				t.Errorf("Take(%x and %q): %s %q %d", want, behind, short(r), rest, e)
			}
		}
	}
}

// P19.2: bytes that are none's, or that are somebody's though they look odd, by hand.
func TestTakeByHand(t *testing.T) {
	const hold = "03 00000003 0000000000000009 00000000 00000002 0000000000000000 00000000 00000001 61"
	root := strings.Repeat("5a", 32)
	for _, c := range []struct {
		bytes string
		r     api.Record
		rest  string
	}{
		{hold, api.Record{Kind: 3, Epoch: 3, Time: 9, Target: 2, Name: "a"}, ""},
		{hold + "61", api.Record{Kind: 3, Epoch: 3, Time: 9, Target: 2, Name: "a"}, "a"},
		{hold + hold + "00", api.Record{Kind: 3, Epoch: 3, Time: 9, Target: 2, Name: "a"}, hexed(t, hold+"00")},
		{"01 00000000 0000000000000000 00000000 00000000 0000000000000000 00000020" + root + "00000000 ff", api.Record{Kind: 1, Root: strings.Repeat("Z", 32)}, "\xff"},
		{"05 ffffffff 0000010000000000 00000000 fffffffe 0000010000000000 00000000 00000000 0000", api.Record{Kind: 5, Epoch: lastEpoch, Time: lastTime, Target: lastEpoch - 1, Until: lastTime}, "\x00\x00"},
	} {
		if r, rest, e := record.Take(hexed(t, c.bytes)); r != c.r || rest != c.rest || e != api.OK {
			t.Errorf("Take(%s): %s %x %d, asked %s %x", c.bytes, short(r), rest, e, short(c.r), c.rest)
		}
	}
	for _, bytes := range []string{
		"", "03", "00", "0300000003",
		// a kind that is none
		"00 00000003 0000000000000009 00000000 00000002 0000000000000000 00000000 00000001 61",
		"06 00000003 0000000000000009 00000000 00000002 0000000000000000 00000000 00000001 61",
		"ff 00000003 0000000000000009 00000000 00000002 0000000000000000 00000000 00000001 61",
		// another kind's
		"01 00000003 0000000000000009 00000000 00000002 0000000000000000 00000000 00000001 61",
		"02 00000003 0000000000000009 00000000 00000002 0000000000000000 00000000 00000001 61",
		"04 00000003 0000000000000009 00000000 00000002 0000000000000000 00000000 00000001 61",
		"05 00000003 0000000000000009 00000000 00000002 0000000000000000 00000000 00000001 61",
		// a Target that is the Epoch, or beyond
		"03 00000002 0000000000000009 00000000 00000002 0000000000000000 00000000 00000001 61",
		"03 00000001 0000000000000009 00000000 00000002 0000000000000000 00000000 00000001 61",
		"03 00000000 0000000000000009 00000000 00000000 0000000000000000 00000000 00000001 61",
		"03 ffffffff 0000000000000009 00000000 ffffffff 0000000000000000 00000000 00000001 61",
		// a Time beyond the last, and such as is no int
		"03 00000003 0000010000000001 00000000 00000002 0000000000000000 00000000 00000001 61",
		"03 00000003 7fffffffffffffff 00000000 00000002 0000000000000000 00000000 00000001 61",
		"03 00000003 8000000000000009 00000000 00000002 0000000000000000 00000000 00000001 61",
		"03 00000003 ffffffffffffffff 00000000 00000002 0000000000000000 00000000 00000001 61",
		// something that a hold does not say
		"03 00000003 0000000000000009 00000001 00000002 0000000000000000 00000000 00000001 61",
		"03 00000003 0000000000000009 00000000 00000002 0000000000000001 00000000 00000001 61",
		"03 00000003 0000000000000009 00000000 00000002 8000000000000000 00000000 00000001 61",
		"03 00000003 0000000000000009 00000000 00000002 ffffffffffffffff 00000000 00000001 61",
		"03 00000003 0000000000000009 00000000 00000002 0000000000000000 00000001 00 00000001 61",
		"03 00000003 0000000000000009 00000000 00000002 0000000000000000 00000020" + root + "00000001 61",
		// no name, and one that is too long
		"03 00000003 0000000000000009 00000000 00000002 0000000000000000 00000000 00000000 61",
		"03 00000003 0000000000000009 00000000 00000002 0000000000000000 00000000 00000001 41",
		"03 00000003 0000000000000009 00000000 00000002 0000000000000000 00000000 00000002 6100",
		"03 00000003 0000000000000009 00000000 00000002 0000000000000000 00000000 00000011 6161616161616161616161616161616161",
		// a closure with a Count, or a Root, that may not be, or with a Name
		"01 00000000 0000000000000000 00001001 00000000 0000000000000000 00000020" + root + "00000000",
		"01 00000000 0000000000000000 ffffffff 00000000 0000000000000000 00000020" + root + "00000000",
		"01 00000000 0000000000000000 00000000 00000000 0000000000000000 0000001f" + root[2:] + "00000000",
		"01 00000000 0000000000000000 00000000 00000000 0000000000000000 00000021" + root + "5a 00000000",
		"01 00000000 0000000000000000 00000000 00000000 0000000000000000 00000000 00000000",
		"01 00000000 0000000000000000 00000000 00000000 0000000000000000 00000020" + root + "00000001 61",
		// an Until beyond the last
		"02 00000003 0000000000000009 00000000 00000002 0000010000000001 00000000 00000000",
		"05 00000003 0000000000000009 00000000 00000002 0000010000000001 00000000 00000000",
		"05 00000003 0000000000000009 00000000 00000002 ffffffffffffffff 00000000 00000000",
		// lengths of more than is there
		"03 00000003 0000000000000009 00000000 00000002 0000000000000000 00000000 00000002 61",
		"03 00000003 0000000000000009 00000000 00000002 0000000000000000 00000000 ffffffff 61",
		"03 00000003 0000000000000009 00000000 00000002 0000000000000000 00000006 00000001 61",
		"03 00000003 0000000000000009 00000000 00000002 0000000000000000 ffffffff 00000001 61",
		"01 00000000 0000000000000000 00000000 00000000 0000000000000000 80000020" + root + "00000000",
	} {
		refused(t, bytes, hexed(t, bytes))
		checkTake(t, hexed(t, bytes))
	}
}

// some are records that may be, of each kind, with numbers and texts at their bounds and between.
func some() []api.Record {
	l := right()
	for _, epoch := range []int{0, 1, 2, 255, 256, 1 << 16, lastEpoch - 1, lastEpoch} {
		for _, time := range []int{0, 1, 256, lastEpoch + 1, lastTime} {
			for _, root := range []string{rows(32), strings.Repeat("\x00", 32), strings.Repeat("a", 32)} {
				l = append(l, api.Record{Kind: closed, Epoch: epoch, Time: time, Root: root}, api.Record{Kind: closed, Epoch: epoch, Time: time, Count: lastCount, Root: root})
			}
			for _, name := range []string{"a", "aa", "b", "0", "a0", strings.Repeat("a", 15), strings.Repeat("a", 16)} {
				l = append(l, api.Record{Kind: released, Epoch: epoch, Time: time, Name: name})
				for _, target := range []int{0, 1, epoch - 1} {
					if 0 <= target && target < epoch {
						l = append(l, api.Record{Kind: holds, Epoch: epoch, Time: time, Target: target, Name: name})
					}
				}
			}
			for _, until := range []int{0, 1, lastTime} {
				for _, target := range []int{0, 1, epoch - 1} {
					if 0 <= target && target < epoch {
						l = append(l, api.Record{Kind: retained, Epoch: epoch, Time: time, Target: target, Until: until}, api.Record{Kind: purged, Epoch: epoch, Time: time, Target: target, Until: until})
					}
				}
			}
		}
	}
	return l
}

// put are the bytes of a record that may be.
func put(t *testing.T, r api.Record) string {
	t.Helper()
	s, e := record.Put(r)
	if e != api.OK {
		t.Fatalf("Put(%s): %d", short(r), e)
	}
	return s
}

// P19.2, P19.4: whatever is behind a record it is taken, and what is behind is left as it is.
func TestBehind(t *testing.T) {
	all := some()
	for i, r := range all {
		s := put(t, r)
		other := all[i*7%len(all)]
		for _, behind := range []string{"", "\x00", "\xff", "a", s[:1], s[:len(s)-1], s, s + s, put(t, other), laid(api.Record{}), strings.Repeat("\x00x", 1<<19>>(i%20))} {
			if back, rest, e := record.Take(s + behind); back != r || rest != behind || e != api.OK {
				t.Errorf("Take(Put(%s) and %d bytes): %s %d bytes %d", short(r), len(behind), short(back), len(rest), e)
			}
		}
		// a record, taken off a row of them, leaves the others
		back, rest, e := record.Take(s + put(t, other))
		next, left, f := record.Take(rest)
		if back != r || next != other || left != "" || e != api.OK || f != api.OK {
			t.Errorf("two of a row: %s %d, %s %d, %d bytes", short(back), e, short(next), f, len(left))
		}
	}
}

// P19.2, P19.5: no beginning of a record's bytes that is shorter is one's.
func TestBeginnings(t *testing.T) {
	for _, r := range some() {
		s := put(t, r)
		for n := range len(s) {
			refused(t, fmt.Sprintf("%d of the %d bytes of %s", n, len(s), short(r)), s[:n])
		}
	}
}

// P19.2, P19.5: of bytes one is turned, each in its turn and in each way: they are another record's, or none's.
func TestTurned(t *testing.T) {
	for _, r := range right() {
		s := put(t, r)
		for at := range s {
			for by := 1; by < 256; by++ {
				other := turned(s, at, byte(by))
				checkTake(t, other)
				if back, rest, e := record.Take(other); e == api.OK && back == r {
					t.Errorf("%s is taken of %x, with %d bytes behind", short(r), other, len(rest))
				}
				// with so much behind it that lengths that became greater are there, too
				checkTake(t, other+strings.Repeat("a", 300))
			}
		}
	}
}

// P19.2: lengths of a Root and of a Name that are not those that stand there.
func TestLengths(t *testing.T) {
	for _, r := range right() {
		s := laid(r)
		nameAt := numbersTo + 4 + len(r.Root)
		for _, n := range []int{0, 1, 2, 4, 5, 15, 16, 17, 31, 32, 33, 36, 37, 64, 255, 256, 4096, 1<<16 + 32, 1<<31 - 1, 1 << 31, 1<<31 + 32, 1<<32 - 33, 1<<32 - 32, 1<<32 - 5, 1<<32 - 4, 1<<32 - 1} {
			for _, behind := range []string{"", "a", strings.Repeat("a", 40), strings.Repeat("\x00", 40)} {
				checkTake(t, s[:numbersTo]+long(n)+s[numbersTo+4:]+behind)
				checkTake(t, s[:nameAt]+long(n)+s[nameAt+4:]+behind)
				checkTake(t, s[:numbersTo]+long(n)+s[numbersTo+4:nameAt]+long(n)+s[nameAt+4:]+behind)
			}
			if n > len(s) {
				refused(t, "a Root of more than is there", s[:numbersTo]+long(n)+s[numbersTo+4:])
				refused(t, "a Name of more than is there", s[:nameAt]+long(n)+s[nameAt+4:])
			}
		}
	}
}

// P19.2: bytes of records that may not be by something that a number's bytes can tell.
func TestMayNotBe(t *testing.T) {
	root := rows(32)
	for _, r := range []api.Record{
		{}, {Kind: 6}, {Kind: 255, Name: "a"}, {Kind: 6, Root: root}, {Kind: 0, Root: root},
		{Kind: 1, Root: root, Time: lastTime + 1}, {Kind: 1, Root: root, Count: 4097}, {Kind: 1, Root: root, Count: lastEpoch}, {Kind: 1, Root: root[:31]}, {Kind: 1, Root: root + "x"}, {Kind: 1}, {Kind: 1, Root: root, Name: "a"}, {Kind: 1, Epoch: 2, Root: root, Target: 1}, {Kind: 1, Root: root, Until: 1},
		{Kind: 2}, {Kind: 2, Epoch: 1, Target: 1}, {Kind: 2, Epoch: 1, Until: lastTime + 1}, {Kind: 2, Epoch: 1, Count: 1}, {Kind: 2, Epoch: 1, Root: root}, {Kind: 2, Epoch: 1, Name: "a"},
		{Kind: 3, Name: "a"}, {Kind: 3, Epoch: 1}, {Kind: 3, Epoch: 1, Name: "A"}, {Kind: 3, Epoch: 1, Name: strings.Repeat("a", 17)}, {Kind: 3, Epoch: 1, Target: 1, Name: "a"}, {Kind: 3, Epoch: 1, Count: 1, Name: "a"}, {Kind: 3, Epoch: 1, Until: 1, Name: "a"}, {Kind: 3, Epoch: 1, Root: "a", Name: "a"},
		{Kind: 4}, {Kind: 4, Name: "\x00"}, {Kind: 4, Name: strings.Repeat("a", 1<<16)}, {Kind: 4, Name: "a", Time: lastTime + 1}, {Kind: 4, Name: "a", Count: 1}, {Kind: 4, Epoch: 2, Name: "a", Target: 1}, {Kind: 4, Name: "a", Until: 1}, {Kind: 4, Name: "a", Root: root},
		{Kind: 5}, {Kind: 5, Epoch: 1, Target: 1}, {Kind: 5, Epoch: 1, Until: lastTime + 1}, {Kind: 5, Epoch: 1, Count: 1}, {Kind: 5, Epoch: 1, Root: root}, {Kind: 5, Epoch: 1, Name: "a"}, {Kind: 5, Epoch: 1, Time: math.MaxInt64},
	} {
		for _, behind := range []string{"", "a", root, laid(right()[0])} {
			refused(t, "the bytes of "+short(r), laid(r)+behind)
		}
	}
}

// P19.2: texts that are empty, short and long, of one byte alone and of many.
func TestTexts(t *testing.T) {
	for _, n := range []int{0, 1, 2, 28, 29, 30, 32, 33, 36, 37, 38, 64, 69, 70, 100, 4096, 1 << 20} {
		for b := range 8 {
			refused(t, "so many equal bytes", strings.Repeat(string([]byte{byte(b)}), n))
			checkTake(t, strings.Repeat(string([]byte{byte(b)}), n))
		}
		refused(t, "equal bytes 255", strings.Repeat("\xff", n))
		refused(t, "a row of bytes", rows(n))
	}
}

// P19.5: unlike records have unlike bytes, of which none begins with the other's: of rows that rise, that would be seen in neighbours.
func TestApart(t *testing.T) {
	of := map[string]api.Record{}
	var l []string
	for _, r := range some() {
		s := put(t, r)
		if other, ok := of[s]; ok && other != r {
			t.Errorf("%s and %s have the bytes %x", short(r), short(other), s)
		} else if !ok {
			l = append(l, s)
		}
		of[s] = r
	}
	if len(l) < 1000 {
		t.Fatalf("only %d records", len(l))
	}
	slices.Sort(l)
	for i := 1; i < len(l); i++ {
		if strings.HasPrefix(l[i], l[i-1]) {
			t.Errorf("the bytes of %s begin those of %s", short(of[l[i-1]]), short(of[l[i]]))
		}
	}
}

// P19.3: what is shown, by hand.
func TestShowByHand(t *testing.T) {
	root := rows(32)
	for _, c := range []struct {
		r     api.Record
		shown string
	}{
		{api.Record{Kind: 1, Root: root}, "close 0 0 at 0"},
		{api.Record{Kind: 1, Epoch: 1, Time: 10, Count: 9, Root: root}, "close 1 9 at 10"},
		{api.Record{Kind: 1, Epoch: 99, Time: 1, Count: 100, Root: root}, "close 99 100 at 1"},
		{api.Record{Kind: 1, Epoch: lastEpoch, Time: lastTime, Count: 4096, Root: root}, "close 4294967295 4096 at 1099511627776"},
		{api.Record{Kind: 2, Epoch: 1}, "retain 0 0 at 0"},
		{api.Record{Kind: 2, Epoch: 11, Time: 99, Target: 10, Until: 100}, "retain 10 100 at 99"},
		{api.Record{Kind: 2, Epoch: lastEpoch, Time: lastTime, Target: lastEpoch - 1, Until: lastTime}, "retain 4294967294 1099511627776 at 1099511627776"},
		{api.Record{Kind: 3, Epoch: 3, Time: 9, Target: 2, Name: "a"}, "hold a 2 at 9"},
		{api.Record{Kind: 3, Epoch: 101, Time: 0, Target: 100, Name: "at"}, "hold at 100 at 0"},
		{api.Record{Kind: 3, Epoch: lastEpoch, Time: lastTime, Target: lastEpoch - 1, Name: "0123456789abcdef"}, "hold 0123456789abcdef 4294967294 at 1099511627776"},
		{api.Record{Kind: 4, Name: "007"}, "release 007 at 0"},
		{api.Record{Kind: 4, Epoch: 9, Time: 100, Name: "case9"}, "release case9 at 100"},
		{api.Record{Kind: 4, Epoch: lastEpoch, Time: lastTime, Name: "zzzzzzzzzzzzzzzz"}, "release zzzzzzzzzzzzzzzz at 1099511627776"},
		{api.Record{Kind: 5, Epoch: 1}, "purge 0 0 at 0"},
		{api.Record{Kind: 5, Epoch: 11, Time: 10, Target: 9, Until: 1}, "purge 9 1 at 10"},
		{api.Record{Kind: 5, Epoch: lastEpoch, Time: lastTime, Target: lastEpoch - 1, Until: lastTime}, "purge 4294967294 1099511627776 at 1099511627776"},
		// such as may not be
		{api.Record{}, ""},
		{api.Record{Kind: 6, Epoch: 1}, ""},
		{api.Record{Kind: -1, Epoch: 1}, ""},
		{api.Record{Kind: 1}, ""},
		{api.Record{Kind: 1, Epoch: -1, Root: root}, ""},
		{api.Record{Kind: 2}, ""},
		{api.Record{Kind: 3, Epoch: 3, Time: 9, Target: 3, Name: "a"}, ""},
		{api.Record{Kind: 3, Epoch: 3, Time: 9, Target: 2}, ""},
		{api.Record{Kind: 4, Time: -1, Name: "a"}, ""},
		{api.Record{Kind: 4, Name: "a b"}, ""},
		{api.Record{Kind: 5, Epoch: 1, Until: -1}, ""},
		{api.Record{Kind: 5, Epoch: 1, Name: "a"}, ""},
	} {
		if s := record.Show(c.r); s != c.shown {
			t.Errorf("Show(%s): %q, asked %q", short(c.r), s, c.shown)
		}
	}
}

// P19.3: of each kind with few and many digits.
func TestShow(t *testing.T) {
	numbers := []int{0, 1, 9, 10, 99, 100, lastCount, lastEpoch - 1, lastEpoch, lastTime}
	for kind := closed; kind <= purged; kind++ {
		for _, epoch := range numbers {
			for _, time := range numbers {
				for _, n := range numbers {
					for _, until := range numbers {
						r := api.Record{Kind: kind, Epoch: epoch, Time: time}
						switch kind {
						case closed:
							r.Count, r.Root = n, rows(32)
						case retained, purged:
							r.Target, r.Until = n, until
						case holds:
							r.Target, r.Name = n, "a1"
						case released:
							r.Name = "a1"
						}
						checkRecord(t, r)
					}
				}
			}
		}
	}
}

// near is a number that often is at a bound.
func near(r *rand.Rand, most int) int {
	switch r.Intn(5) {
	case 0:
		return r.Intn(3) - 1
	case 1:
		return most + r.Intn(3) - 1
	case 2:
		return int(r.Uint64())
	}
	return r.Intn(max(1, most+1))
}

// anyRecord is a record that mostly may be, of any kind.
func anyRecord(r *rand.Rand) api.Record {
	out := api.Record{Kind: 1 + r.Intn(5), Epoch: 1 + r.Intn(lastEpoch), Time: r.Intn(lastTime + 1)}
	name := make([]byte, 1+r.Intn(16))
	for i := range name {
		name[i] = "abcdefghijklmnopqrstuvwxyz0123456789"[r.Intn(36)]
	}
	says := say(out.Kind)
	if strings.Contains(says, "C") {
		out.Count, out.Root = r.Intn(lastCount+1), rows(r.Intn(99) + 32)[:32]
	}
	if strings.Contains(says, "T") {
		out.Target = r.Intn(out.Epoch)
	}
	if strings.Contains(says, "U") {
		out.Until = r.Intn(lastTime + 1)
	}
	if strings.Contains(says, "N") {
		out.Name = string(name)
	}
	for range r.Intn(6) / 3 {
		switch r.Intn(8) {
		case 0:
			out.Kind = near(r, purged)
		case 1:
			out.Epoch = near(r, lastEpoch)
		case 2:
			out.Time = near(r, lastTime)
		case 3:
			out.Count = near(r, lastCount)
		case 4:
			out.Target = near(r, out.Epoch)
		case 5:
			out.Until = near(r, lastTime)
		case 6:
			out.Root = rows(near(r, 32) & 63)
		case 7:
			out.Name = string(name) + string([]byte{byte(r.Intn(256))})
		}
	}
	return out
}

// P19.1 to P19.5: long rows of records, laid one behind the other and taken again, and such as may not be amid them.
func TestRandom(t *testing.T) {
	r := rand.New(rand.NewSource(19))
	for range 400 {
		var all []api.Record
		row := ""
		for range r.Intn(60) {
			one := anyRecord(r)
			checkRecord(t, one)
			checkTake(t, laid(one))
			if wantCheck(one) == api.OK {
				all, row = append(all, one), row+put(t, one)
			}
		}
		for i, one := range all {
			back, rest, e := record.Take(row)
			if back != one || e != api.OK {
				t.Fatalf("the record %d of a row: %s %d, asked %s", i, short(back), e, short(one))
			}
			if row != "" {
				checkTake(t, turned(row, r.Intn(min(len(row), 90)), byte(r.Intn(256))))
				checkTake(t, row[r.Intn(len(row)):])
			}
			row = rest
		}
		if row != "" {
			t.Fatalf("%d bytes are left of a row", len(row))
		}
	}
}

// P1, P2: what a call answers hangs on its arguments alone, whatever was asked ahead of it.
func TestAgain(t *testing.T) {
	for range 3 {
		for _, r := range append(right(), api.Record{}, api.Record{Kind: 6, Root: "x"}, api.Record{Kind: 3, Epoch: 1, Name: "A"}) {
			was := r
			checkRecord(t, r)
			checkTake(t, laid(r)+"behind")
			checkTake(t, "")
			if r != was {
				t.Errorf("%s has become %s", short(was), short(r))
			}
		}
	}
}

// No call panics, and all answers are as the chapter's words say, at whatever numbers and bytes.
func FuzzCalls(f *testing.F) {
	for i, n := range append(epochs(), times()...) {
		r := right()[i%5]
		f.Add(r.Kind, n, r.Time, r.Count, r.Target, r.Until, r.Root, r.Name, laid(r), i, byte(1))
		f.Add(r.Kind, r.Epoch, n, r.Count, r.Target, r.Until, r.Root, r.Name, "", i, byte(128))
		f.Add(r.Kind, r.Epoch, r.Time, r.Count, n, r.Until, r.Root, r.Name, laid(r)[:i], i, byte(255))
		f.Add(r.Kind, r.Epoch, r.Time, n, r.Target, n, r.Root, r.Name, laid(r)+laid(r), i, byte(0))
		f.Add(n, n, n, n, n, n, "", "", "\x01", n, byte(n))
	}
	f.Fuzz(func(t *testing.T, kind, epoch, time, count, target, until int, root, name, bytes string, at int, by byte) {
		r := api.Record{Kind: kind, Epoch: epoch, Time: time, Count: count, Target: target, Until: until, Root: root, Name: name}
		checkAll(t, r, bytes)
		// most records may not be: the same one, brought to what its kind may say, or just beyond
		r = api.Record{Kind: kind&7 - 1, Epoch: epoch & (1<<33 - 1), Time: time & (1<<41 - 1)}
		says := say(r.Kind)
		if strings.Contains(says, "C") {
			r.Count, r.Root = count&8191, (root + rows(33))[:32+at&1]
		}
		if strings.Contains(says, "T") {
			r.Target = target & (1<<33 - 1) % max(1, r.Epoch+1)
		}
		if strings.Contains(says, "U") {
			r.Until = until & (1<<41 - 1)
		}
		if strings.Contains(says, "N") {
			r.Name = ("a" + name)[:min(len(name)+1, 17)]
		}
		checkAll(t, r, turned(laid(r), int(uint(at)%uint(len(laid(r)))), by)+bytes)
	})
}

func checkAll(t *testing.T, r api.Record, bytes string) {
	t.Helper()
	checkRecord(t, r)
	checkTake(t, laid(r))
	checkTake(t, laid(r)+bytes)
	checkTake(t, bytes)
	for _, s := range []string{r.Root, r.Name, bytes} {
		if ok := record.Name(s); ok != wantName(s) {
			t.Errorf("Name(%.20q): %t, asked %t", s, ok, wantName(s))
		}
	}
}
