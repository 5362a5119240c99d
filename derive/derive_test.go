package derive_test

import (
	"crypto/hkdf"
	stdhmac "crypto/hmac"
	"crypto/sha256"
	"encoding/binary"
	"encoding/hex"
	"math"
	"math/rand"
	"slices"
	"strings"
	"testing"

	"keepsake/api"
	"keepsake/derive"
	"keepsake/hmac"
	"keepsake/octet"
)

// text makes n bytes that are no row of one kind.
func text(n int) string {
	b := make([]byte, n)
	rand.New(rand.NewSource(int64(n) + 4)).Read(b)
	return string(b)
}

// mac says by the library's own means what the tag of all parts is.
func mac(key string, parts ...string) string {
	h := stdhmac.New(sha256.New, []byte(key))
	for _, s := range parts {
		h.Write([]byte(s))
	}
	return string(h.Sum(nil))
}

// wantSaid says by the library's own means what Said must answer.
func wantSaid(label string, ctx ...int) (string, api.Errno) {
	if len(label) < 1 || len(label) > 16 || len(ctx) > 8 || slices.ContainsFunc(ctx, func(n int) bool { return n < 0 }) {
		return "", api.ErrArg
	}
	b := binary.BigEndian.AppendUint32(nil, uint32(len(label)))
	b = append(append(b, label...), byte(len(ctx)))
	for _, n := range ctx {
		b = binary.BigEndian.AppendUint64(b, uint64(n))
	}
	return string(b), api.OK
}

// wantKey says by the library's own means what Key must answer.
func wantKey(master, label string, ctx ...int) (string, api.Errno) {
	said, e := wantSaid(label, ctx...)
	if e != api.OK {
		return "", e
	}
	return mac(master, said), api.OK
}

// wantLong says by the library's own means what Long must answer: its pieces are those that HKDF expands a key to.
func wantLong(t *testing.T, master, label string, n int) (string, api.Errno) {
	t.Helper()
	said, e := wantSaid(label)
	if n < 0 || n > 8160 || e != api.OK {
		return "", api.ErrArg
	}
	b, err := hkdf.Expand(sha256.New, []byte(master), said, n)
	if err != nil {
		t.Fatal(err)
	}
	return string(b), api.OK
}

func masters() []string {
	var l []string
	for _, n := range []int{0, 1, 31, 32, 33, 63, 64, 65, 100, 4096} {
		l = append(l, text(n))
	}
	return append(l, strings.Repeat("\x00", 32), strings.Repeat("\xff", 65))
}

func labels() []string {
	l := []string{"\x00", "\x01", "\xff", "a", "aa", "ab", "a\x00", "\x00a", "a\x01", "seal", "next", "mac", "ask", "data", "\xc3\xa9\xff", strings.Repeat("\x00", 16)}
	for n := range 20 {
		l = append(l, text(n))
	}
	return l
}

func contexts() [][]int {
	l := [][]int{nil, {}, {0}, {1}, {255}, {256}, {1 << 32}, {math.MaxInt64 - 1}, {math.MaxInt64}, {-1}, {-2}, {math.MinInt64}, {0, 0}, {1, 2}, {2, 1}}
	for n := range 11 {
		row := make([]int, n)
		for i := range row {
			row[i] = i * 0x0102030405
		}
		l = append(l, row, make([]int, n))
		if n > 0 {
			first, last, greatest := slices.Clone(row), slices.Clone(row), slices.Clone(row)
			first[0], last[n-1], greatest[n-1] = -1, math.MinInt64, math.MaxInt64
			l = append(l, first, last, greatest)
		}
	}
	return l
}

func TestSaidByHand(t *testing.T) {
	const nought8 = "\x00\x00\x00\x00\x00\x00\x00\x00"
	for _, c := range []struct {
		label string
		ctx   []int
		said  string
		e     api.Errno
	}{
		{"a", []int{1}, "\x00\x00\x00\x01a\x01\x00\x00\x00\x00\x00\x00\x00\x01", api.OK},
		{"a", nil, "\x00\x00\x00\x01a\x00", api.OK},
		{"a", []int{}, "\x00\x00\x00\x01a\x00", api.OK},
		{"\x00", []int{0}, "\x00\x00\x00\x01\x00\x01" + nought8, api.OK},
		{"data", []int{258, 0}, "\x00\x00\x00\x04data\x02\x00\x00\x00\x00\x00\x00\x01\x02" + nought8, api.OK},
		{"data", []int{math.MaxInt64}, "\x00\x00\x00\x04data\x01\x7f\xff\xff\xff\xff\xff\xff\xff", api.OK},
		{"sixteen bytes ok", nil, "\x00\x00\x00\x10sixteen bytes ok\x00", api.OK},
		{"sixteen bytes ok", make([]int, 8), "\x00\x00\x00\x10sixteen bytes ok\x08" + strings.Repeat(nought8, 8), api.OK},
		{"", nil, "", api.ErrArg},
		{"", []int{1}, "", api.ErrArg},
		{"seventeen bytes..", nil, "", api.ErrArg},
		{"seventeen bytes..", []int{1}, "", api.ErrArg},
		{"a", make([]int, 9), "", api.ErrArg},
		{"a", make([]int, 256), "", api.ErrArg},
		{"a", make([]int, 257), "", api.ErrArg},
		{"a", []int{-1}, "", api.ErrArg},
		{"a", []int{math.MinInt64}, "", api.ErrArg},
		{"a", []int{1, 2, -3}, "", api.ErrArg},
		{"a", []int{-1, 2, 3}, "", api.ErrArg},
		{"a", []int{0, 0, 0, 0, 0, 0, 0, -1}, "", api.ErrArg},
		{"a", []int{0, 0, 0, 0, 0, 0, 0, 0, -1}, "", api.ErrArg},
		{"", []int{-1}, "", api.ErrArg},
		{"", []int{0, 0, 0, 0, 0, 0, 0, 0, -1}, "", api.ErrArg},
		{strings.Repeat("a", 4096), []int{-1}, "", api.ErrArg},
	} {
		if said, e := derive.Said(c.label, c.ctx...); said != c.said || e != c.e {
			t.Errorf("Said(%q, %v): %x %d, asked %x %d", c.label, c.ctx, said, e, c.said, c.e)
		}
	}
}

func TestSaidAndKey(t *testing.T) {
	for _, label := range labels() {
		for _, ctx := range contexts() {
			was := slices.Clone(ctx)
			said, e := derive.Said(label, ctx...)
			if w, f := wantSaid(label, ctx...); said != w || e != f {
				t.Errorf("Said(%q, %v): %x %d, asked %x %d", label, ctx, said, e, w, f)
			}
			for _, master := range []string{"", text(32), text(65)} {
				key, e := derive.Key(master, label, ctx...)
				if w, f := wantKey(master, label, ctx...); key != w || e != f {
					t.Errorf("Key(%x, %q, %v): %x %d, asked %x %d", master, label, ctx, key, e, w, f)
				}
			}
			if !slices.Equal(ctx, was) {
				t.Errorf("numbers have changed: %v, were %v", ctx, was)
			}
		}
	}
}

// Keys that were worked out by other means than these tests'.
func TestKeyByHand(t *testing.T) {
	const low = "\x00\x01\x02\x03\x04\x05\x06\x07\x08\x09\x0a\x0b\x0c\x0d\x0e\x0f\x10\x11\x12\x13\x14\x15\x16\x17\x18\x19\x1a\x1b\x1c\x1d\x1e\x1f"
	for _, c := range []struct {
		master, label string
		ctx           []int
		key           string
	}{
		{"master", "a", []int{1}, "071c2b6bc3ff654a9d75c7db2ea5a451bc3986929914590b2f59a2c0fcb276fd"},
		{"", "seal", []int{5}, "57432a386833f66db0efd8dc4f2c594a4941b9fbdb8c9766c213591749181c99"},
		{low, "sixteen bytes ok", []int{0, 1, 2, 3, 4, 5, 6, math.MaxInt64}, "651c223a1d93906293e292220e3cf7f377ef5cfce49cabf986e014593a8145ec"},
		{strings.Repeat("m", 65), "next", nil, "e0fdf1f0ca3c75941c7fa892e9df2fc88789b58c0f839c6b2e59e5d89edf2184"},
	} {
		key, e := derive.Key(c.master, c.label, c.ctx...)
		if got := hex.EncodeToString([]byte(key)); got != c.key || e != api.OK {
			t.Errorf("Key(%q, %q, %v): %s %d, asked %s", c.master, c.label, c.ctx, got, e, c.key)
		}
	}
}

func TestLongByHand(t *testing.T) {
	for _, c := range []struct {
		master, label string
		n             int
		long          string
		e             api.Errno
	}{
		{"master", "a", 70, "bb4cc22f7b79eeb13b583f1d747635bff32acd1b7594ba6cdc8e6a3c1891eb02125e76839b2a2eb124a8912862fd0c1482e041e26df8db29f99ce850ee361cb9d255f029143c", api.OK},
		{"master", "a", 1, "bb", api.OK},
		{"master", "a", 0, "", api.OK},
		{"master", "sixteen bytes ok", 0, "", api.OK},
		{"master", "a", -1, "", api.ErrArg},
		{"master", "a", 8161, "", api.ErrArg},
		{"master", "a", math.MaxInt64, "", api.ErrArg},
		{"master", "a", math.MinInt64, "", api.ErrArg},
		// with nothing asked a wrong label is told all the same
		{"master", "", 0, "", api.ErrArg},
		{"master", "seventeen bytes..", 0, "", api.ErrArg},
		{"master", "", 1, "", api.ErrArg},
		{"master", "seventeen bytes..", 8160, "", api.ErrArg},
		{"master", "", -1, "", api.ErrArg},
		{"master", "seventeen bytes..", 8161, "", api.ErrArg},
	} {
		long, e := derive.Long(c.master, c.label, c.n)
		if got := hex.EncodeToString([]byte(long)); got != c.long || e != c.e {
			t.Errorf("Long(%q, %q, %d): %s %d, asked %s %d", c.master, c.label, c.n, got, e, c.long, c.e)
		}
	}
}

func TestLong(t *testing.T) {
	for _, master := range masters() {
		for _, label := range []string{"", "a", "data", text(15), text(16), text(17)} {
			for _, n := range []int{math.MinInt64, -32, -1, 0, 1, 16, 31, 32, 33, 63, 64, 65, 96, 1000, 8127, 8128, 8129, 8159, 8160, 8161, 8192, math.MaxInt64} {
				long, e := derive.Long(master, label, n)
				if w, f := wantLong(t, master, label, n); long != w || e != f {
					t.Errorf("Long(%x, %q, %d): %x %d, asked %x %d", master, label, n, long, e, w, f)
				}
			}
		}
	}
}

// Each piece is the tag that the chapter says: under the master, of the piece ahead, what is said, and its number.
func TestPieces(t *testing.T) {
	for _, master := range masters() {
		for _, label := range []string{"a", "data", text(16)} {
			said, _ := derive.Said(label)
			long, e := derive.Long(master, label, 8160)
			if len(long) != 8160 || e != api.OK {
				t.Fatalf("Long(%x, %q, 8160): %d bytes, %d", master, label, len(long), e)
			}
			ahead := ""
			for i := range 255 {
				piece := long[32*i : 32*i+32]
				if w := hmac.Mac(master, ahead+said+string([]byte{byte(i + 1)})); piece != w {
					t.Fatalf("piece %d of %x, %q: %x, asked %x", i, master, label, piece, w)
				}
				ahead = piece
			}
		}
	}
}

// A longer one begins with each shorter one.
func TestBegins(t *testing.T) {
	longest, e := derive.Long("master", "data", 8160)
	if e != api.OK {
		t.Fatal(e)
	}
	lengths := []int{8127, 8128, 8129, 8159, 8160}
	for n := range 300 {
		lengths = append(lengths, n)
	}
	for _, n := range lengths {
		if long, e := derive.Long("master", "data", n); long != longest[:n] || e != api.OK {
			t.Errorf("Long of %d bytes: %x %d, asked %x", n, long, e, longest[:n])
		}
	}
}

// aim is what a key is for.
type aim struct {
	label string
	ctx   []int
}

// aims are unlike each other: many of them would be one, or one would begin with another, if a count were left out.
func aims() []aim {
	const one, nought = "\x00\x00\x00\x00\x00\x00\x00\x01", "\x00\x00\x00\x00\x00\x00\x00\x00"
	const letters = 0x6162636465666768 // the number whose bytes are those of "abcdefgh"
	l := []aim{
		// the label has what another one's numbers begin with
		{"a", nil}, {"a", []int{0}}, {"a", []int{1}}, {"a", []int{1, 1}}, {"a", []int{1, 1, 1}},
		{"a" + one, nil}, {"a" + one, []int{1}}, {"a" + nought, nil}, {"a" + nought, []int{1}},
		{"a\x01" + one, nil}, {"a\x01", nil}, {"a\x01", []int{1}}, {"a\x00", nil}, {"a\x00", []int{0}}, {"a\x02", []int{1, 1}},
		{"abcdefgh", nil}, {"abcdefgh", []int{letters}}, {"abcdefghabcdefgh", nil}, {"a", []int{letters}}, {"aabcdefgh", nil}, {"a\x01abcdefgh", nil},
		{"ab", []int{0}}, {"ab", []int{1}}, {"a", []int{0x62 << 56}}, {"a", []int{0x6200000000000001}},
		// the same numbers' bytes in other pieces
		{"b", []int{1, 2, 3}}, {"b", []int{1, 2}}, {"b", []int{3}}, {"b", []int{12, 3}}, {"b", []int{1, 23}}, {"b", []int{123}},
		{"b", []int{1<<8 | 2, 3}}, {"b", []int{1, 2<<8 | 3}}, {"b", []int{1<<16 | 2<<8 | 3}}, {"b", []int{3, 2, 1}},
		{"b", []int{1 << 56}}, {"b", []int{0, 1}}, {"b", []int{1, 0}}, {"b", []int{0, 1, 0}},
		// what is said of a whole, as a label
		{"\x00\x00\x00\x01a\x00", nil}, {"\x00\x00\x00\x01a\x01", []int{1}}, {"\x00\x00\x00\x01", nil}, {"\x00\x00\x00\x01", []int{1}},
		{"\x00", nil}, {"\x00\x00", nil}, {"\x00\x00", []int{0}}, {"\x00", []int{0}},
	}
	for n := 2; n <= 8; n++ {
		l = append(l, aim{"c", make([]int, n)}, aim{strings.Repeat("\x00", n+8), make([]int, n)}, aim{strings.Repeat("\x01", n), make([]int, 8-n)})
	}
	return l
}

// Unlike labels, or numbers, are said unlike, and none as the beginning of another one; so their keys are unlike, too.
func TestApart(t *testing.T) {
	l := aims()
	for i, a := range l {
		said, e := derive.Said(a.label, a.ctx...)
		key, f := derive.Key("master", a.label, a.ctx...)
		if e != api.OK || f != api.OK {
			t.Fatalf("%q %v: %d %d", a.label, a.ctx, e, f)
		}
		for j, b := range l {
			if i == j {
				continue
			}
			if a.label == b.label && slices.Equal(a.ctx, b.ctx) {
				t.Fatalf("%q %v stands twice among what is unlike", a.label, a.ctx)
			}
			other, _ := derive.Said(b.label, b.ctx...)
			if strings.HasPrefix(other, said) {
				t.Errorf("%q %v is said as %q %v begins: %x", a.label, a.ctx, b.label, b.ctx, said)
			}
			if k, _ := derive.Key("master", b.label, b.ctx...); k == key {
				t.Errorf("%q %v and %q %v have one key", a.label, a.ctx, b.label, b.ctx)
			}
			if _, _, found := hmac.Clash("master", said, "master", other); found {
				t.Errorf("%q %v and %q %v have one tag", a.label, a.ctx, b.label, b.ctx)
			}
		}
	}
}

// What is said can be taken apart again, whatever is behind it: so no two aims are said as one.
func TestTakenApart(t *testing.T) {
	for _, a := range aims() {
		said, _ := derive.Said(a.label, a.ctx...)
		label, rest, e := octet.Cut(said + "behind")
		if label != a.label || e != api.OK {
			t.Fatalf("label of %q %v: %q %d", a.label, a.ctx, label, e)
		}
		n := int(rest[0])
		numbers, e := octet.Unpack(slices.Repeat([]int{8}, n), rest[1:1+8*n])
		if !slices.Equal(numbers, a.ctx) || e != api.OK || rest[1+8*n:] != "behind" {
			t.Errorf("numbers of %q %v: %v %d, and behind them %q", a.label, a.ctx, numbers, e, rest[1+8*n:])
		}
	}
}

// A key hangs on its master (on its block: 3), and a longer one's pieces are no key of the same label.
func TestOtherMaster(t *testing.T) {
	seen := map[string]int{}
	for i, master := range masters() {
		block := "block of " + hmac.Key(master)
		if seen[block]++; seen[block] > 1 {
			continue
		}
		for _, label := range []string{"a", "b"} {
			key, _ := derive.Key(master, label)
			long, _ := derive.Long(master, label, 64)
			for _, s := range []string{key, long[:32], long[32:]} {
				if seen[s]++; seen[s] > 1 {
					t.Errorf("master %d has for %q what there is already: %x", i, label, s)
				}
			}
		}
	}
}

// What is behind the numbers, in the list that they are cut of, stays as it was.
func TestNumbersOwn(t *testing.T) {
	l := []int{1, 2, 3, 4, 5, 6, 7, 8, 9, 10}
	for n := range len(l) {
		derive.Said("a", l[:n]...)
		derive.Key("master", "a", l[:n]...)
		if !slices.Equal(l, []int{1, 2, 3, 4, 5, 6, 7, 8, 9, 10}) {
			t.Fatalf("behind %d numbers: %v", n, l)
		}
	}
}

// What a call answers hangs on nothing but its arguments: not on other calls, be they refused or not.
func TestAgain(t *testing.T) {
	said, _ := derive.Said("a", 1, 2)
	key, _ := derive.Key("master", "a", 1, 2)
	long, _ := derive.Long("master", "a", 100)
	for range 3 {
		derive.Said("", -1)
		derive.Key("other", "b", -1)
		derive.Key("other", "b", 3)
		derive.Long("other", "b", 8161)
		derive.Long("other", "b", 8160)
		s, _ := derive.Said("a", 1, 2)
		k, _ := derive.Key("master", "a", 1, 2)
		o, _ := derive.Long("master", "a", 100)
		if s != said || k != key || o != long {
			t.Fatal("told again, it is something else")
		}
	}
}

// No call panics, and all of it is as the library's, at whatever bytes and numbers.
func FuzzCalls(f *testing.F) {
	for _, n := range []int{math.MinInt64, -1, 0, 1, 8, 9, 31, 32, 33, 8160, 8161, math.MaxInt64} {
		for _, size := range []int{0, 1, 16, 17} {
			f.Add(text(32), text(size), n, uint8(size))
			f.Add(text(65), text(size), n, uint8(n))
		}
	}
	f.Fuzz(func(t *testing.T, master, label string, n int, count uint8) {
		ctx := make([]int, count%12)
		for i := range ctx {
			ctx[i] = n >> i
		}
		said, e := derive.Said(label, ctx...)
		if w, g := wantSaid(label, ctx...); said != w || e != g {
			t.Errorf("Said(%x, %v): %x %d", label, ctx, said, e)
		}
		key, e := derive.Key(master, label, ctx...)
		if w, g := wantKey(master, label, ctx...); key != w || e != g {
			t.Errorf("Key(%x, %x, %v): %x %d", master, label, ctx, key, e)
		}
		long, e := derive.Long(master, label, n)
		if w, g := wantLong(t, master, label, n); long != w || e != g {
			t.Errorf("Long(%x, %x, %d): %x %d", master, label, n, long, e)
		}
	})
}
