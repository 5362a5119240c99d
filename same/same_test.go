package same_test

import (
	"math"
	"math/rand"
	"strings"
	"testing"
	"unsafe"

	"keepsake/same"
)

// text makes n bytes that are no row of one kind.
func text(n int) string {
	b := make([]byte, n)
	rand.New(rand.NewSource(int64(n) + 7)).Read(b)
	return string(b)
}

// with answers s with other bytes at these places: what stands there is held against by, exclusive or.
func with(s string, by byte, places ...int) string {
	b := []byte(s)
	for _, i := range places {
		b[i] ^= by
	}
	return string(b)
}

// put answers s with this byte at the place.
func put(s string, at int, b byte) string { return s[:at] + string([]byte{b}) + s[at+1:] }

// one makes the text of a byte.
func one(b int) string { return string([]byte{byte(b)}) }

func number(is bool) int {
	if is {
		return 1
	}
	return 0
}

// wantChoose says by the language's own means what Choose must answer. A remainder by 2 is 1 or -1 of an odd number.
func wantChoose(bit int, a, b string) string {
	switch {
	case len(a) != len(b):
		return ""
	case bit%2 != 0:
		return a
	}
	return b
}

// check holds all calls of the two texts, either way about, against what the language says of them.
func check(t *testing.T, a, b string) {
	t.Helper()
	checkOneWay(t, a, b)
	checkOneWay(t, b, a)
	for _, s := range []string{a, b} {
		if any, w := same.Any(s), number(strings.Trim(s, "\x00") != ""); any != w {
			t.Errorf("Any(%.40x): %d, asked %d", s, any, w)
		}
	}
}

func checkOneWay(t *testing.T, a, b string) {
	t.Helper()
	if bit, w := same.Bit(a, b), number(a == b); bit != w {
		t.Errorf("Bit(%.40x, %.40x): %d, asked %d", a, b, bit, w)
	}
	if is := same.Equal(a, b); is != (a == b) {
		t.Errorf("Equal(%.40x, %.40x): %t", a, b, is)
	}
	if less, w := same.Less(a, b), number(len(a) == len(b) && a < b); less != w {
		t.Errorf("Less(%.40x, %.40x): %d, asked %d", a, b, less, w)
	}
	for _, bit := range []int{0, 1} {
		checkChoose(t, bit, a, b)
	}
	three := same.Less(a, b) + same.Less(b, a) + same.Bit(a, b)
	if three != number(len(a) == len(b)) {
		t.Errorf("of %.40x and %.40x %d of three are so", a, b, three)
	}
}

func checkChoose(t *testing.T, bit int, a, b string) {
	t.Helper()
	if s, w := same.Choose(bit, a, b), wantChoose(bit, a, b); s != w {
		t.Errorf("Choose(%d, %.40x, %.40x): %.40x, asked %.40x", bit, a, b, s, w)
	}
}

func TestExamples(t *testing.T) {
	if bit := same.Bit("ab", "ab"); bit != 1 {
		t.Errorf("Bit: %d", bit)
	}
	if s := same.Choose(0, "ab", "cd"); s != "cd" {
		t.Errorf("Choose: %q", s)
	}
}

func TestByHand(t *testing.T) {
	for _, c := range []struct {
		a, b            string
		bit, less, more int
	}{
		{"", "", 1, 0, 0},
		{"\x00", "\x00", 1, 0, 0},
		{"ab", "ab", 1, 0, 0},
		{"\xff\xff\xff", "\xff\xff\xff", 1, 0, 0},
		// the first, a middle and the last byte is unlike
		{"abc", "bbc", 0, 1, 0},
		{"abc", "acc", 0, 1, 0},
		{"abc", "abd", 0, 1, 0},
		// what stands behind says otherwise
		{"azz", "baa", 0, 1, 0},
		{"\x00\xff\xff", "\x01\x00\x00", 0, 1, 0},
		{"a\x00\xff\xff", "a\x01\x00\x00", 0, 1, 0},
		{"\x01\x00\x00", "\x00\xff\xff", 0, 0, 1},
		{"ab\xffz", "abab", 0, 0, 1},
		// both sides of 128
		{"\x7f", "\x80", 0, 1, 0},
		{"\x00", "\x80", 0, 1, 0},
		{"\x00", "\xff", 0, 1, 0},
		{"\x80", "\xff", 0, 1, 0},
		{"\xff", "\x7f", 0, 0, 1},
		{"\x80\x00", "\x7f\xff", 0, 0, 1},
		{"\x7f\xff", "\x80\x00", 0, 1, 0},
		// not as many bytes
		{"", "a", 0, 0, 0},
		{"", "\x00", 0, 0, 0},
		{"a", "", 0, 0, 0},
		{"ab", "abc", 0, 0, 0},
		{"abc", "ab", 0, 0, 0},
		{"ab", "ab\x00", 0, 0, 0},
		{"ab", "\x00ab", 0, 0, 0},
		{"\x00", "\x00\x00", 0, 0, 0},
		{"a", "zz", 0, 0, 0},
		{"zz", "a", 0, 0, 0},
	} {
		bit, less, more := same.Bit(c.a, c.b), same.Less(c.a, c.b), same.Less(c.b, c.a)
		if bit != c.bit || less != c.less || more != c.more || same.Equal(c.a, c.b) != (c.bit == 1) {
			t.Errorf("%x and %x: %d %d %d, asked %d %d %d", c.a, c.b, bit, less, more, c.bit, c.less, c.more)
		}
		check(t, c.a, c.b)
	}
}

// All pairs of a byte, with nothing and with other bytes beside it.
func TestBytes(t *testing.T) {
	for x := range 256 {
		for y := range 256 {
			a, b := one(x), one(y)
			check(t, a, b)
			check(t, a+"\x80", b+"\x80")
			check(t, "\x80"+a, "\x80"+b)
			check(t, "ab"+a+"\x00\xff", "ab"+b+"\xff\x00")
		}
	}
}

// All pairs of short texts over bytes at the edges, as many bytes or not.
func TestShort(t *testing.T) {
	short := []string{""}
	for from := 0; len(short[from]) < 3; from++ {
		for _, b := range []int{0, 1, 127, 128, 255} {
			short = append(short, short[from]+one(b))
		}
	}
	for _, a := range short {
		for _, b := range short {
			check(t, a, b)
		}
	}
}

// lengths are around those that a machine takes at once, a key's, a block's and more.
func lengths() []int {
	return []int{1, 2, 3, 7, 8, 9, 15, 16, 17, 31, 32, 33, 63, 64, 65, 255, 256, 257, 4000, 4096, 65536, 1 << 20}
}

// places are the first, the last, middle ones and those beside them.
func places(n int) []int {
	var l []int
	for _, i := range []int{0, 1, 7, 8, n / 2, n - 9, n - 8, n - 2, n - 1} {
		if i >= 0 && i < n {
			l = append(l, i)
		}
	}
	return l
}

func TestLong(t *testing.T) {
	for _, n := range lengths() {
		s := text(n)
		check(t, s, strings.Clone(s))
		check(t, s, s+"\x00")
		check(t, s, s[:n-1])
		check(t, s, s[1:])
		check(t, s, "")
		check(t, s, s+s)
		for _, i := range places(n) {
			check(t, s, with(s, 0x01, i))
			check(t, s, with(s, 0x80, i))
			check(t, s, with(s, 0xff, i))
		}
	}
}

// Just one bit of each place is unlike.
func TestEachBit(t *testing.T) {
	s := text(40)
	for i := range len(s) {
		for shift := range 8 {
			check(t, s, with(s, 1<<shift, i))
		}
	}
}

// Several bytes are unlike, and would make up for each other if they were added, or held against each other.
func TestSeveral(t *testing.T) {
	for _, s := range []string{text(300), strings.Repeat("\x00", 300), strings.Repeat("\xff", 300), strings.Repeat("\x80", 300)} {
		var all []int
		for i := range len(s) {
			all = append(all, i)
		}
		for _, by := range []byte{0x01, 0x10, 0x80, 0xff} {
			check(t, s, with(s, by, 0, 1))
			check(t, s, with(s, by, 0, 299))
			check(t, s, with(s, by, 4, 5, 6, 7))
			check(t, s, with(s, by, 1, 2, 3))
			check(t, s, with(s, by, all[:16]...))
			check(t, s, with(s, by, all[:256]...))
			check(t, s, with(s, by, all[9:265]...))
			check(t, s, with(s, by, all...))
		}
		check(t, put(put(s, 3, 10), 200, 20), put(put(s, 3, 20), 200, 10))
		check(t, put(put(s, 3, 0), 200, 255), put(put(s, 3, 255), 200, 0))
		check(t, put(put(s, 3, 1), 4, 0), put(put(s, 3, 0), 4, 255))
		check(t, s, s[1:]+s[:1])
	}
}

// The first unlike byte alone says which is less, wherever it stands, and whatever stands behind.
func TestLess(t *testing.T) {
	const n = 20
	for i := range n {
		for _, pair := range [][2]int{{0, 1}, {0, 255}, {1, 2}, {127, 128}, {126, 127}, {128, 129}, {254, 255}, {1, 128}, {127, 255}} {
			for behind := range n - i {
				begin, end := text(n)[:i], strings.Repeat("\x07", n-i-1-behind)
				a := begin + one(pair[0]) + strings.Repeat("\xff", behind) + end
				b := begin + one(pair[1]) + strings.Repeat("\x00", behind) + end
				if same.Less(a, b) != 1 || same.Less(b, a) != 0 || same.Bit(a, b) != 0 {
					t.Errorf("%x and %x: %d %d %d", a, b, same.Less(a, b), same.Less(b, a), same.Bit(a, b))
				}
				check(t, a, b)
			}
		}
	}
}

func TestChoose(t *testing.T) {
	numbers := []int{0, 1, 2, 3, 4, 5, 127, 128, 254, 255, 256, 257, 65535, 65536, 1<<31 - 1, 1 << 31, 1<<32 - 1, 1 << 32, 1<<32 + 1, math.MaxInt64 - 1, math.MaxInt64,
		-1, -2, -3, -4, -127, -128, -255, -256, -257, -1 << 32, -1<<32 + 1, math.MinInt64, math.MinInt64 + 1}
	all := ""
	for b := range 256 {
		all += one(b)
	}
	for _, bit := range numbers {
		checkChoose(t, bit, "ab", "cd")
		checkChoose(t, bit, "ab", "ab")
		checkChoose(t, bit, "", "")
		checkChoose(t, bit, "\x00", "\xff")
		checkChoose(t, bit, "\xff", "\x00")
		checkChoose(t, bit, all, with(all, 0xff, places(256)...))
		checkChoose(t, bit, all, text(256))
		checkChoose(t, bit, text(4096), strings.Repeat("\x00", 4096))
		checkChoose(t, bit, text(4096), strings.Repeat("\xff", 4096))
		// not as many bytes
		checkChoose(t, bit, "ab", "abc")
		checkChoose(t, bit, "abc", "ab")
		checkChoose(t, bit, "", "a")
		checkChoose(t, bit, "a", "")
		checkChoose(t, bit, "\x00", "\x00\x00")
		checkChoose(t, bit, text(32), text(33))
	}
}

func TestChooseByHand(t *testing.T) {
	for _, c := range []struct {
		bit     int
		a, b, s string
	}{
		{1, "ab", "cd", "ab"},
		{0, "ab", "cd", "cd"},
		{2, "ab", "cd", "cd"},
		{3, "ab", "cd", "ab"},
		{-1, "ab", "cd", "ab"},
		{-2, "ab", "cd", "cd"},
		{math.MaxInt64, "ab", "cd", "ab"},
		{math.MinInt64, "ab", "cd", "cd"},
		{1, "ab", "c", ""},
		{0, "ab", "c", ""},
		{1, "", "c", ""},
		{0, "", "c", ""},
		{1, "", "", ""},
	} {
		if s := same.Choose(c.bit, c.a, c.b); s != c.s {
			t.Errorf("Choose(%d, %q, %q): %q, asked %q", c.bit, c.a, c.b, s, c.s)
		}
	}
}

func TestAny(t *testing.T) {
	if any := same.Any(""); any != 0 {
		t.Errorf("of nothing: %d", any)
	}
	for _, n := range lengths() {
		noughts := strings.Repeat("\x00", n)
		if any := same.Any(noughts); any != 0 {
			t.Errorf("of %d noughts: %d", n, any)
		}
		if any := same.Any(text(n)); any != 1 {
			t.Errorf("of %d bytes: %d", n, any)
		}
		for _, i := range places(n) {
			for _, b := range []byte{1, 2, 16, 127, 128, 255} {
				if any := same.Any(put(noughts, i, b)); any != 1 {
					t.Errorf("of %d noughts with %d at %d: %d", n, b, i, any)
				}
			}
		}
		// bytes that would make up for each other
		for _, b := range []string{"\x01", "\x80", "\xff"} {
			if any := same.Any(strings.Repeat(b, n)); any != 1 {
				t.Errorf("of %d times %x: %d", n, b, any)
			}
		}
	}
	for b := range 256 {
		if any := same.Any(one(b)); any != number(b != 0) {
			t.Errorf("of the byte %d: %d", b, any)
		}
		for i := range 20 {
			if any := same.Any(put(strings.Repeat("\x00", 20), i, byte(b))); any != number(b != 0) {
				t.Errorf("of the byte %d at %d: %d", b, i, any)
			}
		}
	}
	for _, s := range []string{"\x01\xff", "\x80\x80", "\x01\x01", "\xff\x01", "\x00\x01\xff\x00"} {
		if any := same.Any(s); any != 1 {
			t.Errorf("of %x: %d", s, any)
		}
	}
}

// What a call answers hangs on nothing but its arguments: not on other calls.
func TestAgain(t *testing.T) {
	for range 3 {
		check(t, "ab", "cd")
		check(t, text(100), text(99))
		check(t, "", "")
		checkChoose(t, -3, text(100), with(text(100), 0xff, 0))
	}
}

// Texts are pieces of something greater: what stands beside them does not count, and stays as it was.
func TestPieces(t *testing.T) {
	s, was := text(100), text(100)
	check(t, s[3:19], s[19:35])
	check(t, s[3:19], s[4:20])
	check(t, s[3:19], s[3:19])
	twice := s + s
	check(t, twice[10:60], twice[110:160])
	if !same.Equal(twice[10:60], twice[110:160]) || s != was {
		t.Error("pieces")
	}
}

// What is chosen is new memory.
func TestChooseNew(t *testing.T) {
	a, b := text(64), with(text(64), 1, 0)
	for bit := range 2 {
		s := same.Choose(bit, a, b)
		if p := unsafe.StringData(s); p == unsafe.StringData(a) || p == unsafe.StringData(b) {
			t.Errorf("Choose of %d hands out what was handed in", bit)
		}
	}
}

// No call panics, and all of it is as the language's own, at whatever bytes and numbers.
func FuzzCalls(f *testing.F) {
	for _, bit := range []int{math.MinInt64, -2, -1, 0, 1, 2, math.MaxInt64} {
		f.Add(bit, "", "")
		f.Add(bit, "ab", "abc")
		f.Add(bit, "\x7f\xff", "\x80\x00")
		f.Add(bit, text(32), with(text(32), 1, 31))
	}
	f.Fuzz(func(t *testing.T, bit int, a, b string) {
		check(t, a, b)
		checkChoose(t, bit, a, b)
		// most have not as many bytes: the same ones, cut to what both have
		n := min(len(a), len(b))
		check(t, a[:n], b[:n])
		checkChoose(t, bit, a[:n], b[:n])
		check(t, a[len(a)-n:], b[len(b)-n:])
		check(t, a, strings.Clone(a))
		if len(a) > 0 {
			check(t, a, with(a, byte(bit), (bit&math.MaxInt64)%len(a)))
		}
	})
}
