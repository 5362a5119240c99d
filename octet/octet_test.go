package octet_test

import (
	"bytes"
	"encoding/binary"
	"math"
	"math/rand"
	"slices"
	"strings"
	"testing"

	"keepsake/api"
	"keepsake/octet"
)

// The numbers at which widths end, and some between.
func numbers() []int {
	l := []int{math.MinInt64, -1 << 32, -256, -2, -1, 0, 1, 2, 127, 128, 254, 258, 65537, math.MaxInt64 - 1, math.MaxInt64}
	for width := 1; width < 8; width++ {
		end := 1 << (8 * width)
		l = append(l, end-2, end-1, end, end+1)
	}
	return l
}

// want says by the library's own means what Put must answer.
func want(n, width int) (string, api.Errno) {
	if width < 1 || width > 8 || n < 0 {
		return "", api.ErrArg
	}
	b := binary.BigEndian.AppendUint64(nil, uint64(n))
	if strings.Trim(string(b[:8-width]), "\x00") != "" {
		return "", api.ErrArg
	}
	return string(b[8-width:]), api.OK
}

func TestPut(t *testing.T) {
	for _, width := range []int{math.MinInt64, -8, -1, 0, 1, 2, 3, 4, 5, 6, 7, 8, 9, 16, 64, 1 << 20, math.MaxInt64} {
		for _, n := range numbers() {
			s, e := octet.Put(n, width)
			if w, f := want(n, width); s != w || e != f {
				t.Errorf("Put(%d, %d): %x %d, asked %x %d", n, width, s, e, w, f)
			}
		}
	}
}

func TestPutByHand(t *testing.T) {
	for _, c := range []struct {
		n, width int
		s        string
		e        api.Errno
	}{
		{258, 3, "\x00\x01\x02", api.OK},
		{0, 1, "\x00", api.OK},
		{255, 1, "\xff", api.OK},
		{256, 1, "", api.ErrArg},
		{256, 2, "\x01\x00", api.OK},
		{65535, 2, "\xff\xff", api.OK},
		{65536, 2, "", api.ErrArg},
		{1<<32 - 1, 4, "\xff\xff\xff\xff", api.OK},
		{1 << 32, 4, "", api.ErrArg},
		{1<<56 - 1, 7, "\xff\xff\xff\xff\xff\xff\xff", api.OK},
		{1 << 56, 7, "", api.ErrArg},
		{1 << 56, 8, "\x01\x00\x00\x00\x00\x00\x00\x00", api.OK},
		{math.MaxInt64, 8, "\x7f\xff\xff\xff\xff\xff\xff\xff", api.OK},
		{0, 8, "\x00\x00\x00\x00\x00\x00\x00\x00", api.OK},
		{0, 0, "", api.ErrArg},
		{0, 9, "", api.ErrArg},
		{1, -1, "", api.ErrArg},
		{-1, 1, "", api.ErrArg},
		{-1, 8, "", api.ErrArg},
		{math.MinInt64, 8, "", api.ErrArg},
	} {
		if s, e := octet.Put(c.n, c.width); s != c.s || e != c.e {
			t.Errorf("Put(%d, %d): %x %d, asked %x %d", c.n, c.width, s, e, c.s, c.e)
		}
	}
}

func TestGet(t *testing.T) {
	for _, c := range []struct {
		s string
		n int
		e api.Errno
	}{
		{"", 0, api.ErrForm},
		{"\x00", 0, api.OK},
		{"\x80", 128, api.OK},
		{"\xff", 255, api.OK},
		{"\x01\x02", 258, api.OK},
		{"\x02\x01", 513, api.OK},
		{"\x00\x01\x02", 258, api.OK},
		{"\xff\xff\xff\xff\xff\xff\xff", 1<<56 - 1, api.OK},
		{"\x01\x02\x03\x04\x05\x06\x07\x08", 0x0102030405060708, api.OK},
		{"\x00\x00\x00\x00\x00\x00\x00\x00", 0, api.OK},
		{"\x7f\xff\xff\xff\xff\xff\xff\xff", math.MaxInt64, api.OK},
		{"\x80\x00\x00\x00\x00\x00\x00\x00", 0, api.ErrForm},
		{"\x80\x00\x00\x00\x00\x00\x00\x01", 0, api.ErrForm},
		{"\xff\xff\xff\xff\xff\xff\xff\xff", 0, api.ErrForm},
		{"\x00\x00\x00\x00\x00\x00\x00\x00\x00", 0, api.ErrForm},
		{"\x00\x00\x00\x00\x00\x00\x00\x00\x01", 0, api.ErrForm},
		{strings.Repeat("\x01", 4096), 0, api.ErrForm},
	} {
		if n, e := octet.Get(c.s); n != c.n || e != c.e {
			t.Errorf("Get(%x): %d %d, asked %d %d", c.s, n, e, c.n, c.e)
		}
	}
}

func TestPack(t *testing.T) {
	for _, c := range []struct {
		widths, l []int
		s         string
		e         api.Errno
	}{
		{nil, nil, "", api.OK},
		{[]int{}, []int{}, "", api.OK},
		{[]int{1}, []int{7}, "\x07", api.OK},
		{[]int{3, 1, 2}, []int{258, 255, 1}, "\x00\x01\x02\xff\x00\x01", api.OK},
		{[]int{8, 1}, []int{math.MaxInt64, 0}, "\x7f\xff\xff\xff\xff\xff\xff\xff\x00", api.OK},
		{[]int{1, 1}, []int{1}, "", api.ErrArg},
		{[]int{1}, []int{1, 2}, "", api.ErrArg},
		{[]int{1}, nil, "", api.ErrArg},
		{nil, []int{1}, "", api.ErrArg},
		{[]int{0}, []int{0}, "", api.ErrArg},
		{[]int{9}, []int{0}, "", api.ErrArg},
		{[]int{-1}, []int{0}, "", api.ErrArg},
		{[]int{1, 1, 0}, []int{1, 2, 3}, "", api.ErrArg},
		{[]int{1, 1, 1}, []int{1, 256, 3}, "", api.ErrArg},
		{[]int{1, 1, 1}, []int{1, 2, -3}, "", api.ErrArg},
		{[]int{1, 1, 1}, []int{-1, 2, 3}, "", api.ErrArg},
	} {
		if s, e := octet.Pack(c.widths, c.l...); s != c.s || e != c.e {
			t.Errorf("Pack(%v, %v): %x %d, asked %x %d", c.widths, c.l, s, e, c.s, c.e)
		}
	}
}

func TestUnpack(t *testing.T) {
	for _, c := range []struct {
		widths []int
		s      string
		l      []int
		e      api.Errno
	}{
		{nil, "", nil, api.OK},
		{[]int{}, "", nil, api.OK},
		{[]int{1}, "\x07", []int{7}, api.OK},
		{[]int{3, 1, 2}, "\x00\x01\x02\xff\x00\x01", []int{258, 255, 1}, api.OK},
		{[]int{8, 1}, "\x7f\xff\xff\xff\xff\xff\xff\xff\x00", []int{math.MaxInt64, 0}, api.OK},
		{nil, "\x00", nil, api.ErrForm},
		{[]int{1}, "", nil, api.ErrForm},
		{[]int{3, 1}, "\x00\x01\x02", nil, api.ErrForm},
		{[]int{3, 1}, "\x00\x01\x02\x03\x04", nil, api.ErrForm},
		{[]int{8}, "\x80\x00\x00\x00\x00\x00\x00\x00", nil, api.ErrForm},
		{[]int{1, 8}, "\x01\xff\xff\xff\xff\xff\xff\xff\xff", nil, api.ErrForm},
		{[]int{8, 1}, "\xff\xff\xff\xff\xff\xff\xff\xff\x01", nil, api.ErrForm},
		{[]int{0}, "", nil, api.ErrArg},
		{[]int{9}, "\x00\x00\x00\x00\x00\x00\x00\x00\x00", nil, api.ErrArg},
		{[]int{-1, 1}, "", nil, api.ErrArg},
		{[]int{-1, 2}, "a", nil, api.ErrArg},
		{[]int{math.MinInt64, math.MinInt64}, "", nil, api.ErrArg},
		// a width that is none is named ahead of bytes too few, too many, and too great
		{[]int{0}, "a", nil, api.ErrArg},
		{[]int{4, 9}, "a", nil, api.ErrArg},
		{[]int{8, 0}, "\xff\xff\xff\xff\xff\xff\xff\xff", nil, api.ErrArg},
	} {
		l, e := octet.Unpack(c.widths, c.s)
		if !slices.Equal(l, c.l) || e != c.e {
			t.Errorf("Unpack(%v, %x): %v %d, asked %v %d", c.widths, c.s, l, e, c.l, c.e)
		}
	}
}

// What is handed in stays as it was, and what is handed out is the caller's own.
func TestPackUnpackOwn(t *testing.T) {
	widths, l := []int{3, 1, 2}, []int{258, 255, 1}
	s, _ := octet.Pack(widths, l...)
	a, _ := octet.Unpack(widths, s)
	b, _ := octet.Unpack(widths, s)
	a[0] = 9
	if c, _ := octet.Unpack(widths, s); b[0] != 258 || c[0] != 258 {
		t.Error("answers share memory", b, c)
	}
	if !slices.Equal(widths, []int{3, 1, 2}) || !slices.Equal(l, []int{258, 255, 1}) {
		t.Error("arguments have changed", widths, l)
	}
}

func TestText(t *testing.T) {
	for _, c := range []struct{ s, want string }{
		{"", "\x00\x00\x00\x00"},
		{"ab", "\x00\x00\x00\x02ab"},
		{"\x00", "\x00\x00\x00\x01\x00"},
		{"\xff\x00\xc3", "\x00\x00\x00\x03\xff\x00\xc3"},
		{strings.Repeat("x", 255), "\x00\x00\x00\xff" + strings.Repeat("x", 255)},
		{strings.Repeat("x", 256), "\x00\x00\x01\x00" + strings.Repeat("x", 256)},
		{strings.Repeat("x", 65536), "\x00\x01\x00\x00" + strings.Repeat("x", 65536)},
		{strings.Repeat("x", 1<<24+1), "\x01\x00\x00\x01" + strings.Repeat("x", 1<<24+1)},
	} {
		if got := octet.Text(c.s); got != c.want {
			t.Errorf("Text of %d bytes: %d bytes, asked %d", len(c.s), len(got), len(c.want))
		}
	}
}

func TestCut(t *testing.T) {
	for _, c := range []struct {
		s, text, rest string
		e             api.Errno
	}{
		{"", "", "", api.ErrForm},
		{"\x00", "", "", api.ErrForm},
		{"\x00\x00\x00", "", "", api.ErrForm},
		{"\x00\x00\x00\x00", "", "", api.OK},
		{"\x00\x00\x00\x00ab", "", "ab", api.OK},
		{"\x00\x00\x00\x01", "", "", api.ErrForm},
		{"\x00\x00\x00\x02ab", "ab", "", api.OK},
		{"\x00\x00\x00\x02a", "", "", api.ErrForm},
		{"\x00\x00\x00\x02abc", "ab", "c", api.OK},
		{"\x00\x00\x01\x00" + strings.Repeat("x", 255), "", "", api.ErrForm},
		{"\x00\x00\x01\x00" + strings.Repeat("x", 256), strings.Repeat("x", 256), "", api.OK},
		{"\x00\x00\x01\x00" + strings.Repeat("x", 257), strings.Repeat("x", 256), "x", api.OK},
		{"\x80\x00\x00\x00ab", "", "", api.ErrForm},
		{"\xff\xff\xff\xffab", "", "", api.ErrForm},
		{"\xff\xff\xff\xfe", "", "", api.ErrForm},
	} {
		text, rest, e := octet.Cut(c.s)
		if text != c.text || rest != c.rest || e != c.e {
			t.Errorf("Cut(%.40x): %x %x %d, asked %x %x %d", c.s, text, rest, e, c.text, c.rest, c.e)
		}
	}
}

func TestFill(t *testing.T) {
	long := strings.Repeat("x", 65536)
	for _, c := range []struct {
		s    string
		n    int
		want string
		e    api.Errno
	}{
		{"", 0, "", api.OK},
		{"", 3, "\x00\x00\x00", api.OK},
		{"ab", 2, "ab", api.OK},
		{"ab", 3, "ab\x00", api.OK},
		{"ab", 1, "", api.ErrArg},
		{"ab", 0, "", api.ErrArg},
		{"a\x00", 4, "a\x00\x00\x00", api.OK},
		{"", -1, "", api.ErrArg},
		{"ab", math.MinInt64, "", api.ErrArg},
		{"", api.Block, strings.Repeat("\x00", api.Block), api.OK},
		{"ab", 65535, "ab" + strings.Repeat("\x00", 65533), api.OK},
		{"ab", 65536, "ab" + strings.Repeat("\x00", 65534), api.OK},
		{"ab", 65537, "", api.ErrArg},
		{"ab", math.MaxInt64, "", api.ErrArg},
		{long, 65536, long, api.OK},
		{long, 65535, "", api.ErrArg},
		{long, 65537, "", api.ErrArg},
		{long + "x", 65537, "", api.ErrArg},
	} {
		if s, e := octet.Fill(c.s, c.n); s != c.want || e != c.e {
			t.Errorf("Fill of %d bytes to %d: %d bytes %d, asked %d bytes %d", len(c.s), c.n, len(s), e, len(c.want), c.e)
		}
	}
}

// Get leads back from Put, and what was got, put again, is those bytes.
func TestGetPutBack(t *testing.T) {
	for width := 1; width <= 8; width++ {
		for _, n := range numbers() {
			s, e := octet.Put(n, width)
			if e != api.OK {
				continue
			}
			if m, f := octet.Get(s); len(s) != width || m != n || f != api.OK {
				t.Errorf("Get(Put(%d, %d)): %d %d", n, width, m, f)
			}
		}
	}
	r := rand.New(rand.NewSource(1))
	for range 5000 {
		b := make([]byte, 1+r.Intn(8))
		r.Read(b)
		n, e := octet.Get(string(b))
		if great := len(b) == 8 && b[0] > 127; great != (e != api.OK) {
			t.Fatalf("Get(%x): %d", b, e)
		} else if great {
			continue
		}
		if s, f := octet.Put(n, len(b)); s != string(b) || f != api.OK {
			t.Fatalf("Put(Get(%x)): %x %d", b, s, f)
		}
	}
}

// Unpack leads back from Pack, and what was taken, packed again, is those bytes.
func TestUnpackPackBack(t *testing.T) {
	r := rand.New(rand.NewSource(2))
	for range 2000 {
		var widths, l []int
		for range r.Intn(9) {
			width := 1 + r.Intn(8)
			widths, l = append(widths, width), append(l, r.Int()>>(64-8*width))
		}
		s, e := octet.Pack(widths, l...)
		if e != api.OK {
			t.Fatal("Pack", widths, l, e)
		}
		back, e := octet.Unpack(widths, s)
		if e != api.OK || !slices.Equal(back, l) {
			t.Fatal("Unpack", widths, l, back, e)
		}
		b := []byte(s)
		r.Read(b)
		if back, e = octet.Unpack(widths, string(b)); e != api.OK {
			continue
		}
		if s, e = octet.Pack(widths, back...); e != api.OK || s != string(b) {
			t.Fatalf("Pack(%v, Unpack(%x)): %x %d", widths, b, s, e)
		}
	}
}

// Cut leads back from Text, whatever is behind; one byte less behind it, and there is no text.
func TestCutTextBack(t *testing.T) {
	for _, s := range []string{"", "a", "\x00", "ab\x00\xff", strings.Repeat("z", 255), strings.Repeat("z", 256), strings.Repeat("z", 70000)} {
		for _, behind := range []string{"", "\x00", "\xff\xff\xff\xff", octet.Text("more"), octet.Text(s)} {
			text, rest, e := octet.Cut(octet.Text(s) + behind)
			if text != s || rest != behind || e != api.OK {
				t.Errorf("Cut(Text of %d bytes + %.20x): %d bytes, %.20x, %d", len(s), behind, len(text), rest, e)
			}
			if octet.Text(text)+rest != octet.Text(s)+behind {
				t.Errorf("Text of what was cut of %d bytes is something else", len(s))
			}
		}
		short := octet.Text(s)
		if text, rest, e := octet.Cut(short[:len(short)-1]); text != "" || rest != "" || e != api.ErrForm {
			t.Errorf("Cut of %d bytes less one: %.20x %.20x %d", len(short), text, rest, e)
		}
	}
}

// Of two numbers of one width the less one has the lesser bytes.
func TestOrder(t *testing.T) {
	for width := 1; width <= 8; width++ {
		l := slices.DeleteFunc(numbers(), func(n int) bool {
			_, e := want(n, width)
			return e != api.OK
		})
		for _, a := range l {
			for _, b := range l {
				s, _ := octet.Put(a, width)
				o, _ := octet.Put(b, width)
				if (a < b) != (s < o) || (a == b) != (s == o) {
					t.Errorf("%d and %d in %d bytes: %x and %x", a, b, width, s, o)
				}
			}
		}
	}
}

// No call panics, and beside an error stands nothing, at whatever bytes.
func FuzzCalls(f *testing.F) {
	for _, s := range []string{"", "\x00", "\x01\x02\x03", "\x00\x00\x00\x02ab", "\xff\xff\xff\xff\xff\xff\xff\xff", "\x00\x00\x00\x00\x00\x00\x00\x00\x09", "\xff\xff\xff\xffab"} {
		for _, n := range []int{math.MinInt64, -1, 0, 1, 4, 8, 9, 65536, 65537, math.MaxInt64} {
			f.Add(s, n, int8(n))
		}
	}
	f.Fuzz(func(t *testing.T, s string, n int, width int8) {
		widths := []int{1, int(width)}
		if p, e := octet.Put(n, int(width)); (e == api.OK) != (p != "") {
			t.Error("Put", n, width, p, e)
		}
		if g, e := octet.Get(s); e != api.OK && g != 0 {
			t.Error("Get", s, g, e)
		}
		if p, e := octet.Pack(widths, n, n); (e == api.OK) != (p != "") {
			t.Error("Pack", n, width, p, e)
		}
		if l, e := octet.Unpack(widths, s); (e == api.OK) != (len(l) == 2) || e != api.OK && l != nil {
			t.Error("Unpack", s, width, l, e)
		}
		if a, b, e := octet.Cut(s); (e == api.OK) != (octet.Text(a)+b == s) || e != api.OK && a+b != "" {
			t.Error("Cut", s, a, b, e)
		}
		if p, e := octet.Fill(s, n); e != api.OK && p != "" || e == api.OK && (len(p) != n || !bytes.HasPrefix([]byte(p), []byte(s))) {
			t.Error("Fill", s, n, e)
		}
	})
}
