package sha_test

import (
	"crypto/sha256"
	"encoding"
	"encoding/binary"
	"encoding/hex"
	"math"
	"math/big"
	"math/rand"
	"slices"
	"strings"
	"testing"

	"keepsake/api"
	"keepsake/sha"
)

// text makes n bytes that are no row of one kind.
func text(n int) string {
	b := make([]byte, n)
	rand.New(rand.NewSource(int64(n))).Read(b)
	return string(b)
}

// want says by the library's own means what Sum must answer.
func want(l ...string) string {
	s := sha256.Sum256([]byte(strings.Join(l, "")))
	return string(s[:])
}

// wantStep says by the library's own means what Step must answer: its digest is set to the state, and has the block.
func wantStep(t *testing.T, state, block string) string {
	t.Helper()
	const head = "sha\x03"
	h := sha256.New()
	all := head + state + strings.Repeat("\x00", 64+8)
	if err := h.(encoding.BinaryUnmarshaler).UnmarshalBinary([]byte(all)); err != nil {
		t.Fatal(err)
	}
	h.Write([]byte(block))
	b, err := h.(encoding.BinaryMarshaler).MarshalBinary()
	if err != nil {
		t.Fatal(err)
	}
	return string(b[len(head) : len(head)+api.Wide])
}

// primes tells the first n of them.
func primes(n int) []int {
	var l []int
	for p := 2; len(l) < n; p++ {
		if !slices.ContainsFunc(l, func(q int) bool { return p%q == 0 }) {
			l = append(l, p)
		}
	}
	return l
}

// behindPoint tells the first 32 bits behind the point of the n-th root of p: the greatest x with x^n at most p * 2^(32n), without its higher bits.
func behindPoint(p, n int) uint32 {
	top := new(big.Int).Lsh(big.NewInt(int64(p)), uint(32*n))
	x := new(big.Int)
	for bit := 40; bit >= 0; bit-- {
		y := new(big.Int).SetBit(x, bit, 1)
		if new(big.Int).Exp(y, big.NewInt(int64(n)), nil).Cmp(top) <= 0 {
			x = y
		}
	}
	return uint32(x.Uint64())
}

// byWords is Step as the chapter's words say it, with numbers worked out of the primes: it knows no table.
func byWords(state, block string) string {
	turned := func(x uint32, n int) uint32 { return x>>n | x<<(32-n) }
	var s [8]uint32
	for i := range s {
		s[i] = binary.BigEndian.Uint32([]byte(state[4*i:]))
	}
	var w [64]uint32
	for i := range w {
		if i < 16 {
			w[i] = binary.BigEndian.Uint32([]byte(block[4*i:]))
			continue
		}
		x, y := w[i-15], w[i-2]
		s0 := turned(x, 7) ^ turned(x, 18) ^ x>>3
		s1 := turned(y, 17) ^ turned(y, 19) ^ y>>10
		w[i] = w[i-16] + s0 + w[i-7] + s1
	}
	v := s
	for i, p := range primes(64) {
		a, b, c, e, f, g := v[0], v[1], v[2], v[4], v[5], v[6]
		t := v[7] + (turned(e, 6) ^ turned(e, 11) ^ turned(e, 25)) + (e&f | ^e&g) + behindPoint(p, 3) + w[i]
		u := (turned(a, 2) ^ turned(a, 13) ^ turned(a, 22)) + (a&b | a&c | b&c)
		copy(v[1:], slices.Clone(v[:7]))
		v[4] += t
		v[0] = t + u
	}
	var out []byte
	for i := range s {
		out = binary.BigEndian.AppendUint32(out, s[i]+v[i])
	}
	return string(out)
}

func TestFirst(t *testing.T) {
	var out []byte
	for _, p := range primes(8) {
		out = binary.BigEndian.AppendUint32(out, behindPoint(p, 2))
	}
	if got := sha.First(); got != string(out) {
		t.Errorf("First: %x, asked %x", got, out)
	}
	const standard = "6a09e667bb67ae853c6ef372a54ff53a510e527f9b05688c1f83d9ab5be0cd19"
	if got := hex.EncodeToString([]byte(sha.First())); got != standard {
		t.Errorf("First: %s, asked %s", got, standard)
	}
}

func TestStep(t *testing.T) {
	states := []string{sha.First(), strings.Repeat("\x00", 32), strings.Repeat("\xff", 32), strings.Repeat("\x80\x00\x00\x01", 8)}
	blocks := []string{strings.Repeat("\x00", 64), strings.Repeat("\xff", 64), "abc\x80" + strings.Repeat("\x00", 59) + "\x18"}
	for i := range 40 {
		states, blocks = append(states, text(32 + 1000*i)[:32]), append(blocks, text(64 + 1000*i)[:64])
	}
	for i, s := range states {
		for j, b := range blocks {
			got, e := sha.Step(s, b)
			if w := wantStep(t, s, b); got != w || e != api.OK {
				t.Errorf("Step(%x, %x): %x %d, asked %x", s, b, got, e, w)
			}
			if w := byWords(s, b); (i < 5 || j < 4) && got != w {
				t.Errorf("Step(%x, %x): %x, by the words %x", s, b, got, w)
			}
		}
	}
}

func TestStepByHand(t *testing.T) {
	// the block of "abc" turns the first state to its sum
	got, e := sha.Step(sha.First(), "abc\x80"+strings.Repeat("\x00", 59)+"\x18")
	const abc = "ba7816bf8f01cfea414140de5dae2223b00361a396177a9cb410ff61f20015ad"
	if hex.EncodeToString([]byte(got)) != abc || e != api.OK {
		t.Errorf("Step: %x %d, asked %s", got, e, abc)
	}
}

func TestStepWrong(t *testing.T) {
	for _, s := range []int{0, 1, 4, 28, 31, 32, 33, 36, 63, 64, 65, 4096} {
		for _, b := range []int{0, 1, 31, 32, 60, 63, 64, 65, 68, 127, 128, 4096} {
			got, e := sha.Step(text(s), text(b))
			if right := s == 32 && b == 64; right != (e == api.OK) || right != (len(got) == 32) {
				t.Errorf("Step of %d and %d bytes: %x %d", s, b, got, e)
			} else if !right && (got != "" || e != api.ErrArg) {
				t.Errorf("Step of %d and %d bytes: %x %d, asked ErrArg", s, b, got, e)
			}
		}
	}
}

func TestPad(t *testing.T) {
	for _, c := range []struct {
		n, noughts int
		length     string
	}{
		{0, 55, "\x00\x00\x00\x00\x00\x00\x00\x00"},
		{1, 54, "\x00\x00\x00\x00\x00\x00\x00\x08"},
		{3, 52, "\x00\x00\x00\x00\x00\x00\x00\x18"},
		{31, 24, "\x00\x00\x00\x00\x00\x00\x00\xf8"},
		{32, 23, "\x00\x00\x00\x00\x00\x00\x01\x00"},
		{54, 1, "\x00\x00\x00\x00\x00\x00\x01\xb0"},
		{55, 0, "\x00\x00\x00\x00\x00\x00\x01\xb8"},
		{56, 63, "\x00\x00\x00\x00\x00\x00\x01\xc0"},
		{57, 62, "\x00\x00\x00\x00\x00\x00\x01\xc8"},
		{63, 56, "\x00\x00\x00\x00\x00\x00\x01\xf8"},
		{64, 55, "\x00\x00\x00\x00\x00\x00\x02\x00"},
		{65, 54, "\x00\x00\x00\x00\x00\x00\x02\x08"},
		{119, 0, "\x00\x00\x00\x00\x00\x00\x03\xb8"},
		{120, 63, "\x00\x00\x00\x00\x00\x00\x03\xc0"},
		{128, 55, "\x00\x00\x00\x00\x00\x00\x04\x00"},
		{1 << 29, 55, "\x00\x00\x00\x01\x00\x00\x00\x00"},
		{math.MaxInt32, 56, "\x00\x00\x00\x03\xff\xff\xff\xf8"},
		{1<<56 - 1, 56, "\x07\xff\xff\xff\xff\xff\xff\xf8"},
		{1<<59 - 9, 0, "\x3f\xff\xff\xff\xff\xff\xff\xb8"},
		{1<<59 - 1, 56, "\x3f\xff\xff\xff\xff\xff\xff\xf8"},
		{1 << 59, 55, "\x40\x00\x00\x00\x00\x00\x00\x00"},
	} {
		w := "\x80" + strings.Repeat("\x00", c.noughts) + c.length
		if s, e := sha.Pad(c.n); s != w || e != api.OK {
			t.Errorf("Pad(%d): %x %d, asked %x", c.n, s, e, w)
		}
	}
	for _, n := range []int{math.MinInt64, -1 << 59, -64, -56, -9, -8, -1, 1<<59 + 1, 1<<59 + 8, 1 << 60, 1 << 61, 1 << 62, math.MaxInt64 - 8, math.MaxInt64} {
		if s, e := sha.Pad(n); s != "" || e != api.ErrArg {
			t.Errorf("Pad(%d): %x %d, asked ErrArg", n, s, e)
		}
	}
}

// There are as few noughts as there may be, and all is a whole number of blocks.
func TestPadFew(t *testing.T) {
	for n := range 1000 {
		s, e := sha.Pad(n)
		if e != api.OK || (n+len(s))%64 != 0 || len(s) < 9 || len(s) > 72 {
			t.Fatalf("Pad(%d): %x %d", n, s, e)
		}
		if s[0] != 0x80 || strings.Trim(s[1:len(s)-8], "\x00") != "" || binary.BigEndian.Uint64([]byte(s[len(s)-8:])) != uint64(8*n) {
			t.Fatalf("Pad(%d): %x", n, s)
		}
	}
}

// The sums that the standard's examples tell.
func TestSumByHand(t *testing.T) {
	for _, c := range []struct{ s, sum string }{
		{"", "e3b0c44298fc1c149afbf4c8996fb92427ae41e4649b934ca495991b7852b855"},
		{"abc", "ba7816bf8f01cfea414140de5dae2223b00361a396177a9cb410ff61f20015ad"},
		{"abcdbcdecdefdefgefghfghighijhijkijkljklmklmnlmnomnopnopq", "248d6a61d20638b8e5c026930c3e6039a33ce45964ff2167f6ecedd419db06c1"},
		{"abcdefghbcdefghicdefghijdefghijkefghijklfghijklmghijklmnhijklmnoijklmnopjklmnopqklmnopqrlmnopqrsmnopqrstnopqrstu", "cf5b16a778af8380036ce59e7b0492370b249b11e8f07a51afac45037afee9d1"},
		{strings.Repeat("a", 1000000), "cdc76e5c9914fb9281a1c7e284d73e67f1809a48a497200e046d39ccc7112cd0"},
		{"\xbd", "68325720aabd7c82f30f554b313d0570c95accbb7dc4b5aae11204c08ffe732b"},
	} {
		if got := hex.EncodeToString([]byte(sha.Sum(c.s))); got != c.sum {
			t.Errorf("Sum of %d bytes: %s, asked %s", len(c.s), got, c.sum)
		}
	}
}

// All lengths about the first blocks' ends, and some about later ones.
func TestSum(t *testing.T) {
	var l []int
	for n := range 300 {
		l = append(l, n)
	}
	for _, n := range []int{1024, 4000, api.Block, 65536, 1 << 20} {
		l = append(l, n-65, n-64, n-63, n-10, n-9, n-8, n-7, n-1, n, n+1, n+55, n+56, n+63)
	}
	for _, n := range l {
		for _, s := range []string{text(n), strings.Repeat("\x00", n), strings.Repeat("\xff", n)} {
			if got := sha.Sum(s); got != want(s) {
				t.Errorf("Sum of %d bytes: %x, asked %x", n, got, want(s))
			}
		}
	}
}

func TestSumOfTexts(t *testing.T) {
	for _, l := range [][]string{
		nil,
		{},
		{""},
		{"", "", ""},
		{"abc"},
		{"a", "bc"},
		{"", "a", "", "bc", ""},
		{text(63), "", text(1), text(64)},
		{text(64), text(64)},
		{text(55), text(1)},
		{text(1), text(63), text(129)},
		slices.Repeat([]string{"", text(17)}, 100),
	} {
		was := slices.Clone(l)
		if got := sha.Sum(l...); got != want(l...) || len(got) != 32 {
			t.Errorf("Sum of %d texts: %x, asked %x", len(l), got, want(l...))
		}
		if !slices.Equal(l, was) {
			t.Error("texts have changed", l, was)
		}
	}
}

// The sum is what the blocks of a text and its Pad turn the first state to.
func TestSumBySteps(t *testing.T) {
	for n := range 260 {
		pad, e := sha.Pad(n)
		all, state := text(n)+pad, sha.First()
		for ; all != "" && e == api.OK; all = all[64:] {
			state, e = sha.Step(state, all[:64])
		}
		if got := sha.Sum(text(n)); e != api.OK || got != state {
			t.Errorf("Sum of %d bytes: %x, by steps %x %d", n, got, state, e)
		}
	}
}

func TestHashOfNothing(t *testing.T) {
	h := sha.New()
	if h.Len() != 0 || h.Sum() != want() {
		t.Errorf("of nothing: %d %x", h.Len(), h.Sum())
	}
	if e := h.Put(""); e != api.OK || h.Len() != 0 || h.Sum() != want() {
		t.Errorf("of an empty text: %d %d %x", e, h.Len(), h.Sum())
	}
	if sha.New() == sha.New() {
		t.Error("New tells one hash twice")
	}
}

// Put in whatever pieces, and told between, a text has one sum.
func TestPieces(t *testing.T) {
	whole := text(400)
	for piece := 1; piece <= 200; piece++ {
		h, quiet := sha.New(), sha.New()
		for rest := whole; rest != ""; {
			n := min(piece, len(rest))
			if h.Put(rest[:n]) != api.OK || quiet.Put(rest[:n]) != api.OK || h.Put("") != api.OK {
				t.Fatal("Put is refused")
			}
			rest = rest[n:]
			so := whole[:len(whole)-len(rest)]
			if h.Len() != len(so) || h.Sum() != want(so) || h.Sum() != want(so) || h.Len() != len(so) {
				t.Fatalf("%d bytes in pieces of %d: %d %x, asked %x", len(so), piece, h.Len(), h.Sum(), want(so))
			}
		}
		if quiet.Sum() != want(whole) {
			t.Errorf("pieces of %d: %x, asked %x", piece, quiet.Sum(), want(whole))
		}
	}
}

func TestPiecesByChance(t *testing.T) {
	r := rand.New(rand.NewSource(3))
	for range 400 {
		var l []string
		h := sha.New()
		for range r.Intn(12) {
			s := text(r.Intn([]int{2, 66, 200, 5000}[r.Intn(4)]))
			l = append(l, s)
			if e := h.Put(s); e != api.OK {
				t.Fatal("Put", e)
			}
			if r.Intn(2) == 0 && h.Sum() != want(l...) {
				t.Fatalf("between: %x, asked %x", h.Sum(), want(l...))
			}
		}
		if h.Sum() != want(l...) || sha.Sum(l...) != want(l...) || h.Len() != len(strings.Join(l, "")) {
			t.Fatalf("%d texts: %d %x, asked %x", len(l), h.Len(), h.Sum(), want(l...))
		}
	}
}

// A copy has had the same, and from then on each is apart, whichever is put to first.
func TestCopy(t *testing.T) {
	for _, n := range []int{0, 1, 55, 56, 63, 64, 65, 127, 128, 200} {
		for _, m := range []int{1, 2, 8, 9, 63, 64, 65, 130} {
			h := sha.New()
			h.Put(text(n))
			c := h.Copy()
			if c == nil || c == h {
				t.Fatal("Copy tells none, or the same")
			}
			if c.Len() != n || c.Sum() != want(text(n)) {
				t.Errorf("copy of %d bytes: %d %x", n, c.Len(), c.Sum())
			}
			one, two := strings.Repeat("c", m), strings.Repeat("h", m+1)
			c.Put(one)
			if h.Len() != n || h.Sum() != want(text(n)) {
				t.Errorf("of %d bytes, behind %d that a copy had: %d %x", n, m, h.Len(), h.Sum())
			}
			h.Put(two)
			if c.Len() != n+m || c.Sum() != want(text(n), one) {
				t.Errorf("copy of %d bytes, with %d more: %d %x", n, m, c.Len(), c.Sum())
			}
			if h.Len() != n+m+1 || h.Sum() != want(text(n), two) {
				t.Errorf("of %d bytes, with %d more: %d %x", n, m+1, h.Len(), h.Sum())
			}
			d := c.Copy()
			c.Put(two)
			if d.Put("d") != api.OK || d.Sum() != want(text(n), one, "d") || d.Len() != n+m+1 {
				t.Errorf("copy of a copy: %d %x", d.Len(), d.Sum())
			}
		}
	}
}

// Two hashes, put to in turns, have nothing in common.
func TestApart(t *testing.T) {
	a, b := sha.New(), sha.New()
	for i := range 100 {
		a.Put(strings.Repeat("a", i))
		b.Put(strings.Repeat("b", 2*i))
	}
	if a.Sum() != want(strings.Repeat("a", 4950)) || b.Sum() != want(strings.Repeat("b", 9900)) {
		t.Errorf("%x %x", a.Sum(), b.Sum())
	}
}

// Of nil, and of a Hash that no call made, nothing is told and nothing is done, however often.
func TestNone(t *testing.T) {
	for _, h := range []*sha.Hash{nil, new(sha.Hash), {}} {
		for _, s := range []string{"", "abc", text(64), text(200)} {
			if e := h.Put(s); e != api.ErrNil {
				t.Errorf("Put of %d bytes: %d, asked ErrNil", len(s), e)
			}
			if s := h.Sum(); s != "" {
				t.Errorf("Sum: %x, asked none", s)
			}
			if n := h.Len(); n != 0 {
				t.Errorf("Len: %d, asked 0", n)
			}
			if c := h.Copy(); c != nil {
				t.Error("Copy is not nil")
			}
		}
	}
}

// What a call answers hangs on nothing but its arguments: neither order nor what was told ahead.
func TestAgain(t *testing.T) {
	first := sha.First()
	sum := sha.Sum("abc")
	sha.Step(first, text(64))
	sha.Step(sum, text(64))
	sha.Sum(text(1000))
	if sha.First() != first || sha.Sum("abc") != sum {
		t.Error("told again, it is something else")
	}
}

// No call panics, beside an error stands nothing, and in whatever pieces a text has one sum, at whatever bytes.
func FuzzCalls(f *testing.F) {
	for _, n := range []int{0, 1, 31, 32, 33, 55, 56, 63, 64, 65, 128, 300} {
		f.Add(text(n), text(64), n)
		f.Add(text(32), text(n), 1<<59-n)
		f.Add(text(n), text(n), -n)
		f.Add("", "", 1<<59+n)
	}
	f.Fuzz(func(t *testing.T, a, b string, n int) {
		s, e := sha.Step(a, b)
		if right := len(a) == 32 && len(b) == 64; right != (e == api.OK) || !right && (s != "" || e != api.ErrArg) {
			t.Errorf("Step(%x, %x): %x %d", a, b, s, e)
		} else if right && s != wantStep(t, a, b) {
			t.Errorf("Step(%x, %x): %x, asked %x", a, b, s, wantStep(t, a, b))
		}
		p, e := sha.Pad(n)
		if right := 0 <= n && n <= 1<<59; right != (e == api.OK) || right != ((n+len(p))%64 == 0 && len(p) >= 9) || !right && p != "" {
			t.Errorf("Pad(%d): %x %d", n, p, e)
		}
		h := sha.New()
		h.Put(a)
		c := h.Copy()
		h.Put(b)
		if h.Sum() != want(a, b) || sha.Sum(a, b) != want(a, b) || h.Len() != len(a)+len(b) || c.Sum() != want(a) {
			t.Errorf("of %x and %x: %x", a, b, h.Sum())
		}
	})
}
