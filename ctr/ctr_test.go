package ctr_test

import (
	"bytes"
	stdaes "crypto/aes"
	"crypto/cipher"
	"encoding/binary"
	"encoding/hex"
	"math"
	"math/rand"
	"strings"
	"testing"

	"keepsake/aes"
	"keepsake/api"
	"keepsake/ctr"
)

// low is the key of the bytes from 0 to 15.
const low = "\x00\x01\x02\x03\x04\x05\x06\x07\x08\x09\x0a\x0b\x0c\x0d\x0e\x0f"

// text makes n bytes that are no row of one kind.
func text(n int) string {
	b := make([]byte, n)
	rand.New(rand.NewSource(int64(n) + 6)).Read(b)
	return string(b)
}

// unhex takes bytes that are written to the base 16, with blanks between them where they are read more easily so.
func unhex(t *testing.T, s string) string {
	t.Helper()
	b, err := hex.DecodeString(strings.ReplaceAll(s, " ", ""))
	if err != nil {
		t.Fatal(err)
	}
	return string(b)
}

// isNumber says of an epoch, a slot and a counter's number whether it may be.
func isNumber(n int) bool { return n >= 0 && n <= 4294967295 }

// wantCount says by the library's own means what Count must answer.
func wantCount(epoch, slot, i int) (string, api.Errno) {
	if !isNumber(epoch) || !isNumber(slot) || !isNumber(i) {
		return "", api.ErrArg
	}
	b := []byte{0x75, 0, 0, 0}
	for _, n := range []int{epoch, slot, i} {
		b = binary.BigEndian.AppendUint32(b, uint32(n))
	}
	return string(b), api.OK
}

// wantXor says by the library's own means what the text becomes that stands behind from bytes.
func wantXor(key string, epoch, slot, from int, s string) (string, api.Errno) {
	if len(key) != 16 || from < 0 || from > 65536 || from+len(s) > 65536 || !isNumber(epoch) || !isNumber(slot) {
		return "", api.ErrArg
	}
	c, err := stdaes.NewCipher([]byte(key))
	if err != nil {
		panic(err)
	}
	first, _ := wantCount(epoch, slot, 0)
	out := append(make([]byte, from), s...)
	cipher.NewCTR(c, []byte(first)).XORKeyStream(out, out)
	return string(out[from:]), api.OK
}

// wantStream says by the library's own means what Stream must answer.
func wantStream(key string, epoch, slot, from, n int) (string, api.Errno) {
	if n < 0 || n > 65536 {
		return "", api.ErrArg
	}
	return wantXor(key, epoch, slot, from, strings.Repeat("\x00", n))
}

// checkStream holds what is streamed against what the library says.
func checkStream(t *testing.T, key string, epoch, slot, from, n int) {
	t.Helper()
	s, e := ctr.Stream(key, epoch, slot, from, n)
	if w, f := wantStream(key, epoch, slot, from, n); s != w || e != f {
		t.Errorf("Stream(%x, %d, %d, %d, %d): %d bytes %.64x %d, asked %d bytes %.64x %d", key, epoch, slot, from, n, len(s), s, e, len(w), w, f)
	}
}

// checkXor holds what is hidden against what the library says.
func checkXor(t *testing.T, key string, epoch, slot int, s string) {
	t.Helper()
	out, e := ctr.Xor(key, epoch, slot, s)
	if w, f := wantXor(key, epoch, slot, 0, s); out != w || e != f {
		t.Errorf("Xor(%x, %d, %d, %d bytes): %d bytes %.64x %d, asked %d bytes %.64x %d", key, epoch, slot, len(s), len(out), out, e, len(w), w, f)
	}
}

func TestCountByHand(t *testing.T) {
	for _, c := range []struct {
		epoch, slot, i int
		block          string
	}{
		{1, 2, 3, "75000000 00000001 00000002 00000003"},
		{0, 0, 0, "75000000 00000000 00000000 00000000"},
		{1, 0, 0, "75000000 00000001 00000000 00000000"},
		{0, 1, 0, "75000000 00000000 00000001 00000000"},
		{0, 0, 1, "75000000 00000000 00000000 00000001"},
		{0x01020304, 0x05060708, 0x090a0b0c, "75000000 01020304 05060708 090a0b0c"},
		{0xf1f2f3f4, 0xe1e2e3e4, 0xd1d2d3d4, "75000000 f1f2f3f4 e1e2e3e4 d1d2d3d4"},
		{4294967295, 0, 0, "75000000 ffffffff 00000000 00000000"},
		{0, 4294967295, 0, "75000000 00000000 ffffffff 00000000"},
		{0, 0, 4294967295, "75000000 00000000 00000000 ffffffff"},
		{4294967295, 4294967295, 4294967295, "75000000 ffffffff ffffffff ffffffff"},
	} {
		if block, e := ctr.Count(c.epoch, c.slot, c.i); block != unhex(t, c.block) || e != api.OK {
			t.Errorf("Count(%d, %d, %d): %x %d, asked %s", c.epoch, c.slot, c.i, block, e, c.block)
		}
	}
}

// Each number of the edges, and each wrong one, stands in each place, with all of them beside it.
func TestCount(t *testing.T) {
	numbers := []int{math.MinInt64, -1 << 32, -1<<32 + 1, -2, -1, 0, 1, 2, 255, 256, 65535, 65536, 1 << 31, 1<<32 - 2, 1<<32 - 1, 1 << 32, 1<<32 + 1, 1 << 40, 1 << 56, math.MaxInt64}
	for _, epoch := range numbers {
		for _, slot := range numbers {
			for _, i := range numbers {
				block, e := ctr.Count(epoch, slot, i)
				if w, f := wantCount(epoch, slot, i); block != w || e != f {
					t.Errorf("Count(%d, %d, %d): %x %d, asked %x %d", epoch, slot, i, block, e, w, f)
				}
			}
		}
	}
}

// What was worked out by other means than these tests'.
func TestStreamByHand(t *testing.T) {
	const first = "90ff5588d3abfffe7a9d32670e54c073 5cb93d78f59b6f37b85aacd2430b6ba0 5c612a1a7f32b777"
	const last = "71ee249ef4d967ed 2243d12dabe9d400d797dcc2d2b22167 34aca52876119b3d1a92afb69a35f7a6"
	nought, full := strings.Repeat("\x00", 16), strings.Repeat("\xff", 16)
	for _, c := range []struct {
		key                  string
		epoch, slot, from, n int
		stream               string
	}{
		{low, 1, 2, 0, 40, first},
		{low, 1, 2, 0, 0, ""},
		{low, 1, 2, 0, 1, "90"},
		{low, 1, 2, 1, 1, "ff"},
		{low, 1, 2, 15, 1, "73"},
		{low, 1, 2, 16, 1, "5c"},
		{low, 1, 2, 15, 2, "735c"},
		{low, 1, 2, 14, 20, "c073 5cb93d78f59b6f37b85aacd2430b6ba0 5c61"},
		{low, 1, 2, 65496, 40, last},
		{low, 1, 2, 65535, 1, "a6"},
		{low, 1, 2, 65536, 0, ""},
		{nought, 0, 0, 0, 40, "7750a8d0887e95541183bd0c2f3c877ea5ad6257a3f8643e3a03ecb09f7ed5896a6f541568443bac"},
		{full, 4294967295, 4294967295, 0, 40, "f8f7c9429724f29beaee96613288c5b097d336d353c2248e775d1644a8e2fd96907b79e871384b3e"},
	} {
		if s, e := ctr.Stream(c.key, c.epoch, c.slot, c.from, c.n); s != unhex(t, c.stream) || e != api.OK {
			t.Errorf("Stream(%x, %d, %d, %d, %d): %x %d, asked %s", c.key, c.epoch, c.slot, c.from, c.n, s, e, c.stream)
		}
	}
}

func TestXorByHand(t *testing.T) {
	const shown, hidden = "a text of more than one block", "f1df21edabdfdf911cbd5f087c31e00734d853589af50a17da36c3b128"
	if s, e := ctr.Xor(low, 1, 2, shown); s != unhex(t, hidden) || e != api.OK {
		t.Errorf("hidden: %x %d, asked %s", s, e, hidden)
	}
	if s, e := ctr.Xor(low, 1, 2, unhex(t, hidden)); s != shown || e != api.OK {
		t.Errorf("shown: %q %d, asked %q", s, e, shown)
	}
}

// The chapter's words: counters' blocks are encrypted one by one, and bytes are cut off what they are.
func TestStreamOfBlocks(t *testing.T) {
	key := text(16)
	var all strings.Builder
	for i := range 65536 / 16 {
		block, e := ctr.Count(7, 1<<20, i)
		if e != api.OK {
			t.Fatal(i, e)
		}
		hidden, e := aes.Encrypt(key, block)
		if e != api.OK {
			t.Fatal(i, e)
		}
		all.WriteString(hidden)
	}
	places := []int{0, 1, 7, 15, 16, 17, 31, 32, 33, 48, 255, 256, 4000, 4095, 4096, 65504, 65519, 65520, 65521, 65534, 65535, 65536}
	lengths := []int{0, 1, 2, 15, 16, 17, 31, 32, 33, 64, 100, 4000, 65535, 65536}
	for _, from := range places {
		for _, n := range append(lengths, 65536-from) {
			s, e := ctr.Stream(key, 7, 1<<20, from, n)
			want, f := "", api.ErrArg
			if from+n <= 65536 {
				want, f = all.String()[from:from+n], api.OK
			}
			if s != want || e != f {
				t.Errorf("Stream from %d, %d bytes: %d bytes %.64x %d, asked %.64x %d", from, n, len(s), s, e, want, f)
			}
		}
	}
}

// All short pieces of the first blocks.
func TestStreamShort(t *testing.T) {
	for from := range 40 {
		for n := range 40 {
			checkStream(t, low, 3, 5, from, n)
		}
	}
}

func TestStreamRefused(t *testing.T) {
	for _, c := range []struct {
		key                  string
		epoch, slot, from, n int
		e                    api.Errno
	}{
		// as much as there may be, and one more
		{low, 1, 2, 0, 65536, api.OK},
		{low, 1, 2, 0, 65537, api.ErrArg},
		{low, 1, 2, 1, 65535, api.OK},
		{low, 1, 2, 1, 65536, api.ErrArg},
		{low, 1, 2, 32768, 32768, api.OK},
		{low, 1, 2, 32768, 32769, api.ErrArg},
		{low, 1, 2, 32769, 32768, api.ErrArg},
		{low, 1, 2, 65535, 1, api.OK},
		{low, 1, 2, 65535, 2, api.ErrArg},
		{low, 1, 2, 65536, 0, api.OK},
		{low, 1, 2, 65536, 1, api.ErrArg},
		{low, 1, 2, 65537, 0, api.ErrArg},
		// below 0, be the other one as it may
		{low, 1, 2, -1, 0, api.ErrArg},
		{low, 1, 2, -1, 1, api.ErrArg},
		{low, 1, 2, -1, 2, api.ErrArg},
		{low, 1, 2, -16, 32, api.ErrArg},
		{low, 1, 2, -1, 65537, api.ErrArg},
		{low, 1, 2, 0, -1, api.ErrArg},
		{low, 1, 2, 1, -1, api.ErrArg},
		{low, 1, 2, 16, -16, api.ErrArg},
		{low, 1, 2, 65537, -1, api.ErrArg},
		{low, 1, 2, -1, -1, api.ErrArg},
		// sums that an int doesn't hold
		{low, 1, 2, math.MaxInt64, 0, api.ErrArg},
		{low, 1, 2, 0, math.MaxInt64, api.ErrArg},
		{low, 1, 2, 1, math.MaxInt64, api.ErrArg},
		{low, 1, 2, math.MaxInt64, 1, api.ErrArg},
		{low, 1, 2, math.MaxInt64, math.MaxInt64, api.ErrArg},
		{low, 1, 2, math.MinInt64, math.MinInt64, api.ErrArg},
		{low, 1, 2, math.MinInt64, math.MaxInt64, api.ErrArg},
		{low, 1, 2, math.MaxInt64, math.MinInt64, api.ErrArg},
		// keys
		{"", 1, 2, 0, 16, api.ErrArg},
		{low[:15], 1, 2, 0, 16, api.ErrArg},
		{low + "\x10", 1, 2, 0, 16, api.ErrArg},
		{low + low[:8], 1, 2, 0, 16, api.ErrArg},
		{low + low, 1, 2, 0, 16, api.ErrArg},
		// wrong, though nothing is asked
		{"", 1, 2, 0, 0, api.ErrArg},
		{low[:15], 1, 2, 0, 0, api.ErrArg},
		{low + "\x10", 1, 2, 65536, 0, api.ErrArg},
		{low, -1, 2, 0, 0, api.ErrArg},
		{low, 1 << 32, 2, 0, 0, api.ErrArg},
		{low, 1, -1, 0, 0, api.ErrArg},
		{low, 1, 1 << 32, 65536, 0, api.ErrArg},
		{low, 0, 4294967295, 0, 0, api.OK},
		{low, 4294967295, 0, 0, 0, api.OK},
		// epochs and slots
		{low, -1, 2, 0, 16, api.ErrArg},
		{low, 1 << 32, 2, 0, 16, api.ErrArg},
		{low, math.MinInt64, 2, 0, 16, api.ErrArg},
		{low, math.MaxInt64, 2, 0, 16, api.ErrArg},
		{low, 1, -1, 0, 16, api.ErrArg},
		{low, 1, 1 << 32, 0, 16, api.ErrArg},
		{low, 1, math.MinInt64, 0, 16, api.ErrArg},
		{low, 1, math.MaxInt64, 0, 16, api.ErrArg},
		// several at once
		{"", -1, -1, -1, -1, api.ErrArg},
		{low[:15], 1, 2, -1, 16, api.ErrArg},
		{low, -1, 2, 65537, 1, api.ErrArg},
		{low, 1 << 32, 1 << 32, 0, 65537, api.ErrArg},
		{"", 1, -1, 0, 16, api.ErrArg},
	} {
		s, e := ctr.Stream(c.key, c.epoch, c.slot, c.from, c.n)
		if e != c.e || e != api.OK && s != "" || e == api.OK && len(s) != c.n {
			t.Errorf("Stream(%x, %d, %d, %d, %d): %d bytes %d, asked %d", c.key, c.epoch, c.slot, c.from, c.n, len(s), e, c.e)
		}
	}
}

// Each wrong argument beside each other, right or wrong: the library's words say what is answered.
func TestStreamMixed(t *testing.T) {
	for _, key := range []string{"", text(15), text(16), text(17)} {
		for _, epoch := range []int{-1, 0, 1, 1<<32 - 1, 1 << 32} {
			for _, slot := range []int{-1, 0, 1, 1<<32 - 1, 1 << 32} {
				for _, from := range []int{math.MinInt64, -1, 0, 1, 15, 16, 65535, 65536, 65537, math.MaxInt64} {
					for _, n := range []int{math.MinInt64, -1, 0, 1, 17, 65536, 65537, math.MaxInt64} {
						if n == 65536 && epoch != slot {
							continue // the long ones take long
						}
						checkStream(t, key, epoch, slot, from, n)
					}
				}
			}
		}
	}
}

func TestXor(t *testing.T) {
	for _, n := range []int{0, 1, 2, 15, 16, 17, 31, 32, 33, 4000, 4096, 65535, 65536, 65537, 65552, 100000} {
		for _, key := range []string{"", text(15), text(16), text(17), text(32)} {
			checkXor(t, key, 1, 2, text(n))
		}
		for _, number := range []int{math.MinInt64, -1, 0, 1<<32 - 1, 1 << 32, math.MaxInt64} {
			checkXor(t, text(16), number, 2, text(n))
			checkXor(t, text(16), 1, number, text(n))
			checkXor(t, text(16), number, number, text(n))
		}
	}
	checkXor(t, "", -1, -1, text(65537))
	checkXor(t, text(17), 1<<32, 1<<32, text(65537))
}

// Bytes of all values are held against what is streamed, and that is what noughts become.
func TestXorOfAll(t *testing.T) {
	for b := range 256 {
		checkXor(t, text(16), 9, 9, strings.Repeat(string([]byte{byte(b)}), 50))
	}
	stream, _ := ctr.Stream(text(16), 9, 9, 0, 65536)
	if s, e := ctr.Xor(text(16), 9, 9, strings.Repeat("\x00", 65536)); s != stream || e != api.OK {
		t.Error("noughts do not become what is streamed", e)
	}
	if s, e := ctr.Xor(text(16), 9, 9, stream); s != strings.Repeat("\x00", 65536) || e != api.OK {
		t.Error("what is streamed does not become noughts", e)
	}
}

// Xor again leads back; under another key, epoch or slot it does not.
func TestBack(t *testing.T) {
	for _, n := range []int{0, 1, 15, 16, 17, 4000, 65536} {
		s := text(n)
		hidden, e := ctr.Xor(low, 1<<32-1, 7, s)
		if e != api.OK {
			t.Fatal(n, e)
		}
		if n >= 15 && hidden == s {
			t.Errorf("%d bytes are not hidden", n)
		}
		if back, e := ctr.Xor(low, 1<<32-1, 7, hidden); back != s || e != api.OK {
			t.Errorf("%d bytes do not come back: %d", n, e)
		}
		if n < 15 {
			continue
		}
		other, _ := ctr.Xor(text(16), 1<<32-1, 7, hidden)
		epoch, _ := ctr.Xor(low, 1<<32-2, 7, hidden)
		slot, _ := ctr.Xor(low, 1<<32-1, 8, hidden)
		if other == s || epoch == s || slot == s {
			t.Errorf("%d bytes come back another way", n)
		}
	}
}

// What is streamed in two parts is what is streamed at once, wherever it is parted.
func TestParts(t *testing.T) {
	parted := func(from, n, at int) {
		t.Helper()
		once, e := ctr.Stream(low, 4, 6, from, n)
		a, f := ctr.Stream(low, 4, 6, from, at)
		b, g := ctr.Stream(low, 4, 6, from+at, n-at)
		if a+b != once || len(once) != n || e != api.OK || f != api.OK || g != api.OK {
			t.Errorf("from %d %d bytes, parted at %d: %d %d %d", from, n, at, e, f, g)
		}
	}
	for _, from := range []int{0, 1, 15, 16, 17, 100} {
		for at := range 71 {
			parted(from, 70, at)
		}
	}
	for _, at := range []int{0, 1, 15, 16, 17, 4000, 32768, 65519, 65520, 65521, 65535, 65536} {
		parted(0, 65536, at)
	}
}

// What a text begins with is hidden as it is in the whole.
func TestBegins(t *testing.T) {
	s := text(300)
	long, _ := ctr.Xor(low, 4, 6, s)
	for n := range len(s) {
		if short, e := ctr.Xor(low, 4, 6, s[:n]); short != long[:n] || e != api.OK {
			t.Errorf("%d bytes: %x %d, asked %x", n, short, e, long[:n])
		}
	}
}

// numbers are such that their bytes are the same, but stand elsewhere.
func numbers() []int {
	return []int{0, 1, 2, 255, 256, 257, 65535, 65536, 65537, 1 << 24, 1<<24 + 1, 1 << 31, 1<<32 - 2, 1<<32 - 1}
}

// No two Counts of unlike epochs, slots or numbers are the same, nor is what they are encrypted to.
func TestOnce(t *testing.T) {
	blocks, hidden := map[string][3]int{}, map[string][3]int{}
	put := func(m map[string][3]int, s string, c [3]int) {
		t.Helper()
		if was, ok := m[s]; ok {
			t.Errorf("%v and %v have both %x", was, c, s)
		}
		m[s] = c
	}
	cipher, e := aes.New(low)
	if e != api.OK {
		t.Fatal(e)
	}
	for _, epoch := range numbers() {
		for _, slot := range numbers() {
			for _, i := range numbers() {
				block, e := ctr.Count(epoch, slot, i)
				out, f := cipher.Encrypt(block)
				if e != api.OK || f != api.OK {
					t.Fatal(epoch, slot, i, e, f)
				}
				put(blocks, block, [3]int{epoch, slot, i})
				put(hidden, out, [3]int{epoch, slot, i})
			}
		}
	}
}

// What is streamed for unlike epochs and slots has no block twice, not even in another place.
func TestStreamOnce(t *testing.T) {
	seen := map[string][3]int{}
	for _, epoch := range numbers() {
		for _, slot := range numbers() {
			s, e := ctr.Stream(low, epoch, slot, 0, 16*20)
			if e != api.OK {
				t.Fatal(epoch, slot, e)
			}
			for i := range 20 {
				c := [3]int{epoch, slot, i}
				if was, ok := seen[s[16*i:16*i+16]]; ok {
					t.Errorf("%v and %v have one block", was, c)
				}
				seen[s[16*i:16*i+16]] = c
			}
		}
	}
}

// The longest stream has no block twice: AES gives unlike blocks for unlike Counts.
func TestStreamLongOnce(t *testing.T) {
	s, _ := ctr.Stream(low, 1, 2, 0, 65536)
	seen := map[string]bool{}
	for ; len(s) >= 16; s = s[16:] {
		if seen[s[:16]] {
			t.Fatalf("twice: %x", s[:16])
		}
		seen[s[:16]] = true
	}
	if len(seen) != 4096 {
		t.Errorf("%d blocks", len(seen))
	}
}

// What a call answers hangs on nothing but its arguments: not on other calls, be they refused or not.
func TestAgain(t *testing.T) {
	block, _ := ctr.Count(1, 2, 3)
	stream, _ := ctr.Stream(low, 1, 2, 5, 100)
	hidden, _ := ctr.Xor(low, 1, 2, "a text")
	for range 3 {
		ctr.Count(-1, 2, 3)
		ctr.Count(4, 5, 6)
		ctr.Stream("", 1, 2, 5, 100)
		ctr.Stream(text(16), 8, 9, 0, 65536)
		ctr.Stream(low, 1, 2, 105, 7)
		ctr.Xor(low, 1, 2, text(65537))
		ctr.Xor(text(16), 8, 9, text(300))
		b, _ := ctr.Count(1, 2, 3)
		s, _ := ctr.Stream(low, 1, 2, 5, 100)
		h, _ := ctr.Xor(low, 1, 2, "a text")
		if b != block || s != stream || h != hidden {
			t.Fatal("told again, it is something else")
		}
	}
}

// Key and text are pieces of something greater: what stands beside them does not count, and stays as it was.
func TestPieces(t *testing.T) {
	whole := []byte(text(100))
	was := bytes.Clone(whole)
	s := string(whole)
	checkXor(t, s[3:19], 1, 2, s[19:60])
	checkStream(t, s[3:19], 1, 2, 3, 40)
	if s != string(was) {
		t.Error("what was handed in has changed")
	}
}

// No call panics, and all of it is as the library's, at whatever bytes and numbers.
func FuzzCalls(f *testing.F) {
	for _, n := range []int{math.MinInt64, -1, 0, 1, 15, 16, 17, 65535, 65536, 65537, 1<<32 - 1, 1 << 32, math.MaxInt64} {
		f.Add(low, "a text of more than one block", n, n, n, n)
		f.Add(low, "", 1, 2, n, 1)
		f.Add(low, "\x00", 1, 2, 1, n)
		f.Add(text(15), text(16), n, 2, 3, 4)
		f.Add(text(17), text(17), 1, n, 3, 4)
	}
	f.Fuzz(func(t *testing.T, key, s string, epoch, slot, from, n int) {
		block, e := ctr.Count(epoch, slot, from)
		if w, g := wantCount(epoch, slot, from); block != w || e != g {
			t.Errorf("Count(%d, %d, %d): %x %d", epoch, slot, from, block, e)
		}
		checkXor(t, key, epoch, slot, s)
		checkStream(t, key, epoch, slot, from, n)
		// most keys and numbers are refused: the same ones, brought to what may be
		key = (key + low)[:16]
		epoch, slot = epoch&(1<<32-1), slot&(1<<32-1)
		from &= 65535
		checkStream(t, key, epoch, slot, from, n%(65537-from))
		checkXor(t, key, epoch, slot, s)
	})
}
