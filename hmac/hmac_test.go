package hmac_test

import (
	stdhmac "crypto/hmac"
	"crypto/sha256"
	"encoding/hex"
	"math/rand"
	"slices"
	"strings"
	"testing"

	"keepsake/hmac"
)

// text makes n bytes that are no row of one kind.
func text(n int) string {
	b := make([]byte, n)
	rand.New(rand.NewSource(int64(n) + 3)).Read(b)
	return string(b)
}

func sum(s string) string {
	b := sha256.Sum256([]byte(s))
	return string(b[:])
}

// want says by the library's own means what Mac must answer.
func want(key string, l ...string) string {
	h := stdhmac.New(sha256.New, []byte(key))
	for _, s := range l {
		h.Write([]byte(s))
	}
	return string(h.Sum(nil))
}

// block says by the chapter's words what a key's block is.
func block(key string) string {
	if len(key) > 64 {
		key = sum(key)
	}
	return (key + strings.Repeat("\x00", 64))[:64]
}

func held(s string, by byte) string {
	b := []byte(s)
	for i := range b {
		b[i] ^= by
	}
	return string(b)
}

func nought(n int) string { return strings.Repeat("\x00", n) }

func keys() []string {
	l := []string{nought(1), nought(32), nought(63), nought(64), nought(65), strings.Repeat("\xff", 64), strings.Repeat("\x36", 64), strings.Repeat("\x5c", 64)}
	for _, n := range []int{0, 1, 2, 31, 32, 33, 62, 63, 64, 65, 66, 100, 127, 128, 129, 131, 4096, 100000} {
		l = append(l, text(n))
	}
	return l
}

func messages() []string {
	l := []string{nought(1), nought(64), "abc"}
	for _, n := range []int{0, 1, 32, 54, 55, 56, 63, 64, 65, 119, 120, 128, 1000, 4000, 4096, 100000} {
		l = append(l, text(n))
	}
	return l
}

func TestKeyByHand(t *testing.T) {
	long := strings.Repeat("a", 65)
	const sumOfLong = "635361c48bb9eab14198e76ea8ab7f1a41685d6ad62aa9146d301d4f17eb0ae0"
	for _, c := range []struct{ key, block string }{
		{"", nought(64)},
		{"k", "k" + nought(63)},
		{"\x00k\x00", "\x00k" + nought(62)},
		{long[:63], long[:63] + "\x00"},
		{long[:64], long[:64]},
	} {
		if got := hmac.Key(c.key); got != c.block {
			t.Errorf("Key(%q): %x, asked %x", c.key, got, c.block)
		}
	}
	if got := hex.EncodeToString([]byte(hmac.Key(long))); got != sumOfLong+strings.Repeat("00", 32) {
		t.Errorf("Key of 65 bytes: %s", got)
	}
}

func TestKey(t *testing.T) {
	for _, k := range keys() {
		if got := hmac.Key(k); got != block(k) || len(got) != 64 {
			t.Errorf("Key of %d bytes: %x, asked %x", len(k), got, block(k))
		}
	}
	for n := range 200 {
		if got := hmac.Key(text(n)); got != block(text(n)) {
			t.Errorf("Key of %d bytes: %x, asked %x", n, got, block(text(n)))
		}
	}
}

func TestInnerOuterByHand(t *testing.T) {
	if got, w := hmac.Inner("\x00\x36k", "m"), "\x36\x00\x5d"+strings.Repeat("\x36", 61)+"m"; got != w {
		t.Errorf("Inner: %x, asked %x", got, w)
	}
	got := hmac.Outer("\x00\x5ck", "m")
	if w := "\x5c\x00\x37" + strings.Repeat("\x5c", 61); len(got) != 96 || got[:64] != w {
		t.Errorf("Outer: %x, asked %x and a sum", got, w)
	}
}

func TestInnerOuterMac(t *testing.T) {
	for _, k := range keys() {
		for _, m := range messages() {
			inner := held(block(k), 0x36) + m
			if got := hmac.Inner(k, m); got != inner {
				t.Errorf("Inner of %d and %d bytes: %x, asked %x", len(k), len(m), got, inner)
			}
			outer := held(block(k), 0x5c) + sum(inner)
			if got := hmac.Outer(k, m); got != outer {
				t.Errorf("Outer of %d and %d bytes: %x, asked %x", len(k), len(m), got, outer)
			}
			if got := hmac.Mac(k, m); got != sum(outer) || got != want(k, m) {
				t.Errorf("Mac of %d and %d bytes: %x, asked %x", len(k), len(m), got, sum(outer))
			}
			if got := hmac.Parts(k, m); got != want(k, m) {
				t.Errorf("Parts of %d and %d bytes: %x, asked %x", len(k), len(m), got, want(k, m))
			}
		}
	}
}

// The tags that the standards' examples tell (RFC 4231, and the chapter).
func TestMacByHand(t *testing.T) {
	for _, c := range []struct{ key, msg, tag string }{
		{"key", "The quick brown fox jumps over the lazy dog", "f7bc83f430538424b13298e6aa6fb143ef4d59a14946175997479dbc2d1a3cd8"},
		{"", "", "b613679a0814d9ec772f95d778c35fc5ff1697c493715653c6c712144292c5ad"},
		{strings.Repeat("\x0b", 20), "Hi There", "b0344c61d8db38535ca8afceaf0bf12b881dc200c9833da726e9376c2e32cff7"},
		{"Jefe", "what do ya want for nothing?", "5bdcc146bf60754e6a042426089575c75a003f089d2739839dec58b964ec3843"},
		{strings.Repeat("\xaa", 20), strings.Repeat("\xdd", 50), "773ea91e36800e46854db8ebd09181a72959098b3ef8c122d9635514ced565fe"},
		{"\x01\x02\x03\x04\x05\x06\x07\x08\x09\x0a\x0b\x0c\x0d\x0e\x0f\x10\x11\x12\x13\x14\x15\x16\x17\x18\x19", strings.Repeat("\xcd", 50), "82558a389a443c0ea4cc819899f2083a85f0faa3e578f8077a2e3ff46729665b"},
		{strings.Repeat("\xaa", 131), "Test Using Larger Than Block-Size Key - Hash Key First", "60e431591ee0b67f0d8a26aacbf5b77f8e0bc6213728c5140546040f0ee37f54"},
		{strings.Repeat("\xaa", 131), "This is a test using a larger than block-size key and a larger than block-size data. The key needs to be hashed before being used by the HMAC algorithm.", "9b09ffa71b942fcb27635fbcd5b0e944bfdc63644f0713938a7f51535c3a35e2"},
	} {
		if got := hex.EncodeToString([]byte(hmac.Mac(c.key, c.msg))); got != c.tag {
			t.Errorf("Mac(%q, %q): %s, asked %s", c.key, c.msg, got, c.tag)
		}
	}
}

func TestParts(t *testing.T) {
	whole := text(300)
	for _, k := range keys() {
		for _, l := range [][]string{
			nil,
			{},
			{""},
			{"", "", ""},
			{"abc"},
			{"a", "bc"},
			{"ab", "c"},
			{"", "a", "", "bc", ""},
			{"abc", "a"},
			{"a", "abc"},
			{whole[:1], whole[1:64], whole[64:65], whole[65:]},
			{whole[:63], "", whole[63:]},
			slices.Repeat([]string{"", text(17)}, 100),
		} {
			was := slices.Clone(l)
			if got := hmac.Parts(k, l...); got != want(k, l...) || got != hmac.Mac(k, strings.Join(l, "")) {
				t.Errorf("Parts of %d texts under %d bytes: %x, asked %x", len(l), len(k), got, want(k, l...))
			}
			if !slices.Equal(l, was) {
				t.Error("parts have changed", l, was)
			}
		}
	}
}

// The same bytes have one tag in whatever pieces, and other bytes have others.
func TestPieces(t *testing.T) {
	whole := text(200)
	for i := range whole {
		if got := hmac.Parts("key", whole[:i], whole[i:]); got != want("key", whole) {
			t.Errorf("in pieces of %d and %d bytes: %x", i, len(whole)-i, got)
		}
	}
	if hmac.Parts("key", "a", "b") == hmac.Parts("key", "b", "a") {
		t.Error("parts have no order")
	}
}

// What stands behind the parts, in the list that they are cut of, stays as it was.
func TestPartsOwn(t *testing.T) {
	l := []string{"a", "b", "c", "d"}
	for n := range len(l) {
		hmac.Parts(text(n), l[:n]...)
		if !slices.Equal(l, []string{"a", "b", "c", "d"}) {
			t.Fatalf("behind %d parts: %q", n, l)
		}
	}
}

// Keys with one block have the same tags, and Clash finds nothing in them.
func TestOneBlock(t *testing.T) {
	pairs := [][2]string{{"", nought(1)}, {"", nought(64)}, {nought(1), nought(63)}}
	for _, n := range []int{65, 66, 100, 128, 4096} {
		pairs = append(pairs, [2]string{text(n), sum(text(n))}, [2]string{text(n), sum(text(n)) + nought(32)})
	}
	for _, n := range []int{0, 1, 2, 32, 62, 63} {
		pairs = append(pairs, [2]string{text(n), text(n) + "\x00"}, [2]string{text(n), text(n) + nought(64-n)})
	}
	for _, p := range pairs {
		k, l := p[0], p[1]
		if hmac.Key(k) != hmac.Key(l) {
			t.Errorf("keys %x and %x have not one block", k, l)
		}
		for _, m := range messages() {
			if hmac.Mac(k, m) != hmac.Mac(l, m) || hmac.Inner(k, m) != hmac.Inner(l, m) || hmac.Outer(k, m) != hmac.Outer(l, m) {
				t.Errorf("keys %x and %x have not one tag of %d bytes", k, l, len(m))
			}
			if a, b, found := hmac.Clash(k, m, l, m); a != "" || b != "" || found {
				t.Errorf("Clash of keys with one block: %x %x %t", a, b, found)
			}
		}
	}
}

// A longer key's noughts, and one nought too much, make another key.
func TestOtherBlock(t *testing.T) {
	for _, p := range [][2]string{
		{text(64), text(64) + "\x00"},
		{text(65), text(65) + "\x00"},
		{text(3), "\x00" + text(3)},
		{nought(64), nought(65)},
		{text(65), text(65)[:64]},
	} {
		if hmac.Key(p[0]) == hmac.Key(p[1]) || hmac.Mac(p[0], "m") == hmac.Mac(p[1], "m") {
			t.Errorf("keys %x and %x have one tag", p[0], p[1])
		}
	}
}

// With unlike tags, and with the same key and message, Clash finds nothing. (Two unlike ones with one tag can't be had: see clash_test.go.)
func TestClashFindsNothing(t *testing.T) {
	l := []string{"", "a", "b", text(64), text(65), text(100)}
	for _, k := range l {
		for _, m := range l {
			for _, o := range l {
				for _, n := range l {
					if a, b, found := hmac.Clash(k, m, o, n); a != "" || b != "" || found {
						t.Errorf("Clash(%q, %q, %q, %q): %x %x %t", k, m, o, n, a, b, found)
					}
				}
			}
		}
	}
	if a, b, found := hmac.Clash("ab", "c", "a", "bc"); a != "" || b != "" || found {
		t.Errorf("Clash of what is the same in a row: %x %x %t", a, b, found)
	}
}

// What a call answers hangs on nothing but its arguments.
func TestAgain(t *testing.T) {
	key, inner, outer, tag := hmac.Key("k"), hmac.Inner("k", "m"), hmac.Outer("k", "m"), hmac.Mac("k", "m")
	hmac.Parts(text(100), "a", "b")
	hmac.Clash("a", "b", "c", "d")
	if hmac.Key("k") != key || hmac.Inner("k", "m") != inner || hmac.Outer("k", "m") != outer || hmac.Mac("k", "m") != tag {
		t.Error("told again, it is something else")
	}
}

// No call panics, and all of it is as the library's, at whatever bytes.
func FuzzCalls(f *testing.F) {
	for _, n := range []int{0, 1, 31, 32, 63, 64, 65, 128, 300} {
		f.Add(text(n), text(64), text(n)+"\x00", "")
		f.Add(text(32), text(n), text(32), text(n))
		f.Add(text(n), "m", sum(text(n)), "m")
	}
	f.Fuzz(func(t *testing.T, k, m, l, n string) {
		if hmac.Key(k) != block(k) || hmac.Inner(k, m) != held(block(k), 0x36)+m {
			t.Errorf("Key or Inner of %x, %x", k, m)
		}
		if hmac.Mac(k, m) != want(k, m) || hmac.Parts(k, m, l, n) != want(k, m, l, n) || sum(hmac.Outer(k, m)) != want(k, m) {
			t.Errorf("tags of %x, %x", k, m)
		}
		if a, b, found := hmac.Clash(k, m, l, n); a != "" || b != "" || found {
			t.Errorf("Clash(%x, %x, %x, %x): %x %x", k, m, l, n, a, b)
		}
	})
}
