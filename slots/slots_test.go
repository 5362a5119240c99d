package slots_test

import (
	"crypto/sha256"
	"encoding/binary"
	"math"
	"math/rand"
	"slices"
	"strings"
	"testing"

	"keepsake/api"
	"keepsake/slots"
)

// last is the document's 2^32 - 1.
const last = 4294967295

// keyed and other are keys of 32 bytes; keyed begins as a key's block does.
const (
	keyed = "key\x00\x00\x00\x01 with a nought, \xff\xfe and so"
	other = "\xffanother key, that ends so: \x00\x00\x00\x00"
)

func noughts() string { return strings.Repeat("\x00", 4096) }

// many is a key of 32 bytes for each number.
func many(n int) string {
	sum := sha256.Sum256(binary.BigEndian.AppendUint64(nil, uint64(n)))
	return string(sum[:])
}

// front are the letters, an epoch in four bytes, and a key, be it one that may be or not.
func front(letters string, epoch int, key string) string {
	return string(binary.BigEndian.AppendUint32([]byte(letters), uint32(epoch))) + key
}

// sealed is a block of what is told, the sum of it, and noughts.
func sealed(s string) string {
	sum := sha256.Sum256([]byte(s))
	return fill(s + string(sum[:]))
}

func fill(s string) string { return s + strings.Repeat("\x00", 4096-len(s)) }

// laid are a key's bytes.
func laid(epoch int, key string) string { return sealed(front("key", epoch, key)) }

// turned has the bits of by turned in one of its bytes.
func turned(s string, at int, by byte) string {
	b := []byte(s)
	b[at] ^= by
	return string(b)
}

// epochs are those at both bounds, beyond them, and between.
func epochs() []int {
	return []int{math.MinInt64, math.MinInt64 + 1, -last - 1, -last, -2, -1, 0, 1, 2, 3, 255, 256, 65536, 1<<31 - 1, 1 << 31, last - 2, last - 1, last, last + 1, last + 2, last + 3, 1 << 33, 1 << 62, math.MaxInt64 - 1, math.MaxInt64}
}

// keys are of 32 bytes, and of fewer and more.
func keys() []string {
	l := []string{keyed, other, strings.Repeat("\x00", 32), strings.Repeat("\xff", 32), many(1)}
	for _, n := range []int{0, 1, 16, 31, 33, 64, 4096} {
		l = append(l, strings.Repeat("k", n), strings.Repeat("\x00", n))
	}
	return l
}

// junk are texts that are neither empty nor a key's: too short, too long, turned, with a right sum of something else.
func junk() []string {
	right := laid(2, keyed)
	return []string{
		"", "\x00", "k", "key", noughts()[:4095], noughts() + "\x00",
		right[:71], right[:4095], right + "\x00", "\x00" + right, right + right,
		turned(right, 0, 1), turned(right, 6, 3), turned(right, 7, 1), turned(right, 38, 1), turned(right, 39, 1), turned(right, 70, 1), turned(right, 71, 1), turned(right, 4095, 1),
		turned(noughts(), 0, 'k'), turned(noughts(), 2000, 1), turned(noughts(), 4095, 0x80),
		sealed(front("kez", 2, keyed)), sealed(front("", 2, keyed)), sealed(front("key", 2, keyed[:31])), sealed(front("key", 2, keyed+"k")), sealed(""),
		strings.Repeat("\xff", 4096), strings.Repeat("key", 1366)[:4096],
	}
}

// mayBe says by the document's numbers whether an epoch may be.
func mayBe(epoch int) bool { return epoch >= 0 && epoch <= last }

// wantPut, wantTake, wantPick, wantStale and wantEvolve say, from the chapter's words once more, what the calls must answer.
func wantPut(epoch int, key string) (string, api.Errno) {
	if !mayBe(epoch) || len(key) != 32 {
		return "", api.ErrArg
	}
	return laid(epoch, key), api.OK
}

// wantTake looks at one part of the block after the other, from the front.
func wantTake(block string) (int, string, api.Errno) {
	if block == noughts() {
		return 0, "", api.ErrNone
	}
	if len(block) != 4096 || !strings.HasPrefix(block, "key") {
		return 0, "", api.ErrForm
	}
	if sum := sha256.Sum256([]byte(block[:39])); block[39:71] != string(sum[:]) {
		return 0, "", api.ErrForm
	}
	if strings.Trim(block[71:], "\x00") != "" {
		return 0, "", api.ErrForm
	}
	return int(binary.BigEndian.Uint32([]byte(block[3:]))), block[7:39], api.OK
}

func wantPick(a, b string, epoch int) (string, api.Errno) {
	if !mayBe(epoch) {
		return "", api.ErrArg
	}
	block := a
	if epoch&1 == 1 {
		block = b
	}
	of, key, e := wantTake(block)
	if e != api.OK {
		return "", e
	}
	if of != epoch {
		return "", api.ErrNone
	}
	return key, api.OK
}

func wantStale(a, b string, epoch int) []int {
	switch {
	case !mayBe(epoch):
		return nil
	case epoch&1 == 1 && a != noughts():
		return []int{0}
	case epoch&1 == 0 && b != noughts():
		return []int{1}
	}
	return nil
}

func wantEvolve(a, b string, epoch int, next string) (string, string, api.Errno) {
	if _, e := wantPick(a, b, epoch); e != api.OK {
		return "", "", e
	}
	if epoch == last {
		return "", "", api.ErrLimit
	}
	block, e := wantPut(epoch+1, next)
	if e != api.OK {
		return "", "", e
	}
	if epoch&1 == 1 {
		return block, b, api.OK
	}
	return a, block, api.OK
}

func checkPut(t *testing.T, epoch int, key string) {
	t.Helper()
	block, e := slots.Put(epoch, key)
	if w, f := wantPut(epoch, key); block != w || e != f {
		t.Errorf("Put(%d, %d bytes %.40x): %d bytes %.80x %d, asked %.80x %d", epoch, len(key), key, len(block), block, e, w, f)
	}
}

func checkTake(t *testing.T, block string) {
	t.Helper()
	epoch, key, e := slots.Take(block)
	if w, k, f := wantTake(block); epoch != w || key != k || e != f {
		t.Errorf("Take(%d bytes %.80x): %d %x %d, asked %d %x %d", len(block), block, epoch, key, e, w, k, f)
	}
}

func checkPick(t *testing.T, a, b string, epoch int) {
	t.Helper()
	key, e := slots.Pick(a, b, epoch)
	if w, f := wantPick(a, b, epoch); key != w || e != f {
		t.Errorf("Pick(%.80x, %.80x, %d): %x %d, asked %x %d", a, b, epoch, key, e, w, f)
	}
}

func checkStale(t *testing.T, a, b string, epoch int) {
	t.Helper()
	if l, w := slots.Stale(a, b, epoch), wantStale(a, b, epoch); !slices.Equal(l, w) {
		t.Errorf("Stale(%d bytes %.80x, %d bytes %.80x, %d): %v, asked %v", len(a), a, len(b), b, epoch, l, w)
	}
}

func checkEvolve(t *testing.T, a, b string, epoch int, next string) {
	t.Helper()
	x, y, e := slots.Evolve(a, b, epoch, next)
	if v, w, f := wantEvolve(a, b, epoch, next); x != v || y != w || e != f {
		t.Errorf("Evolve(%.80x, %.80x, %d, %d bytes %.40x): %.80x %.80x %d, asked %.80x %.80x %d", a, b, epoch, len(next), next, x, y, e, v, w, f)
	}
}

// refused tells if a block is taken as a key's, or as an empty one.
func refused(t *testing.T, what, block string) {
	t.Helper()
	if epoch, key, e := slots.Take(block); epoch != 0 || key != "" || e != api.ErrForm {
		t.Errorf("Take of %s: %d %x %d, asked %d", what, epoch, key, e, api.ErrForm)
	}
}

// put lays a key that may be.
func put(t *testing.T, epoch int, key string) string {
	t.Helper()
	block, e := slots.Put(epoch, key)
	if e != api.OK {
		t.Fatalf("Put(%d, %x): %d", epoch, key, e)
	}
	return block
}

// The chapter's example.
func TestExample(t *testing.T) {
	empty, block := slots.Empty(), put(t, 1, keyed)
	if key, e := slots.Pick(empty, block, 1); key != keyed || e != api.OK {
		t.Errorf("Pick of 1: %x %d", key, e)
	}
	if key, e := slots.Pick(empty, block, 0); key != "" || e != api.ErrNone {
		t.Errorf("Pick of 0: %x %d", key, e)
	}
}

// P11.1: which epochs and keys may be, and how many bytes there are.
func TestPutByHand(t *testing.T) {
	k := func(n int) string { return strings.Repeat("k", n) }
	for _, c := range []struct {
		epoch int
		key   string
		e     api.Errno
	}{
		{0, k(32), api.OK},
		{1, k(32), api.OK},
		{2, k(32), api.OK},
		{last - 1, k(32), api.OK},
		{last, k(32), api.OK},
		{1, strings.Repeat("\x00", 32), api.OK},
		{0, strings.Repeat("\x00", 32), api.OK},
		// the epoch
		{-1, k(32), api.ErrArg},
		{last + 1, k(32), api.ErrArg},
		{last + 2, k(32), api.ErrArg},
		{math.MinInt64, k(32), api.ErrArg},
		{math.MaxInt64, k(32), api.ErrArg},
		// the key
		{0, "", api.ErrArg},
		{1, "", api.ErrArg},
		{1, k(31), api.ErrArg},
		{1, k(33), api.ErrArg},
		{last, k(31), api.ErrArg},
		{last, k(33), api.ErrArg},
		{1, k(4096), api.ErrArg},
		{1, k(1 << 20), api.ErrArg},
		// both
		{-1, "", api.ErrArg},
		{last + 1, k(33), api.ErrArg},
		{math.MinInt64, k(31), api.ErrArg},
		{math.MaxInt64, k(1 << 20), api.ErrArg},
	} {
		block, e := slots.Put(c.epoch, c.key)
		if e != c.e {
			t.Errorf("Put(%d, %d bytes): %d, asked %d", c.epoch, len(c.key), e, c.e)
		}
		if n := len(block); e == api.OK && n != 4096 || e != api.OK && n != 0 {
			t.Errorf("Put(%d, %d bytes): %d bytes, %d", c.epoch, len(c.key), n, e)
		}
	}
}

// P11.1: what is laid, byte by byte, with sums that were worked out by another program.
func TestPutBytes(t *testing.T) {
	rising := make([]byte, 32)
	for i := range rising {
		rising[i] = byte(0xa0 + i)
	}
	for _, c := range []struct {
		epoch            int
		number, key, sum string
	}{
		{0, "\x00\x00\x00\x00", strings.Repeat("\x00", 32), "\xf2\xdf\xe0\x53\x42\x94\xc3\x33\xcb\x10\xf6\xd4\x17\xe5\x21\x2c\x08\x40\xe4\xe7\xb7\x61\x1f\xb9\xbe\x13\x63\x81\x88\x50\xba\x6c"},
		{last, "\xff\xff\xff\xff", strings.Repeat("\xff", 32), "\xa7\xa3\x56\x49\xf4\x60\x9a\x54\xd4\x0f\x4a\xee\xee\x27\x02\x78\x90\x7a\xf8\xb6\xcb\x88\xc8\x90\xfd\x59\x53\x2b\x3e\x8c\xae\xee"},
		{0x01020304, "\x01\x02\x03\x04", string(rising), "\x4d\x8d\xa2\x9d\x5c\xd7\x5c\xd4\x4f\x54\x34\xdb\x81\x07\x92\xd8\xb6\x23\x25\xc7\xa3\xe2\xcf\xda\x61\x82\x86\xa0\x1d\x02\xc1\x33"},
	} {
		want := "key" + c.number + c.key + c.sum + strings.Repeat("\x00", 4025)
		if len(want) != 4096 {
			t.Fatal(len(want))
		}
		if block, e := slots.Put(c.epoch, c.key); block != want || e != api.OK {
			t.Errorf("Put(%d, %x): %d bytes %.80x %d", c.epoch, c.key, len(block), block, e)
		}
		if epoch, key, e := slots.Take(want); epoch != c.epoch || key != c.key || e != api.OK {
			t.Errorf("Take(%.80x): %d %x %d", want, epoch, key, e)
		}
	}
}

// P11.1, P11.4: all epochs of the edges with all keys; of those that may be Take leads back from Put.
func TestPutTake(t *testing.T) {
	count := 0
	for _, epoch := range epochs() {
		for _, key := range keys() {
			checkPut(t, epoch, key)
			block, e := slots.Put(epoch, key)
			checkTake(t, block)
			if e != api.OK {
				continue
			}
			count++
			if back, k, f := slots.Take(block); back != epoch || k != key || f != api.OK {
				t.Errorf("Take(Put(%d, %x)): %d %x %d", epoch, key, back, k, f)
			}
		}
	}
	if count != 12*5 {
		t.Errorf("%d were laid", count)
	}
}

// P11.1, P11.4: epochs and keys as they come, there and back, and what was taken, put, is those bytes.
func TestBack(t *testing.T) {
	r := rand.New(rand.NewSource(11))
	for n := range 1000 {
		epoch, key := r.Intn(1<<(1+r.Intn(32))), many(n)
		block := put(t, epoch, key)
		if block != laid(epoch, key) {
			t.Errorf("Put(%d, %x): %.80x", epoch, key, block)
		}
		of, k, e := slots.Take(laid(epoch, key))
		if of != epoch || k != key || e != api.OK {
			t.Errorf("Take of %d, %x: %d %x %d", epoch, key, of, k, e)
		}
		if again, f := slots.Put(of, k); again != block || f != api.OK {
			t.Errorf("Put(Take) of %d, %x: %.80x %d", epoch, key, again, f)
		}
	}
}

// P11.1: an empty block is noughts alone, as many as a block has.
func TestEmpty(t *testing.T) {
	if s := slots.Empty(); len(s) != 4096 || s != noughts() {
		t.Errorf("Empty: %d bytes %.80x", len(s), s)
	}
	for _, block := range []string{slots.Empty(), noughts()} {
		if epoch, key, e := slots.Take(block); epoch != 0 || key != "" || e != api.ErrNone {
			t.Errorf("Take of an empty block: %d %x %d", epoch, key, e)
		}
	}
	for _, n := range []int{0, 1, 3, 7, 39, 71, 4095, 4097, 8192, 1 << 20} {
		refused(t, "noughts that are no block", strings.Repeat("\x00", n))
	}
	for at := range 4096 {
		refused(t, "noughts but for a byte", turned(noughts(), at, 1))
		refused(t, "noughts but for a byte", turned(noughts(), at, 0x80))
	}
}

// P11.1: texts with too few and too many bytes.
func TestTakeLengths(t *testing.T) {
	for _, right := range []string{laid(0, strings.Repeat("\x00", 32)), laid(1, keyed), laid(last, other)} {
		for n := range len(right) {
			refused(t, "a block that is cut", right[:n])
		}
		for _, n := range []int{1, 3, 7, 39, 71, 4095} {
			refused(t, "a block without its front", right[n:])
		}
		for _, more := range []string{"\x00", "\x01", noughts(), right, right[:71], strings.Repeat("\x00", 1<<20)} {
			refused(t, "a block with more behind it", right+more)
			refused(t, "a block with more ahead of it", more+right)
		}
	}
}

// P11.1: any one of the bytes turned: the letters, the epoch, the key, the sum, the noughts.
func TestTakeTurned(t *testing.T) {
	for _, right := range []string{laid(0, strings.Repeat("\x00", 32)), laid(1, keyed), laid(last, other)} {
		for at := range len(right) {
			for _, by := range []byte{0x01, 0x20, 0x80, 0xff} {
				refused(t, "a block with a byte turned", turned(right, at, by))
			}
		}
		for at := range 72 {
			for by := 1; by < 256; by++ {
				refused(t, "a block with a byte turned", turned(right, at, byte(by)))
			}
		}
		// two at once
		for at := range 71 {
			refused(t, "a block with bytes turned", turned(turned(right, at, 1), at+1, 1))
			refused(t, "a block with bytes turned", turned(turned(right, at, 1), 4095, 1))
		}
	}
}

// P11.1: a right sum of letters, epoch and key with any one byte turned: whatever the epoch and the key are they are taken, with other letters nothing is.
func TestTakeSealed(t *testing.T) {
	for _, right := range []string{front("key", 0, strings.Repeat("\x00", 32)), front("key", 1, keyed), front("key", last, other)} {
		for at := range len(right) {
			for by := 1; by < 256; by++ {
				block := sealed(turned(right, at, byte(by)))
				if at < 3 {
					refused(t, "other letters", block)
				}
				checkTake(t, block)
			}
		}
	}
}

// P11.1: letters, epochs, keys and sums that are laid another way than the chapter's.
func TestTakeOtherwise(t *testing.T) {
	right := laid(7, keyed)
	told := right[:39]
	sum := func(s string) string { w := sha256.Sum256([]byte(s)); return string(w[:]) }
	for _, letters := range []string{"Key", "KEY", "kez", "yek", "kee", "ke\x00", "\x00\x00\x00", "\x00key", " key", "", "k", "ke", "keyk", "key\x00", "keykey", "keepsake1"} {
		refused(t, "other letters", sealed(front(letters, 7, keyed)))
	}
	for what, block := range map[string]string{
		"no sum":                         fill(told),
		"a sum of noughts":               fill(told + strings.Repeat("\x00", 32) + "\x00"),
		"the sum without the letters":    fill(told + sum(told[3:])),
		"the sum without the key":        fill(told + sum(told[:7])),
		"the sum of the key":             fill(told + sum(keyed)),
		"the sum of the sum":             fill(told + sum(sum(told))),
		"the sum with the noughts":       fill(told + sum(told+strings.Repeat("\x00", 4096-39-32))),
		"the sum ahead of the rest":      fill(sum(told) + told),
		"the sum at the end":             told + strings.Repeat("\x00", 4096-39-32) + sum(told),
		"a sum that is cut":              fill(told + sum(told)[:31]),
		"the sum, twice":                 fill(told + sum(told) + sum(told)),
		"the sum of another one":         fill(told + laid(7, other)[39:71]),
		"one key behind another":         fill(right[:71] + right[:71]),
		"a byte at the end":              right[:4095] + "\x01",
		"ones in place of noughts":       right[:71] + strings.Repeat("\xff", 4025),
		"an inner byte among noughts":    right[:2000] + "k" + right[2001:],
		"an epoch of three bytes":        sealed("key\x00\x00\x07" + keyed),
		"an epoch of eight bytes":        sealed("key\x00\x00\x00\x00\x00\x00\x00\x07" + keyed),
		"a key of 31 bytes":              sealed(told[:38]),
		"a key of 33 bytes":              sealed(told + "\x00"),
		"a key and its length":           sealed("key\x00\x00\x00\x07\x00\x00\x00\x20" + keyed),
		"no key":                         sealed("key\x00\x00\x00\x07"),
		"letters alone":                  sealed("key"),
		"nothing but a sum":              sealed(""),
		"a superblock's letters, and so": sealed("keepsake1" + told[3:]),
	} {
		refused(t, what, block)
		checkTake(t, block)
	}
	if epoch, key, e := slots.Take(sealed(told)); epoch != 7 || key != keyed || e != api.OK {
		t.Errorf("Take of the right one: %d %x %d", epoch, key, e)
	}
}

// P11.2: which block is looked at, and what is told of it.
func TestPickByHand(t *testing.T) {
	zero, one, two, three := laid(0, many(0)), laid(1, many(1)), laid(2, many(2)), laid(3, many(3))
	most, nearly := laid(last, keyed), laid(last-1, other)
	blank, bad := noughts(), turned(laid(2, many(2)), 50, 1)
	for _, c := range []struct {
		a, b  string
		epoch int
		key   string
		e     api.Errno
	}{
		// this epoch's key
		{zero, one, 0, many(0), api.OK},
		{zero, one, 1, many(1), api.OK},
		{two, one, 2, many(2), api.OK},
		{two, one, 1, many(1), api.OK},
		{two, three, 3, many(3), api.OK},
		{zero, blank, 0, many(0), api.OK},
		{blank, one, 1, many(1), api.OK},
		{nearly, most, last - 1, other, api.OK},
		{nearly, most, last, keyed, api.OK},
		{blank, most, last, keyed, api.OK},
		// the other block counts for nothing
		{zero, bad, 0, many(0), api.OK},
		{bad, one, 1, many(1), api.OK},
		{zero, "", 0, many(0), api.OK},
		{"", one, 1, many(1), api.OK},
		{zero, zero, 0, many(0), api.OK},
		{one, one, 1, many(1), api.OK},
		// another one's
		{zero, one, 2, "", api.ErrNone},
		{zero, one, 3, "", api.ErrNone},
		{two, one, 0, "", api.ErrNone},
		{two, three, 1, "", api.ErrNone},
		{zero, one, last, "", api.ErrNone},
		{zero, one, last - 1, "", api.ErrNone},
		{nearly, most, 0, "", api.ErrNone},
		{nearly, most, 1, "", api.ErrNone},
		{zero, one, 256, "", api.ErrNone},
		// this one's, in the wrong block
		{one, zero, 0, "", api.ErrNone},
		{one, zero, 1, "", api.ErrNone},
		{blank, zero, 0, "", api.ErrNone},
		{one, blank, 1, "", api.ErrNone},
		{most, blank, last, "", api.ErrNone},
		{bad, zero, 0, "", api.ErrForm},
		{one, bad, 1, "", api.ErrForm},
		// none
		{blank, blank, 0, "", api.ErrNone},
		{blank, blank, 1, "", api.ErrNone},
		{blank, one, 0, "", api.ErrNone},
		{zero, blank, 1, "", api.ErrNone},
		{blank, bad, 0, "", api.ErrNone},
		{bad, blank, 1, "", api.ErrNone},
		// none's
		{bad, one, 2, "", api.ErrForm},
		{bad, blank, 0, "", api.ErrForm},
		{zero, bad, 1, "", api.ErrForm},
		{"", one, 0, "", api.ErrForm},
		{zero, "", 1, "", api.ErrForm},
		{"", "", 0, "", api.ErrForm},
		{"", "", last, "", api.ErrForm},
		{zero[:4095], one, 0, "", api.ErrForm},
		{zero, one + "\x00", 1, "", api.ErrForm},
		{blank[:4095], one, 0, "", api.ErrForm},
		{zero, blank + "\x00", 1, "", api.ErrForm},
		// no epoch, whatever stands there
		{zero, one, -1, "", api.ErrArg},
		{zero, one, -2, "", api.ErrArg},
		{nearly, most, -1, "", api.ErrArg},
		{zero, one, last + 1, "", api.ErrArg},
		{zero, one, last + 2, "", api.ErrArg},
		{zero, one, math.MinInt64, "", api.ErrArg},
		{zero, one, math.MaxInt64, "", api.ErrArg},
		{blank, blank, -1, "", api.ErrArg},
		{blank, blank, last + 1, "", api.ErrArg},
		{bad, bad, -1, "", api.ErrArg},
		{bad, bad, last + 1, "", api.ErrArg},
		{"", "", math.MinInt64, "", api.ErrArg},
		{"", "", math.MaxInt64, "", api.ErrArg},
	} {
		if key, e := slots.Pick(c.a, c.b, c.epoch); key != c.key || e != c.e {
			t.Errorf("Pick(%.80x, %.80x, %d): %x %d, asked %x %d", c.a, c.b, c.epoch, key, e, c.key, c.e)
		}
	}
}

// P11.2: the other block is stale, if it is not empty, whatever it has; this epoch's never is.
func TestStaleByHand(t *testing.T) {
	zero, one, two, three := laid(0, many(0)), laid(1, many(1)), laid(2, many(2)), laid(3, many(3))
	blank, bad := noughts(), turned(noughts(), 4095, 1)
	for _, c := range []struct {
		a, b  string
		epoch int
		l     []int
	}{
		{blank, blank, 0, nil},
		{blank, blank, 1, nil},
		{blank, blank, last, nil},
		{zero, blank, 0, nil},
		{zero, blank, 1, []int{0}},
		{blank, one, 0, []int{1}},
		{blank, one, 1, nil},
		{zero, one, 0, []int{1}},
		{zero, one, 1, []int{0}},
		{two, one, 1, []int{0}},
		{two, one, 2, []int{1}},
		{two, three, 3, []int{0}},
		{two, three, last - 1, []int{1}},
		{two, three, last, []int{0}},
		// whose they are counts for nothing
		{one, zero, 0, []int{1}},
		{one, zero, 1, []int{0}},
		{blank, zero, 0, []int{1}},
		{one, blank, 1, []int{0}},
		{zero, zero, 0, []int{1}},
		{one, one, 1, []int{0}},
		// neither empty nor a key's
		{bad, blank, 0, nil},
		{bad, blank, 1, []int{0}},
		{blank, bad, 0, []int{1}},
		{blank, bad, 1, nil},
		{bad, bad, 0, []int{1}},
		{bad, bad, 1, []int{0}},
		{zero, bad, 0, []int{1}},
		{bad, one, 1, []int{0}},
		{"", blank, 1, []int{0}},
		{"", blank, 0, nil},
		{blank, "", 0, []int{1}},
		{"", "", 1, []int{0}},
		{zero, blank[:4095], 0, []int{1}},
		{blank + "\x00", one, 1, []int{0}},
		// no epoch
		{zero, one, -1, nil},
		{zero, one, -2, nil},
		{bad, bad, -1, nil},
		{zero, one, last + 1, nil},
		{zero, one, last + 2, nil},
		{bad, bad, last + 1, nil},
		{zero, one, math.MinInt64, nil},
		{zero, one, math.MaxInt64, nil},
		{"", "", math.MinInt64, nil},
		{"", "", math.MaxInt64, nil},
	} {
		if l := slots.Stale(c.a, c.b, c.epoch); !slices.Equal(l, c.l) {
			t.Errorf("Stale(%d bytes %.80x, %d bytes %.80x, %d): %v, asked %v", len(c.a), c.a, len(c.b), c.b, c.epoch, l, c.l)
		}
	}
}

// P11.2: what is handed out is the caller's own.
func TestStaleOwn(t *testing.T) {
	a, b := laid(0, keyed), laid(1, other)
	l, m := slots.Stale(a, b, 0), slots.Stale(a, b, 0)
	l[0] = 9
	if again := slots.Stale(a, b, 0); m[0] != 1 || again[0] != 1 {
		t.Error("answers share memory", m, again)
	}
}

// P11.2, P11.3: keys of all kinds, none, and what is none's, each beside each, at each epoch.
func TestEach(t *testing.T) {
	l := []string{noughts(), "", noughts()[:4095], turned(noughts(), 4095, 1), turned(laid(0, keyed), 38, 1)}
	for n, epoch := range []int{0, 1, 2, 3, last - 2, last - 1, last} {
		l = append(l, laid(epoch, many(n)))
	}
	for _, a := range l {
		for _, b := range l {
			for _, epoch := range epochs() {
				checkPick(t, a, b, epoch)
				checkStale(t, a, b, epoch)
			}
			for _, epoch := range []int{-1, 0, 1, 2, 3, last - 2, last - 1, last, last + 1} {
				checkEvolve(t, a, b, epoch, other)
				checkEvolve(t, a, b, epoch, other[1:])
			}
		}
	}
}

// P11.2: whatever is none's is that in both blocks, and is stale where it is not for the epoch.
func TestJunk(t *testing.T) {
	for _, s := range junk() {
		refused(t, "what is none's", s)
		for _, epoch := range []int{0, 1, 2, 3, last - 1, last} {
			for _, beside := range []string{noughts(), s, laid(epoch, keyed)} {
				for _, both := range [][2]string{{s, beside}, {beside, s}} {
					checkPick(t, both[0], both[1], epoch)
					checkStale(t, both[0], both[1], epoch)
					checkEvolve(t, both[0], both[1], epoch, other)
				}
			}
		}
	}
}

// P11.3: which error is told, and of which; the block that is not the next epoch's stays as it is.
func TestEvolveByHand(t *testing.T) {
	blank, bad := noughts(), turned(laid(2, many(2)), 50, 1)
	zero, one, two := laid(0, many(0)), laid(1, many(1)), laid(2, many(2))
	nearly, most := laid(last-1, many(8)), laid(last, many(9))
	short, right, long := keyed[:31], keyed, keyed+"k"
	for _, c := range []struct {
		a, b  string
		epoch int
		next  string
		x, y  string
		e     api.Errno
	}{
		{zero, blank, 0, right, zero, laid(1, right), api.OK},
		{blank, one, 1, right, laid(2, right), one, api.OK},
		{two, blank, 2, right, two, laid(3, right), api.OK},
		{nearly, blank, last - 1, right, nearly, laid(last, right), api.OK},
		{blank, laid(last-2, other), last - 2, right, laid(last-1, right), laid(last-2, other), api.OK},
		// what stood where the next one goes is gone, whatever it was
		{zero, one, 0, right, zero, laid(1, right), api.OK},
		{two, one, 1, right, laid(2, right), one, api.OK},
		{zero, one, 1, right, laid(2, right), one, api.OK},
		{zero, bad, 0, right, zero, laid(1, right), api.OK},
		{bad, one, 1, right, laid(2, right), one, api.OK},
		{zero, "", 0, right, zero, laid(1, right), api.OK},
		{one, one, 1, right, laid(2, right), one, api.OK},
		{zero, most, 0, right, zero, laid(1, right), api.OK},
		// a next key that is this one, or noughts
		{zero, blank, 0, many(0), zero, laid(1, many(0)), api.OK},
		{zero, blank, 0, strings.Repeat("\x00", 32), zero, laid(1, strings.Repeat("\x00", 32)), api.OK},
		// Put's error
		{zero, blank, 0, "", "", "", api.ErrArg},
		{zero, blank, 0, short, "", "", api.ErrArg},
		{zero, blank, 0, long, "", "", api.ErrArg},
		{blank, one, 1, short, "", "", api.ErrArg},
		{blank, one, 1, long, "", "", api.ErrArg},
		{nearly, blank, last - 1, short, "", "", api.ErrArg},
		{nearly, blank, last - 1, long, "", "", api.ErrArg},
		// behind the last epoch, be the next key what it may
		{blank, most, last, right, "", "", api.ErrLimit},
		{nearly, most, last, right, "", "", api.ErrLimit},
		{bad, most, last, right, "", "", api.ErrLimit},
		{blank, most, last, short, "", "", api.ErrLimit},
		{blank, most, last, long, "", "", api.ErrLimit},
		{blank, most, last, "", "", "", api.ErrLimit},
		// Pick's errors, ahead of the others
		{zero, one, -1, right, "", "", api.ErrArg},
		{nearly, most, last + 1, right, "", "", api.ErrArg},
		{zero, one, math.MinInt64, right, "", "", api.ErrArg},
		{zero, one, math.MaxInt64, short, "", "", api.ErrArg},
		{blank, blank, 0, right, "", "", api.ErrNone},
		{blank, blank, 0, short, "", "", api.ErrNone},
		{blank, blank, 1, long, "", "", api.ErrNone},
		{blank, one, 0, right, "", "", api.ErrNone},
		{two, one, 0, right, "", "", api.ErrNone},
		{two, one, 0, short, "", "", api.ErrNone},
		{one, zero, 1, right, "", "", api.ErrNone},
		{blank, blank, last, right, "", "", api.ErrNone},
		{most, blank, last, right, "", "", api.ErrNone},
		{blank, one, last, right, "", "", api.ErrNone},
		{blank, one, last, short, "", "", api.ErrNone},
		{blank, blank, last - 1, right, "", "", api.ErrNone},
		{bad, one, 2, right, "", "", api.ErrForm},
		{bad, one, 2, short, "", "", api.ErrForm},
		{zero, bad, 1, right, "", "", api.ErrForm},
		{zero, bad, last, right, "", "", api.ErrForm},
		{zero, bad, last, long, "", "", api.ErrForm},
		{"", "", 0, right, "", "", api.ErrForm},
		{"", "", last, "", "", "", api.ErrForm},
		{bad, bad, -1, right, "", "", api.ErrArg},
		{bad, bad, last + 1, short, "", "", api.ErrArg},
	} {
		x, y, e := slots.Evolve(c.a, c.b, c.epoch, c.next)
		if x != c.x || y != c.y || e != c.e {
			t.Errorf("Evolve(%.80x, %.80x, %d, %d bytes): %.80x %.80x %d, asked %.80x %.80x %d", c.a, c.b, c.epoch, len(c.next), x, y, e, c.x, c.y, c.e)
		}
	}
}

// picked tells if what is picked of an epoch is not want; of an empty want there must be none.
func picked(t *testing.T, both [2]string, epoch int, want string) {
	t.Helper()
	e := api.OK
	if want == "" {
		e = api.ErrNone
	}
	if key, f := slots.Pick(both[0], both[1], epoch); key != want || f != e {
		t.Errorf("Pick of %d: %x %d, asked %x %d", epoch, key, f, want, e)
	}
}

// P11.3, P11.5: keys follow on each other; behind each step both can be picked, and once what is stale is wiped, the next one alone.
func TestBothThenOne(t *testing.T) {
	for _, start := range []int{0, 1, 254, 1<<31 - 3, last - 20} {
		var both [2]string
		both[start%2], both[1-start%2] = put(t, start, many(start)), slots.Empty()
		for epoch := start; epoch < start+20; epoch++ {
			now, next := many(epoch), many(epoch+1)
			at := epoch % 2
			a, b, e := slots.Evolve(both[0], both[1], epoch, next)
			if e != api.OK {
				t.Fatalf("Evolve at %d: %d", epoch, e)
			}
			after := [2]string{a, b}
			if after[at] != both[at] || after[1-at] != put(t, epoch+1, next) {
				t.Errorf("Evolve at %d: %.80x %.80x", epoch, a, b)
			}
			both = after
			picked(t, both, epoch, now)
			picked(t, both, epoch+1, next)
			checkPick(t, both[0], both[1], epoch+2)
			stale := slots.Stale(both[0], both[1], epoch+1)
			if !slices.Equal(stale, []int{at}) {
				t.Errorf("Stale of %d: %v", epoch+1, stale)
			}
			for _, i := range stale {
				both[i] = slots.Empty()
			}
			picked(t, both, epoch+1, next)
			picked(t, both, epoch, "")
			if strings.Contains(both[0], now) || strings.Contains(both[1], now) {
				t.Errorf("the key of %d is still there", epoch)
			}
			if l := slots.Stale(both[0], both[1], epoch+1); len(l) != 0 {
				t.Errorf("Stale of %d behind the wiping: %v", epoch+1, l)
			}
		}
	}
}

// P11.3: without a wiping the key ahead goes when the one behind the next comes; behind the last epoch's none comes.
func TestNotWiped(t *testing.T) {
	a, b := put(t, last-5, many(last-5)), slots.Empty()
	if epoch := last - 5; epoch%2 == 1 {
		a, b = b, a
	}
	for epoch := last - 5; epoch < last; epoch++ {
		x, y, e := slots.Evolve(a, b, epoch, many(epoch+1))
		if e != api.OK {
			t.Fatalf("Evolve at %d: %d", epoch, e)
		}
		a, b = x, y
		picked(t, [2]string{a, b}, epoch, many(epoch))
		picked(t, [2]string{a, b}, epoch+1, many(epoch+1))
		picked(t, [2]string{a, b}, epoch-1, "")
		if was := many(epoch - 1); strings.Contains(a, was) || strings.Contains(b, was) {
			t.Errorf("at %d the key of %d is still there", epoch+1, epoch-1)
		}
	}
	for range 2 {
		if x, y, e := slots.Evolve(a, b, last, keyed); x != "" || y != "" || e != api.ErrLimit {
			t.Errorf("Evolve at the last one: %.80x %.80x %d", x, y, e)
		}
		picked(t, [2]string{a, b}, last, many(last))
		picked(t, [2]string{a, b}, last-1, many(last-1))
	}
}

// More inputs: go test ./slots -fuzz FuzzCalls -fuzzminimizetime 1x
func FuzzCalls(f *testing.F) {
	f.Add("", "", 0, "")
	f.Add(noughts(), laid(1, keyed), 1, other)
	f.Add(laid(last-1, keyed), laid(last, other), last, keyed)
	f.Add("key", "\x00", -1, "k")
	f.Add(keyed, other, math.MinInt64, keyed)
	f.Fuzz(func(t *testing.T, a, b string, epoch int, key string) {
		for _, n := range []int{epoch, epoch & last, last - epoch&3} {
			checkPut(t, n, key)
			for _, both := range [][2]string{{a, b}, {laid(n, many(n)), b}, {a, laid(n, many(n))}, {sealed(clip(a)), sealed("key" + clip(b))}} {
				checkTake(t, both[0])
				checkTake(t, both[1])
				checkPick(t, both[0], both[1], n)
				checkStale(t, both[0], both[1], n)
				checkEvolve(t, both[0], both[1], n, key)
				checkEvolve(t, both[0], both[1], n, many(n))
			}
		}
	})
}

// clip cuts off what has no room beside a sum.
func clip(s string) string { return s[:min(len(s), 4000)] }
