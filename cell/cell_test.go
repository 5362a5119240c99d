package cell_test

import (
	"encoding/binary"
	"math"
	"math/rand"
	"strings"
	"testing"

	"keepsake/api"
	"keepsake/cell"
)

// last is the document's 2^32 - 1.
const last = 4294967295

func noughts() string { return strings.Repeat("\x00", 4096) }

// many is a text of n bytes with every byte in it, if it is long enough.
func many(n int) string {
	b := make([]byte, n)
	for i := range b {
		b[i] = byte(i*7 + 1)
	}
	return string(b)
}

func four(n int) string { return string(binary.BigEndian.AppendUint32(nil, uint32(n))) }

// fill lays noughts behind s, up to a block; what is as long already stays as it is.
func fill(s string) string { return s + strings.Repeat("\x00", max(0, 4096-len(s))) }

// front are a first byte and three numbers, be they such as may be or not.
func front(first byte, epoch, slot, lba int) string {
	return string([]byte{first}) + four(epoch) + four(slot) + four(lba)
}

// laid are a cell's bytes, heldBytes those of a held text.
func laid(c api.Cell) string {
	first := byte(1)
	if c.Gone {
		first = 2
	}
	return fill(front(first, c.Epoch, c.Slot, c.Lba) + four(len(c.Cipher)) + c.Cipher)
}

func heldBytes(s string) string { return fill("\x03" + four(len(s)) + s) }

// turned has the bits of by turned in one of its bytes.
func turned(s string, at int, by byte) string {
	b := []byte(s)
	b[at] ^= by
	return string(b)
}

// numbers are those at both bounds of an Epoch and of a Slot, beyond them, and between; lbas the same of an Lba.
func numbers() []int {
	return []int{math.MinInt64, -last - 1, -last, -1, 0, 1, 255, 4096, 1<<31 - 1, 1 << 31, last - 1, last, last + 1, last + 2, 1 << 62, math.MaxInt64}
}

func lbas() []int {
	return []int{math.MinInt64, -4096, -4095, -1, 0, 1, 255, 256, 4094, 4095, 4096, 4097, 8191, last, last + 1, math.MaxInt64}
}

// texts are those at both bounds of a Cipher and of a held text, beyond them, and between, with noughts at their ends, too.
func texts() []string {
	l := []string{"", "a", "ab", "\x00", "\x00a", "a\x00", "\xff\xfe", "\x01\x02\x03"}
	for _, n := range []int{2, 3999, 4000, 4001, 4079, 4080, 4091, 4092, 4096} {
		l = append(l, many(n), strings.Repeat("\x00", n))
	}
	return l
}

// right are cells that may be, of each kind, at the bounds and between.
func right() []api.Cell {
	return []api.Cell{
		{},
		{Epoch: 1, Slot: 2, Lba: 3, Cipher: "ab"},
		{Epoch: last, Slot: last, Lba: 4095, Cipher: many(4000)},
		{Epoch: 0x01020304, Slot: 0x05060708, Lba: 0x090a, Cipher: strings.Repeat("\x00", 3999)},
		{Epoch: 7, Slot: 9, Lba: 11},
		{Gone: true},
		{Epoch: last, Slot: last, Lba: 4095, Gone: true},
		{Epoch: 0x01020304, Slot: 0x05060708, Lba: 0x090a, Gone: true},
	}
}

// wantCheck, wantPut, wantTake, wantHold, wantHeld and wantKind say, from the chapter's words once more, what the calls must answer.
func wantCheck(c api.Cell) api.Errno {
	ok := c.Epoch >= 0 && c.Epoch <= last && c.Slot >= 0 && c.Slot <= last && c.Lba >= 0 && c.Lba <= 4095
	if ok && (len(c.Cipher) == 0 || !c.Gone && len(c.Cipher) <= 4000) {
		return api.OK
	}
	return api.ErrArg
}

func wantPut(c api.Cell) (string, api.Errno) {
	if e := wantCheck(c); e != api.OK {
		return "", e
	}
	return laid(c), api.OK
}

// wantText takes a text and what is behind it, of which there must be noughts alone.
func wantText(s string) (string, bool) {
	if len(s) < 4 {
		return "", false
	}
	n := int(binary.BigEndian.Uint32([]byte(s)))
	if n > 4000 || n > len(s)-4 || strings.Trim(s[4+n:], "\x00") != "" {
		return "", false
	}
	return s[4 : 4+n], true
}

// wantTake looks at one part of the block after the other, from the front.
func wantTake(block string) (api.Cell, api.Errno) {
	if len(block) != 4096 || block[0] != 1 && block[0] != 2 {
		return api.Cell{}, api.ErrForm
	}
	number := func(at int) int { return int(binary.BigEndian.Uint32([]byte(block[at:]))) }
	cipher, ok := wantText(block[13:])
	if number(9) > 4095 || !ok || block[0] == 2 && cipher != "" {
		return api.Cell{}, api.ErrForm
	}
	return api.Cell{Epoch: number(1), Slot: number(5), Lba: number(9), Gone: block[0] == 2, Cipher: cipher}, api.OK
}

func wantHold(s string) (string, api.Errno) {
	if len(s) == 0 || len(s) > 4000 {
		return "", api.ErrArg
	}
	return heldBytes(s), api.OK
}

func wantHeld(block string) (string, api.Errno) {
	if len(block) != 4096 || block[0] != 3 {
		return "", api.ErrForm
	}
	s, ok := wantText(block[1:])
	if !ok || s == "" {
		return "", api.ErrForm
	}
	return s, api.OK
}

func wantKind(block string) int {
	_, taken := wantTake(block)
	_, held := wantHeld(block)
	switch {
	case taken == api.OK || held == api.OK:
		return int(block[0])
	case block == noughts():
		return 0
	}
	return -1
}

// checkCell holds what is told of a cell against what is asked; of one that may be Take leads back.
func checkCell(t *testing.T, c api.Cell) {
	t.Helper()
	if e, w := cell.Check(c), wantCheck(c); e != w {
		t.Errorf("Check(%d %d %d %t %d bytes): %d, asked %d", c.Epoch, c.Slot, c.Lba, c.Gone, len(c.Cipher), e, w)
	}
	block, e := cell.Put(c)
	if w, f := wantPut(c); block != w || e != f {
		t.Errorf("Put(%d %d %d %t %d bytes): %d bytes %.40x %d, asked %.40x %d", c.Epoch, c.Slot, c.Lba, c.Gone, len(c.Cipher), len(block), block, e, w, f)
	}
	if e != api.OK {
		return
	}
	if back, f := cell.Take(block); back != c || f != api.OK {
		t.Errorf("Take(Put(%d %d %d %t %.20x)): %d %d %d %t %.20x %d", c.Epoch, c.Slot, c.Lba, c.Gone, c.Cipher, back.Epoch, back.Slot, back.Lba, back.Gone, back.Cipher, f)
	}
}

// checkText holds what is told of a text that is to be held against what is asked; of one that may be Held leads back.
func checkText(t *testing.T, s string) {
	t.Helper()
	block, e := cell.Hold(s)
	if w, f := wantHold(s); block != w || e != f {
		t.Errorf("Hold(%d bytes %.20x): %d bytes %.40x %d, asked %.40x %d", len(s), s, len(block), block, e, w, f)
	}
	if e != api.OK {
		return
	}
	if back, f := cell.Held(block); back != s || f != api.OK {
		t.Errorf("Held(Hold(%d bytes %.20x)): %d bytes %.20x %d", len(s), s, len(back), back, f)
	}
}

// checkBlock holds what is told of a block against what is asked: what is taken, or held, is those bytes again, and no bytes are both.
func checkBlock(t *testing.T, block string) {
	t.Helper()
	c, e := cell.Take(block)
	if w, f := wantTake(block); c != w || e != f {
		t.Errorf("Take(%d bytes %.40x): %d %d %d %t %.20x %d, asked %d %d %d %t %.20x %d", len(block), block, c.Epoch, c.Slot, c.Lba, c.Gone, c.Cipher, e, w.Epoch, w.Slot, w.Lba, w.Gone, w.Cipher, f)
	}
	s, f := cell.Held(block)
	if w, g := wantHeld(block); s != w || f != g {
		t.Errorf("Held(%d bytes %.40x): %d bytes %.20x %d, asked %.20x %d", len(block), block, len(s), s, f, w, g)
	}
	if k, w := cell.Kind(block), wantKind(block); k != w {
		t.Errorf("Kind(%d bytes %.40x): %d, asked %d", len(block), block, k, w)
	}
	if e == api.OK && f == api.OK {
		t.Errorf("%d bytes %.40x are a cell's and a held text's", len(block), block)
	}
	if again, g := cell.Put(c); e == api.OK && (again != block || g != api.OK) {
		t.Errorf("Put(Take(%.40x)): %.40x %d", block, again, g)
	}
	if again, g := cell.Hold(s); f == api.OK && (again != block || g != api.OK) {
		t.Errorf("Hold(Held(%.40x)): %.40x %d", block, again, g)
	}
}

// refused tells if a block is a cell's or a held text's, or is told to be.
func refused(t *testing.T, what, block string) {
	t.Helper()
	if c, e := cell.Take(block); c != (api.Cell{}) || e != api.ErrForm {
		t.Errorf("Take of %s: %d %d %d %t %.20x %d, asked %d", what, c.Epoch, c.Slot, c.Lba, c.Gone, c.Cipher, e, api.ErrForm)
	}
	if s, e := cell.Held(block); s != "" || e != api.ErrForm {
		t.Errorf("Held of %s: %.20x %d, asked %d", what, s, e, api.ErrForm)
	}
	if k := cell.Kind(block); k != -1 {
		t.Errorf("Kind of %s: %d, asked -1", what, k)
	}
}

// The chapter's example.
func TestExample(t *testing.T) {
	c := api.Cell{Epoch: 1, Slot: 2, Lba: 3, Cipher: "ab"}
	want := "\x01" + "\x00\x00\x00\x01" + "\x00\x00\x00\x02" + "\x00\x00\x00\x03" + "\x00\x00\x00\x02" + "\x61\x62" + strings.Repeat("\x00", 4077)
	if len(want) != 4096 {
		t.Fatal(len(want))
	}
	if block, e := cell.Put(c); block != want || e != api.OK {
		t.Errorf("Put: %d bytes %.40x %d", len(block), block, e)
	}
	if back, e := cell.Take(want); back != c || e != api.OK {
		t.Errorf("Take: %v %d", back, e)
	}
	if k := cell.Kind(want); k != 1 {
		t.Errorf("Kind: %d", k)
	}
}

// P12.1: which cells may be, each thing wrong alone and with others, and how many bytes there are.
func TestCheckByHand(t *testing.T) {
	x := func(n int) string { return strings.Repeat("x", n) }
	for _, c := range []struct {
		c api.Cell
		e api.Errno
	}{
		{api.Cell{}, api.OK},
		{api.Cell{Epoch: 1, Slot: 1, Lba: 1, Cipher: x(1)}, api.OK},
		{api.Cell{Epoch: last, Slot: last, Lba: 4095, Cipher: x(4000)}, api.OK},
		// the Epoch
		{api.Cell{Epoch: 0, Slot: 2, Lba: 3, Cipher: x(4)}, api.OK},
		{api.Cell{Epoch: last, Slot: 2, Lba: 3, Cipher: x(4)}, api.OK},
		{api.Cell{Epoch: -1, Slot: 2, Lba: 3, Cipher: x(4)}, api.ErrArg},
		{api.Cell{Epoch: last + 1, Slot: 2, Lba: 3, Cipher: x(4)}, api.ErrArg},
		{api.Cell{Epoch: math.MinInt64, Slot: 2, Lba: 3, Cipher: x(4)}, api.ErrArg},
		{api.Cell{Epoch: math.MaxInt64, Slot: 2, Lba: 3, Cipher: x(4)}, api.ErrArg},
		// the Slot
		{api.Cell{Epoch: 1, Slot: 0, Lba: 3, Cipher: x(4)}, api.OK},
		{api.Cell{Epoch: 1, Slot: last, Lba: 3, Cipher: x(4)}, api.OK},
		{api.Cell{Epoch: 1, Slot: -1, Lba: 3, Cipher: x(4)}, api.ErrArg},
		{api.Cell{Epoch: 1, Slot: last + 1, Lba: 3, Cipher: x(4)}, api.ErrArg},
		{api.Cell{Epoch: 1, Slot: math.MinInt64, Lba: 3, Cipher: x(4)}, api.ErrArg},
		{api.Cell{Epoch: 1, Slot: math.MaxInt64, Lba: 3, Cipher: x(4)}, api.ErrArg},
		// the Lba
		{api.Cell{Epoch: 1, Slot: 2, Lba: 0, Cipher: x(4)}, api.OK},
		{api.Cell{Epoch: 1, Slot: 2, Lba: 4095, Cipher: x(4)}, api.OK},
		{api.Cell{Epoch: 1, Slot: 2, Lba: -1, Cipher: x(4)}, api.ErrArg},
		{api.Cell{Epoch: 1, Slot: 2, Lba: 4096, Cipher: x(4)}, api.ErrArg},
		{api.Cell{Epoch: 1, Slot: 2, Lba: last, Cipher: x(4)}, api.ErrArg},
		{api.Cell{Epoch: 1, Slot: 2, Lba: math.MinInt64, Cipher: x(4)}, api.ErrArg},
		{api.Cell{Epoch: 1, Slot: 2, Lba: math.MaxInt64, Cipher: x(4)}, api.ErrArg},
		// the Cipher
		{api.Cell{Epoch: 1, Slot: 2, Lba: 3}, api.OK},
		{api.Cell{Epoch: 1, Slot: 2, Lba: 3, Cipher: x(1)}, api.OK},
		{api.Cell{Epoch: 1, Slot: 2, Lba: 3, Cipher: x(3999)}, api.OK},
		{api.Cell{Epoch: 1, Slot: 2, Lba: 3, Cipher: x(4000)}, api.OK},
		{api.Cell{Epoch: 1, Slot: 2, Lba: 3, Cipher: x(4001)}, api.ErrArg},
		{api.Cell{Epoch: 1, Slot: 2, Lba: 3, Cipher: x(4079)}, api.ErrArg},
		{api.Cell{Epoch: 1, Slot: 2, Lba: 3, Cipher: x(4080)}, api.ErrArg},
		{api.Cell{Epoch: 1, Slot: 2, Lba: 3, Cipher: x(4096)}, api.ErrArg},
		{api.Cell{Epoch: 1, Slot: 2, Lba: 3, Cipher: x(1 << 20)}, api.ErrArg},
		{api.Cell{Epoch: 1, Slot: 2, Lba: 3, Cipher: strings.Repeat("\x00", 4001)}, api.ErrArg},
		// Gone
		{api.Cell{Gone: true}, api.OK},
		{api.Cell{Epoch: 1, Slot: 2, Lba: 3, Gone: true}, api.OK},
		{api.Cell{Epoch: last, Slot: last, Lba: 4095, Gone: true}, api.OK},
		{api.Cell{Epoch: 1, Slot: 2, Lba: 3, Gone: true, Cipher: x(1)}, api.ErrArg},
		{api.Cell{Epoch: 1, Slot: 2, Lba: 3, Gone: true, Cipher: "\x00"}, api.ErrArg},
		{api.Cell{Epoch: 1, Slot: 2, Lba: 3, Gone: true, Cipher: x(4000)}, api.ErrArg},
		{api.Cell{Epoch: 1, Slot: 2, Lba: 3, Gone: true, Cipher: x(4001)}, api.ErrArg},
		{api.Cell{Epoch: -1, Slot: 2, Lba: 3, Gone: true}, api.ErrArg},
		{api.Cell{Epoch: last + 1, Slot: 2, Lba: 3, Gone: true}, api.ErrArg},
		{api.Cell{Epoch: 1, Slot: -1, Lba: 3, Gone: true}, api.ErrArg},
		{api.Cell{Epoch: 1, Slot: last + 1, Lba: 3, Gone: true}, api.ErrArg},
		{api.Cell{Epoch: 1, Slot: 2, Lba: -1, Gone: true}, api.ErrArg},
		{api.Cell{Epoch: 1, Slot: 2, Lba: 4096, Gone: true}, api.ErrArg},
		// several at once
		{api.Cell{Epoch: -1, Slot: -1, Lba: -1, Gone: true, Cipher: x(4001)}, api.ErrArg},
		{api.Cell{Epoch: last + 1, Slot: last + 1, Lba: 4096, Cipher: x(4001)}, api.ErrArg},
		{api.Cell{Epoch: math.MinInt64, Slot: math.MaxInt64}, api.ErrArg},
	} {
		name := func() []any {
			return []any{c.c.Epoch, c.c.Slot, c.c.Lba, c.c.Gone, len(c.c.Cipher)}
		}
		if e := cell.Check(c.c); e != c.e {
			t.Errorf("Check of %v: %d, asked %d", name(), e, c.e)
		}
		block, e := cell.Put(c.c)
		if e != c.e {
			t.Errorf("Put of %v: %d, asked %d", name(), e, c.e)
		}
		if n := len(block); e == api.OK && n != 4096 || e != api.OK && n != 0 {
			t.Errorf("Put of %v: %d bytes, %d", name(), n, e)
		}
	}
}

// P12.1: what is laid, byte by byte.
func TestPutBytes(t *testing.T) {
	for _, c := range []struct {
		c    api.Cell
		want string
	}{
		{api.Cell{}, "\x01" + strings.Repeat("\x00", 4095)},
		{api.Cell{Gone: true}, "\x02" + strings.Repeat("\x00", 4095)},
		{api.Cell{Epoch: last, Slot: last, Lba: 4095, Gone: true}, "\x02\xff\xff\xff\xff\xff\xff\xff\xff\x00\x00\x0f\xff" + strings.Repeat("\x00", 4083)},
		{api.Cell{Epoch: last, Slot: last, Lba: 4095}, "\x01\xff\xff\xff\xff\xff\xff\xff\xff\x00\x00\x0f\xff" + strings.Repeat("\x00", 4083)},
		{api.Cell{Epoch: 0x01020304, Slot: 0x05060708, Lba: 0x090a, Cipher: "\x0b"}, "\x01\x01\x02\x03\x04\x05\x06\x07\x08\x00\x00\x09\x0a\x00\x00\x00\x01\x0b" + strings.Repeat("\x00", 4078)},
		{api.Cell{Epoch: 0xf1f2f3f4, Slot: 0xe5e6e7e8, Lba: 0x0d0c, Gone: true}, "\x02\xf1\xf2\xf3\xf4\xe5\xe6\xe7\xe8\x00\x00\x0d\x0c" + strings.Repeat("\x00", 4083)},
		{api.Cell{Slot: 1, Cipher: "\x00"}, "\x01\x00\x00\x00\x00\x00\x00\x00\x01\x00\x00\x00\x00\x00\x00\x00\x01" + strings.Repeat("\x00", 4079)},
		{api.Cell{Lba: 256, Cipher: strings.Repeat("c", 4000)}, "\x01\x00\x00\x00\x00\x00\x00\x00\x00\x00\x00\x01\x00\x00\x00\x0f\xa0" + strings.Repeat("c", 4000) + strings.Repeat("\x00", 79)},
		{api.Cell{Epoch: 256, Cipher: strings.Repeat("\xff", 3999)}, "\x01\x00\x00\x01\x00\x00\x00\x00\x00\x00\x00\x00\x00\x00\x00\x0f\x9f" + strings.Repeat("\xff", 3999) + strings.Repeat("\x00", 80)},
	} {
		if len(c.want) != 4096 {
			t.Fatal(len(c.want))
		}
		if block, e := cell.Put(c.c); block != c.want || e != api.OK {
			t.Errorf("Put(%d %d %d %t %d bytes): %d bytes %.40x %d", c.c.Epoch, c.c.Slot, c.c.Lba, c.c.Gone, len(c.c.Cipher), len(block), block, e)
		}
		if back, e := cell.Take(c.want); back != c.c || e != api.OK {
			t.Errorf("Take(%.40x): %d %d %d %t %d bytes %d", c.want, back.Epoch, back.Slot, back.Lba, back.Gone, len(back.Cipher), e)
		}
		checkBlock(t, c.want)
	}
}

// P12.1, P12.4: all numbers of the edges with all ciphers, gone and not.
func TestPutTake(t *testing.T) {
	count := 0
	for _, epoch := range numbers() {
		for _, slot := range numbers() {
			for _, lba := range lbas() {
				for _, gone := range []bool{false, true} {
					for _, cipher := range []string{"", "ab", many(4000), many(4001)} {
						c := api.Cell{Epoch: epoch, Slot: slot, Lba: lba, Gone: gone, Cipher: cipher}
						checkCell(t, c)
						if wantCheck(c) == api.OK {
							count++
						}
					}
				}
			}
		}
	}
	if count != 8*8*6*4 {
		t.Errorf("%d were laid", count)
	}
}

// P12.1, P12.4: ciphers of all lengths of the edges, with noughts at their ends, too: noughts of a cipher are not those behind it.
func TestCiphers(t *testing.T) {
	for _, cipher := range texts() {
		for _, gone := range []bool{false, true} {
			c := api.Cell{Epoch: 1, Slot: 2, Lba: 3, Gone: gone, Cipher: cipher}
			checkCell(t, c)
			checkBlock(t, laid(c))
		}
	}
	for n := range 4003 {
		checkCell(t, api.Cell{Epoch: n, Slot: n + 1, Lba: 1, Cipher: many(n)})
		checkCell(t, api.Cell{Epoch: n, Slot: n + 1, Lba: 1, Cipher: strings.Repeat("\x00", n)})
	}
}

// P12.1, P12.4: each place, there and back.
func TestLbas(t *testing.T) {
	for lba := -2; lba < 4100; lba++ {
		checkCell(t, api.Cell{Epoch: 1, Slot: 2, Lba: lba, Cipher: "ab"})
		checkCell(t, api.Cell{Epoch: 1, Slot: 2, Lba: lba, Gone: true})
	}
}

// P12.1, P12.4, P12.5: cells as they come, there and back, what was taken, put, is those bytes; and what is left of them.
func TestBack(t *testing.T) {
	r := rand.New(rand.NewSource(12))
	for range 2000 {
		cipher := make([]byte, r.Intn(1+r.Intn(4001)))
		r.Read(cipher)
		c := api.Cell{Epoch: r.Intn(1 << (1 + r.Intn(32))), Slot: r.Intn(1 << (1 + r.Intn(32))), Lba: r.Intn(4096), Cipher: string(cipher)}
		for _, c := range []api.Cell{c, {Epoch: c.Epoch, Slot: c.Slot, Lba: c.Lba, Gone: true}} {
			checkCell(t, c)
			checkLeft(t, c)
			back, e := cell.Take(laid(c))
			if again, f := cell.Put(back); e != api.OK || f != api.OK || again != laid(c) {
				t.Errorf("Put(Take) of %d %d %d %t %.20x: %.40x %d %d", c.Epoch, c.Slot, c.Lba, c.Gone, c.Cipher, again, e, f)
			}
		}
		checkText(t, string(cipher))
		checkBlock(t, laid(c))
		checkBlock(t, heldBytes(string(cipher)))
	}
}

// P12.1, P12.2, P12.3: texts with too few and too many bytes, none among them.
func TestLengths(t *testing.T) {
	blocks := []string{heldBytes("a"), heldBytes(many(4000)), heldBytes(strings.Repeat("\x00", 12)), noughts()}
	for _, c := range right() {
		blocks = append(blocks, laid(c))
	}
	for _, block := range blocks {
		for n := range len(block) {
			refused(t, "a block that is cut", block[:n])
		}
		for _, n := range []int{1, 5, 9, 13, 17, 4095} {
			refused(t, "a block without its front", block[n:])
		}
		for _, more := range []string{"\x00", "\x01", "\x03", noughts(), block, block[:17], strings.Repeat("\x00", 1<<20)} {
			refused(t, "a block with more behind it", block+more)
			refused(t, "a block with more ahead of it", more+block)
		}
	}
}

// P12.3: noughts are of no kind, if they are a block; fewer and more are none's.
func TestNoughts(t *testing.T) {
	if k := cell.Kind(noughts()); k != 0 {
		t.Errorf("Kind of noughts: %d", k)
	}
	if c, e := cell.Take(noughts()); c != (api.Cell{}) || e != api.ErrForm {
		t.Errorf("Take of noughts: %v %d", c, e)
	}
	if s, e := cell.Held(noughts()); s != "" || e != api.ErrForm {
		t.Errorf("Held of noughts: %q %d", s, e)
	}
	for _, n := range []int{0, 1, 5, 13, 17, 4000, 4095, 4097, 8192, 65536, 1 << 20} {
		refused(t, "noughts that are no block", strings.Repeat("\x00", n))
	}
	for at := range 4096 {
		for _, by := range []byte{1, 2, 3, 4, 0x80, 0xff} {
			if at == 0 && by < 3 {
				continue // these are the zero cell's, with its data and without
			}
			refused(t, "noughts but for a byte", turned(noughts(), at, by))
		}
	}
}

// P12.1, P12.2, P12.3: any one of the bytes turned: the first one, the numbers, the length, the text, the noughts. Some are another cell's or another text's then: wantTake and wantHeld tell which.
func TestTurned(t *testing.T) {
	blocks := []string{heldBytes("a"), heldBytes("ab\x00"), heldBytes(many(300)), heldBytes(many(4000))}
	for _, c := range right() {
		blocks = append(blocks, laid(c))
	}
	for _, block := range blocks {
		for at := range len(block) {
			checkBlock(t, turned(block, at, 1<<(at%8)))
		}
		for at := range 20 {
			for by := 1; by < 256; by++ {
				checkBlock(t, turned(block, at, byte(by)))
			}
		}
	}
}

// P12.1, P12.2: what of a block with a byte turned is told, by hand.
func TestTurnedByHand(t *testing.T) {
	ab := laid(api.Cell{Epoch: 1, Slot: 2, Lba: 3, Cipher: "ab"})
	for _, c := range []struct {
		at   int
		by   byte
		want api.Cell
	}{
		{1, 0x80, api.Cell{Epoch: 1<<31 + 1, Slot: 2, Lba: 3, Cipher: "ab"}},
		{4, 1, api.Cell{Epoch: 0, Slot: 2, Lba: 3, Cipher: "ab"}},
		{5, 0x80, api.Cell{Epoch: 1, Slot: 1<<31 + 2, Lba: 3, Cipher: "ab"}},
		{8, 1, api.Cell{Epoch: 1, Slot: 3, Lba: 3, Cipher: "ab"}},
		{11, 0x0f, api.Cell{Epoch: 1, Slot: 2, Lba: 3843, Cipher: "ab"}},
		{12, 1, api.Cell{Epoch: 1, Slot: 2, Lba: 2, Cipher: "ab"}},
		{16, 1, api.Cell{Epoch: 1, Slot: 2, Lba: 3, Cipher: "ab\x00"}},
		{15, 1, api.Cell{Epoch: 1, Slot: 2, Lba: 3, Cipher: "ab" + strings.Repeat("\x00", 256)}},
		{17, 0x20, api.Cell{Epoch: 1, Slot: 2, Lba: 3, Cipher: "Ab"}},
		{18, 0x62, api.Cell{Epoch: 1, Slot: 2, Lba: 3, Cipher: "a\x00"}},
	} {
		if got, e := cell.Take(turned(ab, c.at, c.by)); got != c.want || e != api.OK {
			t.Errorf("byte %d turned by %x: %v %d, asked %v", c.at, c.by, got, e, c.want)
		}
	}
	for what, block := range map[string]string{
		"a first byte 0":                    turned(ab, 0, 1),
		"a first byte 2 and a cipher":       turned(ab, 0, 3),
		"a first byte 4":                    turned(ab, 0, 5),
		"a first byte 129":                  turned(ab, 0, 0x80),
		"an Lba of 4099":                    turned(ab, 11, 0x10),
		"an Lba of 65539":                   turned(ab, 10, 1),
		"an Lba of 2^31 and 3":              turned(ab, 9, 0x80),
		"a length of 0, with a cipher":      turned(ab, 16, 2),
		"a length of 1":                     turned(ab, 16, 3),
		"a length of 2^31 and 2":            turned(ab, 13, 0x80),
		"a length of 65538":                 turned(ab, 14, 1),
		"a byte behind the cipher":          turned(ab, 19, 1),
		"a byte among the noughts":          turned(ab, 2000, 0x80),
		"a byte at the end":                 turned(ab, 4095, 1),
		"a letter of the cipher and behind": turned(turned(ab, 17, 1), 4095, 1),
	} {
		refused(t, what, block)
	}
	// a first byte 3 makes a text of one byte, with others behind it
	refused(t, "a held text with bytes behind it", turned(ab, 0, 2))
	long := laid(api.Cell{Epoch: 18, Slot: 2, Lba: 3, Cipher: "ab"})
	if s, e := cell.Held(turned(long, 0, 2)); e != api.OK || s != long[5:23] {
		t.Errorf("a cell's block with a first byte 3: %q %d", s, e)
	}
}

// P12.1: lengths that tell more bytes than there are, or more than a cell may have; gone ones with a cipher; numbers and texts laid another way.
func TestTakeOtherwise(t *testing.T) {
	begin := front(1, 1, 2, 3)
	for what, block := range map[string]string{
		"a length of 4001":             fill(begin + four(4001) + many(4001)),
		"a length of 4001, of noughts": fill(begin + four(4001)),
		"all bytes there are":          fill(begin + four(4079) + many(4079)),
		"all there are, of noughts":    fill(begin + four(4079)),
		"one more than there are":      fill(begin + four(4080) + many(4079)),
		"many more than there are":     fill(begin + four(65536)),
		"a length of 2^31":             fill(begin + four(1<<31)),
		"the greatest length":          fill(begin + four(last)),
		"gone, with a byte":            fill(front(2, 1, 2, 3) + four(1) + "a"),
		"gone, with a nought":          fill(front(2, 1, 2, 3) + four(1)),
		"gone, with all its data":      fill(front(2, 1, 2, 3) + four(4000) + many(4000)),
		"gone, with 4001 bytes":        fill(front(2, 1, 2, 3) + four(4001) + many(4001)),
		"gone, with a byte behind":     fill(front(2, 1, 2, 3) + four(0) + "a"),
		"a first byte 0":               fill(front(0, 1, 2, 3) + four(2) + "ab"),
		"a first byte 4":               fill(front(4, 1, 2, 3) + four(2) + "ab"),
		"a first byte 255":             fill(front(255, 1, 2, 3) + four(2) + "ab"),
		"the letter 1":                 fill(front('1', 1, 2, 3) + four(2) + "ab"),
		"no first byte":                fill(begin[1:] + four(2) + "ab"),
		"an Lba of 4096":               fill(front(1, 1, 2, 4096) + four(2) + "ab"),
		"an Lba of 2^32 - 1":           fill(front(1, 1, 2, last) + four(2) + "ab"),
		"gone, with an Lba of 4096":    fill(front(2, 1, 2, 4096) + four(0)),
		"a text without a length":      fill(begin + "ab"),
		"a length that is too short":   fill(begin + four(1) + "ab"),
		"a text, twice":                fill(begin + four(2) + "ab" + four(2) + "ab"),
		"ones in place of noughts":     begin + four(2) + "ab" + strings.Repeat("\xff", 4077),
		"noughts ahead":                strings.Repeat("\x00", 4096-19) + begin + four(2) + "ab",
		"a length of two bytes":        fill(begin + "\x00\x02" + "ab"),
		"numbers of eight bytes":       fill("\x01" + "\x00\x00\x00\x00" + four(1) + "\x00\x00\x00\x00" + four(2) + "\x00\x00\x00\x00" + four(3) + four(2) + "ab"),
		"a superblock's letters":       fill("keepsake1"),
		"a key's letters":              fill("key" + four(1) + many(32)),
		"ones alone":                   strings.Repeat("\xff", 4096),
		"bytes 1 alone":                strings.Repeat("\x01", 4096),
		"bytes 2 alone":                strings.Repeat("\x02", 4096),
		"bytes 3 alone":                strings.Repeat("\x03", 4096),
	} {
		refused(t, what, block)
		checkBlock(t, block)
	}
	for n := range 4096 {
		checkBlock(t, fill(begin+four(n)))
		checkBlock(t, fill(front(2, 1, 2, 3)+four(n)))
		checkBlock(t, fill("\x03"+four(n)))
	}
	for _, n := range []int{65535, 65536, 1<<24 - 1, 1 << 24, 1<<31 - 1, 1 << 31, last - 1, last} {
		refused(t, "a great length", fill(begin+four(n)))
		refused(t, "a great length", fill("\x03"+four(n)))
	}
}

// P12.2: which texts may be held, their bytes, and how many there are.
func TestHoldByHand(t *testing.T) {
	for _, c := range []struct{ s, want string }{
		{"a", "\x03\x00\x00\x00\x01a" + strings.Repeat("\x00", 4090)},
		{"\x00", "\x03\x00\x00\x00\x01" + strings.Repeat("\x00", 4091)},
		{"\x03\x00", "\x03\x00\x00\x00\x02\x03" + strings.Repeat("\x00", 4090)},
		{strings.Repeat("h", 256), "\x03\x00\x00\x01\x00" + strings.Repeat("h", 256) + strings.Repeat("\x00", 3835)},
		{strings.Repeat("h", 3999), "\x03\x00\x00\x0f\x9f" + strings.Repeat("h", 3999) + strings.Repeat("\x00", 92)},
		{strings.Repeat("\xff", 4000), "\x03\x00\x00\x0f\xa0" + strings.Repeat("\xff", 4000) + strings.Repeat("\x00", 91)},
	} {
		if len(c.want) != 4096 {
			t.Fatal(len(c.want))
		}
		if block, e := cell.Hold(c.s); block != c.want || e != api.OK {
			t.Errorf("Hold(%d bytes %.20x): %d bytes %.40x %d", len(c.s), c.s, len(block), block, e)
		}
		if s, e := cell.Held(c.want); s != c.s || e != api.OK {
			t.Errorf("Held(%.40x): %d bytes %.20x %d", c.want, len(s), s, e)
		}
		if k := cell.Kind(c.want); k != 3 {
			t.Errorf("Kind(%.40x): %d", c.want, k)
		}
	}
	for _, n := range []int{0, 4001, 4091, 4092, 4096, 65536, 1 << 20} {
		for _, s := range []string{strings.Repeat("h", n), strings.Repeat("\x00", n)} {
			if block, e := cell.Hold(s); block != "" || e != api.ErrArg {
				t.Errorf("Hold of %d bytes: %d bytes, %d", n, len(block), e)
			}
		}
	}
}

// P12.2, P12.4: texts of all lengths, there and back.
func TestHoldHeld(t *testing.T) {
	for n := range 4100 {
		checkText(t, many(n))
		checkText(t, strings.Repeat("\x00", n))
	}
	for _, s := range texts() {
		checkText(t, s)
		if len(s) < 4092 {
			checkBlock(t, heldBytes(s))
		}
	}
}

// P12.2: a text of no bytes laid so, and others that are laid another way.
func TestHeldOtherwise(t *testing.T) {
	for what, block := range map[string]string{
		"a text of no bytes":           heldBytes(""),
		"a length of 0, with a byte":   fill("\x03" + four(0) + "a"),
		"a length of 1, with two":      fill("\x03" + four(1) + "ab"),
		"4001 bytes":                   heldBytes(many(4001)),
		"4001 noughts":                 heldBytes(strings.Repeat("\x00", 4001)),
		"all bytes there are":          heldBytes(many(4091)),
		"all there are, of noughts":    heldBytes(strings.Repeat("\x00", 4091)),
		"one more than there are":      fill("\x03" + four(4092) + many(4091)),
		"the greatest length":          fill("\x03" + four(last) + "ab"),
		"a byte at the end":            turned(heldBytes("ab"), 4095, 1),
		"a byte behind the text":       turned(heldBytes("ab"), 7, 1),
		"a first byte 0":               turned(heldBytes("ab"), 0, 3),
		"a first byte 1":               turned(heldBytes(many(20)), 0, 2),
		"a first byte 2":               turned(heldBytes(many(20)), 0, 1),
		"a first byte 4":               turned(heldBytes("ab"), 0, 7),
		"the letter 3":                 fill("3" + four(2) + "ab"),
		"no first byte":                fill(four(2) + "ab"),
		"no length":                    fill("\x03" + "ab"),
		"two bytes 3":                  fill("\x03\x03" + four(2) + "ab"),
		"one behind another":           fill("\x03" + four(1) + "a" + "\x03" + four(1) + "b"),
		"ones in place of noughts":     "\x03" + four(2) + "ab" + strings.Repeat("\xff", 4089),
		"a held text laid like a cell": fill(front(3, 1, 2, 3) + four(2) + "ab"),
	} {
		refused(t, what, block)
		checkBlock(t, block)
	}
}

// P12.3: what the kind is, by hand.
func TestKind(t *testing.T) {
	ab := api.Cell{Epoch: 1, Slot: 2, Lba: 3, Cipher: "ab"}
	for _, c := range []struct {
		what, block string
		kind        int
	}{
		{"noughts", noughts(), 0},
		{"the zero cell", "\x01" + noughts()[1:], 1},
		{"the zero cell, gone", "\x02" + noughts()[1:], 2},
		{"a cell", laid(ab), 1},
		{"a cell without data", laid(api.Cell{Epoch: last, Slot: last, Lba: 4095}), 1},
		{"a full cell", laid(api.Cell{Cipher: many(4000)}), 1},
		{"a cell that is gone", laid(cell.Left(ab)), 2},
		{"a held text", heldBytes("a"), 3},
		{"a held nought", heldBytes("\x00"), 3},
		{"a full held text", heldBytes(many(4000)), 3},
		{"a held text that begins as a cell", heldBytes(laid(ab)[:4000]), 3},
		{"a cell whose data begin as a held text", laid(api.Cell{Cipher: heldBytes("ab")[:4000]}), 1},
		{"a text of no bytes", heldBytes(""), -1},
		{"a gone one with data", turned(laid(ab), 0, 3), -1},
		{"a cell whose place is none", laid(api.Cell{Lba: 4096}), -1},
		{"a cell with too much", laid(api.Cell{Cipher: many(4001)}), -1},
		{"a held text with too much", heldBytes(many(4001)), -1},
		{"no bytes", "", -1},
		{"a nought", "\x00", -1},
		{"a byte 1", "\x01", -1},
		{"a byte 2", "\x02", -1},
		{"a byte 3", "\x03", -1},
		{"fewer noughts", noughts()[1:], -1},
		{"more noughts", noughts() + "\x00", -1},
		{"twice as many noughts", noughts() + noughts(), -1},
		{"noughts and a byte", noughts()[1:] + "\x01", -1},
		{"a cell and a nought", laid(ab) + "\x00", -1},
		{"a cell, cut", laid(ab)[:4095], -1},
		{"ones", strings.Repeat("\xff", 4096), -1},
	} {
		if k := cell.Kind(c.block); k != c.kind {
			t.Errorf("Kind of %s: %d, asked %d", c.what, k, c.kind)
		}
		checkBlock(t, c.block)
	}
	// every first byte, ahead of noughts
	for first := range 256 {
		want := -1
		if first < 3 {
			want = first
		}
		if k := cell.Kind(string([]byte{byte(first)}) + noughts()[1:]); k != want {
			t.Errorf("Kind of %d and noughts: %d, asked %d", first, k, want)
		}
	}
}

// checkLeft holds what is left of a cell against what is asked: its numbers, be they what they may, and no byte of its data.
func checkLeft(t *testing.T, c api.Cell) {
	t.Helper()
	left := cell.Left(c)
	if want := (api.Cell{Epoch: c.Epoch, Slot: c.Slot, Lba: c.Lba, Gone: true}); left != want {
		t.Errorf("Left(%d %d %d %t %.20x): %d %d %d %t %.20x", c.Epoch, c.Slot, c.Lba, c.Gone, c.Cipher, left.Epoch, left.Slot, left.Lba, left.Gone, left.Cipher)
	}
	if again := cell.Left(left); again != left {
		t.Errorf("Left(Left) of %d %d %d: %v", c.Epoch, c.Slot, c.Lba, again)
	}
}

// P12.3, P12.5: what is left of cells that may be, and of cells that may not.
func TestLeft(t *testing.T) {
	for _, epoch := range numbers() {
		for _, slot := range numbers() {
			for _, lba := range lbas() {
				for _, gone := range []bool{false, true} {
					for _, cipher := range []string{"", "ab", many(4000), many(4001)} {
						checkLeft(t, api.Cell{Epoch: epoch, Slot: slot, Lba: lba, Gone: gone, Cipher: cipher})
					}
				}
			}
		}
	}
	c := api.Cell{Epoch: 1, Slot: 2, Lba: 3, Cipher: "ab"}
	if cell.Left(c); c != (api.Cell{Epoch: 1, Slot: 2, Lba: 3, Cipher: "ab"}) {
		t.Errorf("Left changed what it was given: %v", c)
	}
}

// P12.5: cells whose numbers are the same have one left, whatever their data were, and its block has noughts behind them.
func TestLeftTellsNothing(t *testing.T) {
	for _, cipher := range texts() {
		if len(cipher) > 4000 {
			continue
		}
		c := api.Cell{Epoch: 0x01020304, Slot: 0x05060708, Lba: 0x090a, Cipher: cipher}
		taken, e := cell.Take(laid(c))
		block, f := cell.Put(cell.Left(taken))
		want := "\x02\x01\x02\x03\x04\x05\x06\x07\x08\x00\x00\x09\x0a" + strings.Repeat("\x00", 4083)
		if e != api.OK || f != api.OK || block != want {
			t.Errorf("what is left of %d bytes %.20x: %.40x %d %d", len(cipher), cipher, block, e, f)
		}
		if k := cell.Kind(block); k != 2 {
			t.Errorf("Kind of what is left: %d", k)
		}
	}
}

// P12.5: no bytes are both, be it that one lies in the other, or that they differ in the first byte alone.
func TestApart(t *testing.T) {
	for _, c := range right() {
		block := laid(c)
		if s, e := cell.Held(block); s != "" || e != api.ErrForm {
			t.Errorf("Held of a cell: %.20x %d", s, e)
		}
		for first := range 256 {
			checkBlock(t, string([]byte{byte(first)})+block[1:])
		}
		checkBlock(t, heldBytes(block[:4000]))
		checkBlock(t, laid(api.Cell{Cipher: block[:4000]}))
	}
	for _, s := range texts() {
		block := heldBytes(s)
		if len(block) != 4096 {
			continue
		}
		if c, e := cell.Take(block); c != (api.Cell{}) || e != api.ErrForm {
			t.Errorf("Take of a held text: %v %d", c, e)
		}
		for first := range 256 {
			checkBlock(t, string([]byte{byte(first)})+block[1:])
		}
	}
}

// P1, P2: texts as they come; what is asked twice is answered twice the same.
func TestJunk(t *testing.T) {
	r := rand.New(rand.NewSource(3))
	for range 3000 {
		b := make([]byte, 4096)
		r.Read(b[:r.Intn(1+r.Intn(4097))])
		b[0] = byte(r.Intn(5))
		if r.Intn(2) == 0 {
			// what begins right more often: small numbers, and a length that may be
			for at := 1; at < 17; at++ {
				if at%4 == 1 || at%4 == 2 {
					b[at] = 0
				}
				if at%4 == 3 {
					b[at] = byte(r.Intn(17))
				}
			}
		}
		block := string(b)
		checkBlock(t, block)
		checkBlock(t, block)
		checkBlock(t, block[:r.Intn(4096)])
	}
}

// P1: whatever is handed in, the answers are those of the chapter's words.
func FuzzCalls(f *testing.F) {
	f.Add(1, 2, 3, false, "ab", laid(api.Cell{Epoch: 1, Slot: 2, Lba: 3, Cipher: "ab"}))
	f.Add(last, last, 4095, true, "", laid(api.Cell{Epoch: last, Slot: last, Lba: 4095, Gone: true}))
	f.Add(last+1, -1, 4096, false, many(4001), heldBytes(many(4000)))
	f.Add(math.MinInt64, math.MaxInt64, -1, true, "a", heldBytes(""))
	f.Add(0, 0, 0, false, many(4000), noughts())
	f.Add(0, 0, 0, true, "\x00", "")
	f.Fuzz(func(t *testing.T, epoch, slot, lba int, gone bool, cipher, block string) {
		c := api.Cell{Epoch: epoch, Slot: slot, Lba: lba, Gone: gone, Cipher: cipher}
		checkCell(t, c)
		checkLeft(t, c)
		checkText(t, cipher)
		checkBlock(t, block)
		checkBlock(t, fill(block))
	})
}
