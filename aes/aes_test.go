package aes_test

import (
	"bytes"
	stdaes "crypto/aes"
	"encoding/hex"
	"math/bits"
	"math/rand"
	"strings"
	"testing"

	"keepsake/aes"
	"keepsake/api"
)

// text makes n bytes that are no row of one kind.
func text(n int) string {
	b := make([]byte, n)
	rand.New(rand.NewSource(int64(n))).Read(b)
	return string(b)
}

// unhex takes bytes written to the base 16, in whatever pieces.
func unhex(t *testing.T, s string) string {
	t.Helper()
	b, err := hex.DecodeString(strings.Join(strings.Fields(s), ""))
	if err != nil {
		t.Fatal(err)
	}
	return string(b)
}

// wantMul says what Mul must answer: the polynomials are multiplied as a whole, and then divided by 283.
func wantMul(a, b byte) byte {
	product := 0
	for i := range 8 {
		if b>>i&1 == 1 {
			product ^= int(a) << i
		}
	}
	for bits.Len(uint(product)) > 8 {
		product ^= 283 << (bits.Len(uint(product)) - 9)
	}
	return byte(product)
}

// wantSub says what Sub must answer: the byte whose product with b is 1 is looked for, and the bits are gathered one by one.
func wantSub(b byte) byte {
	over := byte(0)
	for c := range 256 {
		if wantMul(b, byte(c)) == 1 {
			over = byte(c)
		}
	}
	bit := func(b byte, i int) byte { return b >> (i % 8) & 1 }
	var out byte
	for i := range 8 {
		out |= (bit(over, i) ^ bit(over, i+4) ^ bit(over, i+5) ^ bit(over, i+6) ^ bit(over, i+7) ^ bit(99, i)) << i
	}
	return out
}

// wantStandIns says all of Sub at once.
func wantStandIns() []byte {
	l := make([]byte, 256)
	for b := range l {
		l[b] = wantSub(byte(b))
	}
	return l
}

// wantWords says by the chapter's words to which words a key of 16 bytes is expanded.
func wantWords(standIns []byte, key string) [][]byte {
	w := make([][]byte, 44)
	for i := range w {
		if i < 4 {
			w[i] = []byte(key[4*i : 4*i+4])
			continue
		}
		ahead := w[i-1]
		if i%4 == 0 {
			ahead = append(bytes.Clone(ahead[1:]), ahead[0])
			for j := range ahead {
				ahead[j] = standIns[ahead[j]]
			}
			power := byte(1)
			for range i/4 - 1 {
				power = wantMul(power, 2)
			}
			ahead[0] ^= power
		}
		for j := range 4 {
			w[i] = append(w[i], w[i-4][j]^ahead[j])
		}
	}
	return w
}

// wantBlock says by the chapter's words what a block becomes: columns and rows are told apart by two numbers.
func wantBlock(standIns []byte, key, block string) string {
	w := wantWords(standIns, key)
	var s [4][4]byte // columns of rows
	add := func(round int) {
		for c := range 4 {
			for r := range 4 {
				s[c][r] ^= w[4*round+c][r]
			}
		}
	}
	for i := range 16 {
		s[i/4][i%4] = block[i]
	}
	add(0)
	for round := 1; round <= 10; round++ {
		was := s
		for c := range 4 {
			for r := range 4 {
				s[c][r] = standIns[was[(c+r)%4][r]]
			}
		}
		for i, x := range s {
			if round == 10 {
				break
			}
			a, b, c, d := x[0], x[1], x[2], x[3]
			two, three := func(x byte) byte { return wantMul(x, 2) }, func(x byte) byte { return wantMul(x, 3) }
			s[i] = [4]byte{two(a) ^ three(b) ^ c ^ d, a ^ two(b) ^ three(c) ^ d, a ^ b ^ two(c) ^ three(d), three(a) ^ b ^ c ^ two(d)}
		}
		add(round)
	}
	var out []byte
	for _, column := range s {
		out = append(out, column[:]...)
	}
	return string(out)
}

// library tells what the library's cipher makes of a block, forth and back.
func library(t *testing.T, key, block string) (string, string) {
	t.Helper()
	c, err := stdaes.NewCipher([]byte(key))
	if err != nil {
		t.Fatal(err)
	}
	forth, back := make([]byte, 16), make([]byte, 16)
	c.Encrypt(forth, []byte(block))
	c.Decrypt(back, []byte(block))
	return string(forth), string(back)
}

// blocks are texts of 16 bytes: each bit alone, each place alone, rows of one kind, and others.
func blocks() []string {
	var l []string
	for b := range 256 {
		l = append(l, strings.Repeat(string([]byte{byte(b)}), 16))
	}
	for bit := range 128 {
		b := make([]byte, 16)
		b[bit/8] = 1 << (bit % 8)
		l = append(l, string(b))
	}
	for at := range 16 {
		b := bytes.Repeat([]byte{255}, 16)
		b[at] = 0
		l = append(l, string(b))
	}
	many := text(16 * 200)
	for i := range 200 {
		l = append(l, many[16*i:16*i+16])
	}
	return l
}

// keys are a few of the blocks, for what is tried with each block.
func keys() []string {
	return []string{
		strings.Repeat("\x00", 16), strings.Repeat("\xff", 16),
		"\x00\x01\x02\x03\x04\x05\x06\x07\x08\x09\x0a\x0b\x0c\x0d\x0e\x0f",
		"\x0f\x0e\x0d\x0c\x0b\x0a\x09\x08\x07\x06\x05\x04\x03\x02\x01\x00",
		strings.Repeat("\x00", 15) + "\x01", "\x80" + strings.Repeat("\x00", 15), text(16),
	}
}

// sizes are lengths of texts, of which just one is a key's and a block's.
func sizes() []int { return []int{0, 1, 8, 15, 16, 17, 24, 31, 32, 33, 64, 176, 4096} }

// The stand-ins as they stand in FIPS 197.
const printed = `
63 7c 77 7b f2 6b 6f c5 30 01 67 2b fe d7 ab 76 ca 82 c9 7d fa 59 47 f0 ad d4 a2 af 9c a4 72 c0
b7 fd 93 26 36 3f f7 cc 34 a5 e5 f1 71 d8 31 15 04 c7 23 c3 18 96 05 9a 07 12 80 e2 eb 27 b2 75
09 83 2c 1a 1b 6e 5a a0 52 3b d6 b3 29 e3 2f 84 53 d1 00 ed 20 fc b1 5b 6a cb be 39 4a 4c 58 cf
d0 ef aa fb 43 4d 33 85 45 f9 02 7f 50 3c 9f a8 51 a3 40 8f 92 9d 38 f5 bc b6 da 21 10 ff f3 d2
cd 0c 13 ec 5f 97 44 17 c4 a7 7e 3d 64 5d 19 73 60 81 4f dc 22 2a 90 88 46 ee b8 14 de 5e 0b db
e0 32 3a 0a 49 06 24 5c c2 d3 ac 62 91 95 e4 79 e7 c8 37 6d 8d d5 4e a9 6c 56 f4 ea 65 7a ae 08
ba 78 25 2e 1c a6 b4 c6 e8 dd 74 1f 4b bd 8b 8a 70 3e b5 66 48 03 f6 0e 61 35 57 b9 86 c1 1d 9e
e1 f8 98 11 69 d9 8e 94 9b 1e 87 e9 ce 55 28 df 8c a1 89 0d bf e6 42 68 41 99 2d 0f b0 54 bb 16`

func TestMulByHand(t *testing.T) {
	for _, c := range []struct{ a, b, product byte }{
		{0x57, 0x83, 0xc1}, {0x57, 0x13, 0xfe}, {0x57, 0x02, 0xae}, {0x57, 0x04, 0x47}, {0x57, 0x08, 0x8e}, {0x57, 0x10, 0x07},
		{0, 0, 0}, {0, 255, 0}, {255, 0, 0}, {1, 1, 1}, {1, 255, 255}, {255, 1, 255},
		{0x80, 2, 0x1b}, {2, 0x80, 0x1b}, {0x80, 0x80, 0x9a}, {0x53, 0xca, 1}, {3, 0xf6, 1}, {255, 255, 0x13},
	} {
		if got := aes.Mul(c.a, c.b); got != c.product {
			t.Errorf("Mul(%#x, %#x): %#x, asked %#x", c.a, c.b, got, c.product)
		}
	}
}

func TestMul(t *testing.T) {
	for a := range 256 {
		for b := range 256 {
			if got, w := aes.Mul(byte(a), byte(b)), wantMul(byte(a), byte(b)); got != w {
				t.Errorf("Mul(%#x, %#x): %#x, asked %#x", a, b, got, w)
			}
		}
	}
}

func TestSub(t *testing.T) {
	all := unhex(t, printed)
	if len(all) != 256 {
		t.Fatal(len(all))
	}
	for b := range 256 {
		got := aes.Sub(byte(b))
		if w := wantSub(byte(b)); got != w || got != all[b] {
			t.Errorf("Sub(%#x): %#x, asked %#x, printed %#x", b, got, w, all[b])
		}
	}
}

// Each byte is the stand-in of just one, and Back tells it.
func TestBack(t *testing.T) {
	all := unhex(t, printed)
	for b := range 256 {
		if w := strings.IndexByte(all, byte(b)); int(aes.Back(byte(b))) != w {
			t.Errorf("Back(%#x): %#x, asked %#x", b, aes.Back(byte(b)), w)
		}
		if got := aes.Back(aes.Sub(byte(b))); got != byte(b) {
			t.Errorf("Back(Sub(%#x)): %#x", b, got)
		}
		if got := aes.Sub(aes.Back(byte(b))); got != byte(b) {
			t.Errorf("Sub(Back(%#x)): %#x", b, got)
		}
	}
}

// Products may be turned about, parted and put together; of times 1 and times 0 is what it is of numbers.
func TestProducts(t *testing.T) {
	var mul [256][256]byte
	for a := range 256 {
		for b := range 256 {
			mul[a][b] = aes.Mul(byte(a), byte(b))
		}
	}
	for a := range 256 {
		if mul[a][1] != byte(a) || mul[1][a] != byte(a) || mul[a][0] != 0 || mul[0][a] != 0 {
			t.Errorf("%#x times 1 and times 0: %#x %#x %#x %#x", a, mul[a][1], mul[1][a], mul[a][0], mul[0][a])
		}
		for b := range 256 {
			if mul[a][b] != mul[b][a] {
				t.Errorf("%#x times %#x turned about: %#x, %#x", a, b, mul[a][b], mul[b][a])
			}
			for c := range 256 {
				if mul[mul[a][b]][c] != mul[a][mul[b][c]] {
					t.Fatalf("%#x, %#x, %#x put together: %#x, %#x", a, b, c, mul[mul[a][b]][c], mul[a][mul[b][c]])
				}
				if mul[a][b^c] != mul[a][b]^mul[a][c] || mul[b^c][a] != mul[b][a]^mul[c][a] {
					t.Fatalf("%#x times %#x and %#x, parted: %#x, %#x", a, b, c, mul[a][b^c], mul[a][b]^mul[a][c])
				}
			}
		}
	}
}

// Of each byte but 0 there is just one with which its product is 1, and of 0 none; no product is 0 but of 0.
func TestOver(t *testing.T) {
	for a := range 256 {
		ones, noughts := 0, 0
		for b := range 256 {
			switch aes.Mul(byte(a), byte(b)) {
			case 0:
				noughts++
			case 1:
				ones++
			}
		}
		if a == 0 && (ones != 0 || noughts != 256) || a != 0 && (ones != 1 || noughts != 1) {
			t.Errorf("%#x: %d products are 1, %d are 0", a, ones, noughts)
		}
	}
}

// Expanded keys as they stand in FIPS 197, and some that are widely told.
func TestExpandByHand(t *testing.T) {
	for _, c := range []struct{ key, words string }{
		{"2b7e151628aed2a6abf7158809cf4f3c", `
			2b7e1516 28aed2a6 abf71588 09cf4f3c a0fafe17 88542cb1 23a33939 2a6c7605
			f2c295f2 7a96b943 5935807a 7359f67f 3d80477d 4716fe3e 1e237e44 6d7a883b
			ef44a541 a8525b7f b671253b db0bad00 d4d1c6f8 7c839d87 caf2b8bc 11f915bc
			6d88a37a 110b3efd dbf98641 ca0093fd 4e54f70e 5f5fc9f3 84a64fb2 4ea6dc4f
			ead27321 b58dbad2 312bf560 7f8d292f ac7766f3 19fadc21 28d12941 575c006e
			d014f9a8 c9ee2589 e13f0cc8 b6630ca6`},
		{"000102030405060708090a0b0c0d0e0f", `
			00010203 04050607 08090a0b 0c0d0e0f d6aa74fd d2af72fa daa678f1 d6ab76fe
			b692cf0b 643dbdf1 be9bc500 6830b3fe b6ff744e d2c2c9bf 6c590cbf 0469bf41
			47f7f7bc 95353e03 f96c32bc fd058dfd 3caaa3e8 a99f9deb 50f3af57 adf622aa
			5e390f7d f7a69296 a7553dc1 0aa31f6b 14f9701a e35fe28c 440adf4d 4ea9c026
			47438735 a41c65b9 e016baf4 aebf7ad2 549932d1 f0855768 1093ed9c be2c974e
			13111d7f e3944a17 f307a78b 4d2b30c5`},
		{"00000000000000000000000000000000", `
			00000000 00000000 00000000 00000000 62636363 62636363 62636363 62636363
			9b9898c9 f9fbfbaa 9b9898c9 f9fbfbaa 90973450 696ccffa f2f45733 0b0fac99
			ee06da7b 876a1581 759e42b2 7e91ee2b 7f2e2b88 f8443e09 8dda7cbb f34b9290
			ec614b85 1425758c 99ff0937 6ab49ba7 21751787 3550620b acaf6b3c c61bf09b
			0ef90333 3ba96138 97060a04 511dfa9f b1d4d8e2 8a7db9da 1d7bb3de 4c664941
			b4ef5bcb 3e92e211 23e951cf 6f8f188e`},
	} {
		got, e := aes.Expand(unhex(t, c.key))
		if w := unhex(t, c.words); got != w || len(got) != 176 || e != api.OK {
			t.Errorf("Expand(%s): %x %d, asked %x", c.key, got, e, w)
		}
	}
}

func TestExpand(t *testing.T) {
	standIns := wantStandIns()
	for _, key := range blocks() {
		got, e := aes.Expand(key)
		if w := string(bytes.Join(wantWords(standIns, key), nil)); got != w || e != api.OK {
			t.Errorf("Expand(%x): %x %d, asked %x", key, got, e, w)
		}
	}
	for _, n := range sizes() {
		got, e := aes.Expand(text(n))
		if n != 16 && (got != "" || e != api.ErrArg) || n == 16 && (len(got) != 176 || e != api.OK) {
			t.Errorf("Expand of %d bytes: %x %d", n, got, e)
		}
	}
}

// The chapter's example, and encrypted blocks as they stand in FIPS 197 and in SP 800-38A.
func TestBlocksByHand(t *testing.T) {
	for _, c := range []struct{ key, block, encrypted string }{
		{"000102030405060708090a0b0c0d0e0f", "00112233445566778899aabbccddeeff", "69c4e0d8 6a7b0430 d8cdb780 70b4c55a"},
		{"2b7e151628aed2a6abf7158809cf4f3c", "3243f6a8885a308d313198a2e0370734", "3925841d02dc09fbdc118597196a0b32"},
		{"2b7e151628aed2a6abf7158809cf4f3c", "6bc1bee22e409f96e93d7e117393172a", "3ad77bb40d7a3660a89ecaf32466ef97"},
		{"2b7e151628aed2a6abf7158809cf4f3c", "ae2d8a571e03ac9c9eb76fac45af8e51", "f5d3d58503b9699de785895a96fdbaaf"},
		{"2b7e151628aed2a6abf7158809cf4f3c", "30c81c46a35ce411e5fbc1191a0a52ef", "43b1cd7f598ece23881b00e3ed030688"},
		{"2b7e151628aed2a6abf7158809cf4f3c", "f69f2445df4f9b17ad2b417be66c3710", "7b0c785e27e8ad3f8223207104725dd4"},
		{"00000000000000000000000000000000", "00000000000000000000000000000000", "66e94bd4ef8a2c3b884cfa59ca342b2e"},
		{"00000000000000000000000000000000", "f34481ec3cc627bacd5dc3fb08f273e6", "0336763e966d92595a567cc9ce537f5e"},
		{"10a58869d74be5a374cf867cfb473859", "00000000000000000000000000000000", "6d251e6944b051e04eaa6fb4dbf78465"},
	} {
		key, block, encrypted := unhex(t, c.key), unhex(t, c.block), unhex(t, c.encrypted)
		if got, e := aes.Encrypt(key, block); got != encrypted || e != api.OK {
			t.Errorf("Encrypt(%s, %s): %x %d, asked %s", c.key, c.block, got, e, c.encrypted)
		}
		if got, e := aes.Decrypt(key, encrypted); got != block || e != api.OK {
			t.Errorf("Decrypt(%s, %s): %x %d, asked %s", c.key, c.encrypted, got, e, c.block)
		}
	}
}

// Blocks under keys are as the library's, and as the chapter's words say; and each leads back, from both sides.
func TestBlocks(t *testing.T) {
	standIns := wantStandIns()
	l := blocks()
	for i, block := range l {
		for _, key := range append(keys(), l[(7*i+3)%len(l)]) {
			forth, back := library(t, key, block)
			if w := wantBlock(standIns, key, block); w != forth {
				t.Fatalf("the words say of %x under %x: %x, the library %x", block, key, w, forth)
			}
			got, e := aes.Encrypt(key, block)
			if got != forth || e != api.OK {
				t.Errorf("Encrypt(%x, %x): %x %d, asked %x", key, block, got, e, forth)
			}
			if again, e := aes.Decrypt(key, got); again != block || e != api.OK {
				t.Errorf("Decrypt(%x, Encrypt(%x)): %x %d", key, block, again, e)
			}
			got, e = aes.Decrypt(key, block)
			if got != back || e != api.OK {
				t.Errorf("Decrypt(%x, %x): %x %d, asked %x", key, block, got, e, back)
			}
			if again, e := aes.Encrypt(key, got); again != block || e != api.OK {
				t.Errorf("Encrypt(%x, Decrypt(%x)): %x %d", key, block, again, e)
			}
		}
	}
}

// A block that is encrypted over and over, each time under a key that hangs on the last one, is as the library's.
func TestOverAndOver(t *testing.T) {
	key, block := text(16), text(32)[16:]
	for range 5000 {
		forth, _ := library(t, key, block)
		got, e := aes.Encrypt(key, block)
		if got != forth || e != api.OK {
			t.Fatalf("Encrypt(%x, %x): %x %d, asked %x", key, block, got, e, forth)
		}
		key, block = block, got
	}
}

// Keys and blocks of wrong sizes, alone and both at once.
func TestSizes(t *testing.T) {
	for _, n := range sizes() {
		key := text(n)
		c, e := aes.New(key)
		if n != 16 && (c != nil || e != api.ErrArg) || n == 16 && (c == nil || e != api.OK) {
			t.Errorf("New of %d bytes: %v %d", n, c != nil, e)
		}
		for _, m := range sizes() {
			block, w, back := text(m), "", ""
			f := api.ErrArg
			if n == 16 && m == 16 {
				w, back = library(t, key, block)
				f = api.OK
			}
			if got, e := aes.Encrypt(key, block); got != w || e != f {
				t.Errorf("Encrypt of a key of %d bytes, a block of %d: %x %d, asked %x %d", n, m, got, e, w, f)
			}
			if got, e := aes.Decrypt(key, block); got != back || e != f {
				t.Errorf("Decrypt of a key of %d bytes, a block of %d: %x %d, asked %x %d", n, m, got, e, back, f)
			}
			if n != 16 {
				continue
			}
			if got, e := c.Encrypt(block); got != w || e != f {
				t.Errorf("a cipher's Encrypt of %d bytes: %x %d, asked %x %d", m, got, e, w, f)
			}
		}
	}
}

// A cipher's Encrypt is that under its key: asked twice, after refusals, and beside other ciphers.
func TestCipher(t *testing.T) {
	var ciphers []*aes.Cipher
	for _, key := range keys() {
		c, e := aes.New(key)
		if c == nil || e != api.OK {
			t.Fatalf("New(%x): %v %d", key, c != nil, e)
		}
		ciphers = append(ciphers, c)
	}
	for _, block := range blocks() {
		for i, key := range keys() {
			w, e := aes.Encrypt(key, block)
			if e != api.OK {
				t.Fatal(e)
			}
			for _, wrong := range []string{"", block[1:], block + "\x00", block + block} {
				if got, e := ciphers[i].Encrypt(wrong); got != "" || e != api.ErrArg {
					t.Errorf("Encrypt of %d bytes: %x %d", len(wrong), got, e)
				}
				for range 2 {
					if got, e := ciphers[i].Encrypt(block); got != w || e != api.OK {
						t.Fatalf("a cipher under %x of %x: %x %d, asked %x", key, block, got, e, w)
					}
				}
			}
		}
	}
}

// Two ciphers under one key are each its own, and a cipher stays as it is whatever other calls there are.
func TestCiphersApart(t *testing.T) {
	key, block := text(16), text(32)[:16]
	a, _ := aes.New(key)
	b, _ := aes.New(key)
	if a == b {
		t.Error("one cipher, handed out twice")
	}
	w, _ := aes.Encrypt(key, block)
	words, _ := aes.Expand(key)
	for _, other := range keys() {
		aes.New(other)
		aes.New(other[1:])
		aes.Expand(other)
		aes.Encrypt(other, block)
		aes.Encrypt(other, "")
		aes.Decrypt(other, block)
		aes.Decrypt("", block)
		b.Encrypt(other)
		aes.Sub(other[0])
		aes.Back(other[0])
		if got, e := a.Encrypt(block); got != w || e != api.OK {
			t.Fatalf("a cipher tells something else: %x %d, asked %x", got, e, w)
		}
		got, e := aes.Encrypt(key, block)
		again, f := aes.Expand(key)
		if got != w || e != api.OK || again != words || f != api.OK {
			t.Fatal("told again, it is something else")
		}
	}
}

// Of nil, and of a cipher that no call made, ErrNil is told, whatever the block.
func TestNoCipher(t *testing.T) {
	var none *aes.Cipher
	var made aes.Cipher
	for _, n := range sizes() {
		for i, c := range []*aes.Cipher{nil, none, {}, new(aes.Cipher), &made} {
			if got, e := c.Encrypt(text(n)); got != "" || e != api.ErrNil {
				t.Errorf("Encrypt of no cipher (%d), %d bytes: %x %d", i, n, got, e)
			}
		}
	}
	if made != (aes.Cipher{}) {
		t.Error("what no call made has changed")
	}
}

// No call panics, and all of it is as the library's, at whatever bytes.
func FuzzCalls(f *testing.F) {
	for _, n := range sizes() {
		for _, m := range []int{0, 15, 16, 17, 32} {
			f.Add(text(n), text(m))
		}
	}
	f.Fuzz(func(t *testing.T, key, block string) {
		c, e := aes.New(key)
		words, g := aes.Expand(key)
		wrong := api.OK
		if len(key) != 16 {
			wrong = api.ErrArg
		}
		if e != wrong || g != wrong || (c == nil) != (e != api.OK) || (words == "") != (e != api.OK) {
			t.Errorf("New, Expand(%x): %v %x %d %d", key, c != nil, words, e, g)
		}
		forth, back := "", ""
		if len(block) != 16 {
			wrong = api.ErrArg
		}
		if wrong == api.OK {
			forth, back = library(t, key, block)
		}
		if got, e := aes.Encrypt(key, block); got != forth || e != wrong {
			t.Errorf("Encrypt(%x, %x): %x %d", key, block, got, e)
		}
		if got, e := aes.Decrypt(key, block); got != back || e != wrong {
			t.Errorf("Decrypt(%x, %x): %x %d", key, block, got, e)
		}
		if c == nil {
			wrong = api.ErrNil
		}
		if got, e := c.Encrypt(block); got != forth || e != wrong {
			t.Errorf("a cipher under %x of %x: %x %d", key, block, got, e)
		}
	})
}
