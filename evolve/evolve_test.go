package evolve_test

import (
	"encoding/hex"
	"math"
	"math/rand"
	"slices"
	"strings"
	"sync"
	"testing"

	"keepsake/api"
	"keepsake/derive"
	"keepsake/evolve"
	"keepsake/hmac"
)

const (
	least = math.MinInt64
	most  = math.MaxInt64
	low   = "\x00\x01\x02\x03\x04\x05\x06\x07\x08\x09\x0a\x0b\x0c\x0d\x0e\x0f\x10\x11\x12\x13\x14\x15\x16\x17\x18\x19\x1a\x1b\x1c\x1d\x1e\x1f"
)

// noughts and ones are keys of one byte alone.
var (
	noughts = strings.Repeat("\x00", 32)
	ones    = strings.Repeat("\xff", 32)
)

// text makes n bytes that are no row of one kind.
func text(n int) string {
	b := make([]byte, n)
	rand.New(rand.NewSource(int64(n) + 18)).Read(b)
	return string(b)
}

// keys are ones that may be: their bytes are any, and counted as bytes, not as runes.
func keys() []string {
	return []string{low, noughts, ones, text(32), "passwordpasswordpasswordpassword", strings.Repeat("\xc3\xa9", 16), noughts[1:] + "\x01", "\x01" + noughts[1:], text(64)[:32], text(64)[32:]}
}

// wrong are ones that may not be: shorter, longer, and what has one block, or 32 runes, with one that may be.
func wrong() []string {
	l := []string{"\x00", "\xff", low[:31], low[1:], low + "\x00", "\x00" + low, low + low, noughts[:16], noughts[:31], noughts + "\x00", noughts + noughts, strings.Repeat("\xc3\xa9", 32), strings.Repeat("a", 1<<20)}
	for _, n := range []int{0, 1, 2, 15, 16, 17, 30, 31, 33, 34, 63, 64, 65, 96, 128, 256, 288, 4096} {
		l = append(l, text(n))
	}
	return l
}

func anyKeys() []string { return append(keys(), wrong()...) }

// purposes are those that have no number.
func purposes() map[string]func(string) (string, api.Errno) {
	return map[string]func(string) (string, api.Errno){"next": evolve.Next, "mac": evolve.Mac, "ask": evolve.Ask, "data": evolve.Data}
}

// edges are the numbers at which an epoch begins, or ends, to be one.
func edges() []int {
	return []int{least, least + 1, -1 << 32, -4097, -4096, -2, -1, 0, 1, 2, 3, 255, 256, 4095, 4096, 4097, 4098, 1 << 16, 1<<31 - 1, 1 << 31,
		lastEpoch - 4098, lastEpoch - 4097, lastEpoch - 4096, lastEpoch - 4095, lastEpoch - 2, lastEpoch - 1, lastEpoch, lastEpoch + 1, lastEpoch + 2, lastEpoch + 4096, 1 << 33, 1 << 40, most - 4096, most - 1, most}
}

// at holds At against the chapter's words, and what it must say by itself.
func at(t *testing.T, root string, first, epoch int) {
	t.Helper()
	w, f := wantAt(root, first, epoch)
	if key, e := evolve.At(root, first, epoch); key != w || e != f {
		t.Errorf("At(%x, %d, %d): %x %d, asked %x %d", root[:min(len(root), 70)], first, epoch, key, e, w, f)
	}
}

// P18.1: keys that were worked out by other means than these tests'.
func TestMadeByHand(t *testing.T) {
	for _, c := range []struct {
		name, of, made string
	}{
		{"next", low, "0abc4507a6dc1771a3e539299739429d0a4e1c931b83790538ce305403c4f0bb"},
		{"mac", low, "81e9e9b483d1b18f4366cf8cedd26974df0cb321db3445fe4ff13a53be833a09"},
		{"ask", low, "4d19145707ab27db014a37cd90ebb8cebfe0f65b3af29f6933149402e78fbbe1"},
		{"data", low, "a04fdf1327d0396034e464a965407655"},
		{"next", noughts, "5744d0b8e5fcf503599130296c444ecada3b328e76c6cd8f6fdd0eb8c8608516"},
		{"mac", noughts, "53c9193a2b3ea7da9c361d066abe618b1de8959e372f5bd5da010ef0003e2edc"},
		{"ask", noughts, "f89249111521e93e6ee7397216b153c97543c74fff097c548ad964f1609b680f"},
		{"data", noughts, "94b50be264db4703251e2a1be8693ead"},
		{"next", ones, "2db1a9c35ebb141b7110c152aacb5a099142ef9d5a22ce7155340d28eb80bd3d"},
		{"mac", ones, "cc910cc9c3c25a427e85f5fa96675334edb8805fce8799dd920dedb27867d973"},
		{"ask", ones, "9fa8d4dbe9b03f801f8b660ebb40e0a73a44bc4a23179ce20f0c26662b8b677e"},
		{"data", ones, "77d599dc6488abfb6c3306cbd0eed47b"},
	} {
		made, e := purposes()[c.name](c.of)
		if got := hex.EncodeToString([]byte(made)); got != c.made || e != api.OK {
			t.Errorf("%s of %x: %s %d, asked %s", c.name, c.of, got, e, c.made)
		}
	}
}

// P18.1: likewise of firsts.
func TestFirstByHand(t *testing.T) {
	for _, c := range []struct {
		root  string
		first int
		key   string
		e     api.Errno
	}{
		{low, 0, "49c1bb634c84bcf125fcc45434a8de6e03136bb9f6be6b866ca368871cf5fd6a", api.OK},
		{low, 5, "e0c148e5a1032771d9c002369c50773f0bcb232a7e72710c809773c0c8467a9a", api.OK},
		{low, 6, "344d0d8cdc6e4dd309a94e922ec938a1bbaf8f72094b8da27aefe6d774bb3db8", api.OK},
		{low, lastEpoch, "dc3174bb9f21c58de24c33d191dff438d5414a36ba105bbbfbf88622252ffb73", api.OK},
		{noughts, 0, "9ce09300687195cdf964e81be9fb1821338df332901001aa66fbb2ab0ca4609b", api.OK},
		{noughts, 5, "57432a386833f66db0efd8dc4f2c594a4941b9fbdb8c9766c213591749181c99", api.OK},
		{ones, 6, "42142650821611aebbcc12020202ce8ad23f8e6b04bf47656e26bd92577b855e", api.OK},
		{ones, lastEpoch, "3616a8ce224308299e11b454eb59d8dc5b4cbcb89bbbf13a9c21b746136110c2", api.OK},
		{low, -1, "", api.ErrArg},
		{low, least, "", api.ErrArg},
		{low, lastEpoch + 1, "", api.ErrArg},
		{low, most, "", api.ErrArg},
		{"", 0, "", api.ErrArg},
		{low[:31], 5, "", api.ErrArg},
		{low + "\x00", 5, "", api.ErrArg},
		{low + low, lastEpoch, "", api.ErrArg},
		{"", -1, "", api.ErrArg},
		{low + "\x00", lastEpoch + 1, "", api.ErrArg},
	} {
		key, e := evolve.First(c.root, c.first)
		if got := hex.EncodeToString([]byte(key)); got != c.key || e != c.e {
			t.Errorf("First(%x, %d): %s %d, asked %s %d", c.root, c.first, got, e, c.key, c.e)
		}
	}
}

// P18.2: likewise of epochs.
func TestAtByHand(t *testing.T) {
	for _, c := range []struct {
		first, epoch int
		key          string
		e            api.Errno
	}{
		{0, 0, "49c1bb634c84bcf125fcc45434a8de6e03136bb9f6be6b866ca368871cf5fd6a", api.OK},
		{5, 5, "e0c148e5a1032771d9c002369c50773f0bcb232a7e72710c809773c0c8467a9a", api.OK},
		{5, 6, "59833ba47b271138c1148f98aca48825e0df044f2c8279ae81ccd10b886bc77f", api.OK},
		{5, 7, "999dc712e029a34dc603e1e5a592e778d67584321ec447e01bb07f3703c63730", api.OK},
		{6, 6, "344d0d8cdc6e4dd309a94e922ec938a1bbaf8f72094b8da27aefe6d774bb3db8", api.OK},
		{0, 1, "3546360e5357afd3804e5d614a6a31c875acd65f64009f3ba79c8678eb716560", api.OK},
		{0, 4095, "b8b689cb6a5b8101777d22c29ca695c36bff30b59f61e161565e5d6677781f0d", api.OK},
		{0, 4096, "4f22b00b46a74a2b86222e4e71a4e69b17276aba679bdb8387f5c521687670e2", api.OK},
		{5, 4101, "036620922f4fb9009d160b33f89f5d47f467185331a6ca6fd36febb059607c26", api.OK},
		{lastEpoch, lastEpoch, "dc3174bb9f21c58de24c33d191dff438d5414a36ba105bbbfbf88622252ffb73", api.OK},
		{lastEpoch - 1, lastEpoch, "1caa0450417b2cf79729c0f9c261b5ddf9780ec0b71f7eeb545da1482c2b36ed", api.OK},
		{lastEpoch - 4096, lastEpoch, "e12847bf9f6f720ae2c71d96ea5002f7dee936fbb057c98306624f7c996763a6", api.OK},
		{lastEpoch - 4096, lastEpoch - 1, "351655cbae84e584776d3a818001f0a9bea51f63e876bb0d473cbe75b46a4e9d", api.OK},
		{0, 4097, "", api.ErrLimit},
		{5, 4102, "", api.ErrLimit},
		{0, 1 << 31, "", api.ErrLimit},
		{0, lastEpoch, "", api.ErrLimit},
		{lastEpoch - 4097, lastEpoch, "", api.ErrLimit},
		{5, 4, "", api.ErrArg},
		{5, 0, "", api.ErrArg},
		{4097, 0, "", api.ErrArg},
		{lastEpoch, lastEpoch - 1, "", api.ErrArg},
		{lastEpoch, 0, "", api.ErrArg},
		{0, -1, "", api.ErrArg},
		{-1, -1, "", api.ErrArg},
		{-1, 0, "", api.ErrArg},
		{-1, 4095, "", api.ErrArg},
		{-1, 4096, "", api.ErrArg},
		{least, least, "", api.ErrArg},
		{least, most, "", api.ErrArg},
		{most, least, "", api.ErrArg},
		{most, most, "", api.ErrArg},
		{least, 0, "", api.ErrArg},
		{0, least, "", api.ErrArg},
		{0, most, "", api.ErrArg},
		{most, 0, "", api.ErrArg},
		// what may not be stands ahead of what is too far
		{0, lastEpoch + 1, "", api.ErrArg},
		{lastEpoch, lastEpoch + 1, "", api.ErrArg},
		{lastEpoch - 4096, lastEpoch + 1, "", api.ErrArg},
		{lastEpoch + 1, lastEpoch + 1, "", api.ErrArg},
		{lastEpoch + 1, lastEpoch, "", api.ErrArg},
		{lastEpoch + 1, lastEpoch + 2, "", api.ErrArg},
	} {
		key, e := evolve.At(low, c.first, c.epoch)
		if got := hex.EncodeToString([]byte(key)); got != c.key || e != c.e {
			t.Errorf("At(low, %d, %d): %s %d, asked %s %d", c.first, c.epoch, got, e, c.key, c.e)
		}
		// a root that may not be is told ahead of all else
		for _, root := range []string{"", low[:31], low + "\x00"} {
			if key, e := evolve.At(root, c.first, c.epoch); key != "" || e != api.ErrArg {
				t.Errorf("At(%x, %d, %d): %x %d, asked ErrArg", root, c.first, c.epoch, key, e)
			}
		}
	}
}

// P18.2: the chapter's example, with each root.
func TestExample(t *testing.T) {
	for _, root := range keys() {
		first, e := evolve.First(root, 5)
		five, f := evolve.At(root, 5, 5)
		if five != first || len(five) != 32 || e != api.OK || f != api.OK {
			t.Errorf("At(%x, 5, 5): %x %d, First: %x %d", root, five, f, first, e)
		}
		next, e := evolve.Next(five)
		six, f := evolve.At(root, 5, 6)
		if six != next || len(six) != 32 || six == five || e != api.OK || f != api.OK {
			t.Errorf("At(%x, 5, 6): %x %d, Next: %x %d", root, six, f, next, e)
		}
	}
}

// P18.1: First with each root and each number.
func TestFirst(t *testing.T) {
	for _, root := range anyKeys() {
		for _, first := range edges() {
			w, f := wantFirst(root, first)
			if key, e := evolve.First(root, first); key != w || e != f {
				t.Errorf("First(%x, %d): %x %d, asked %x %d", root[:min(len(root), 70)], first, key, e, w, f)
			}
		}
	}
}

// P18.1: Next, Mac, Ask and Data of each key.
func TestMade(t *testing.T) {
	for name, call := range purposes() {
		for _, key := range anyKeys() {
			w, f := want(name, key)
			if made, e := call(key); made != w || e != f {
				t.Errorf("%s of %x: %x %d, asked %x %d", name, key[:min(len(key), 70)], made, e, w, f)
			}
		}
	}
}

// P18.1: they are derive's, and hang on it alone.
func TestOfDerive(t *testing.T) {
	for _, key := range keys() {
		for name, call := range purposes() {
			w, _ := derive.Key(key, name)
			if name == "data" {
				w, _ = derive.Long(key, name, 16)
			}
			if made, e := call(key); made != w || e != api.OK {
				t.Errorf("%s of %x: %x %d, derive's is %x", name, key, made, e, w)
			}
		}
		for _, first := range []int{0, 1, 5, lastEpoch - 1, lastEpoch} {
			w, _ := derive.Key(key, "seal", first)
			if made, e := evolve.First(key, first); made != w || e != api.OK {
				t.Errorf("First(%x, %d): %x %d, derive's is %x", key, first, made, e, w)
			}
		}
	}
}

// P18.1, P18.2: lengths of all kinds, of which 32 alone may be.
func TestLengths(t *testing.T) {
	for n := range 300 {
		for _, s := range []string{text(n), strings.Repeat("\x00", n), strings.Repeat("\xff", n), strings.Repeat("k", n)} {
			var l []api.Errno
			tell := func(made string, e api.Errno) {
				if l = append(l, e); (e == api.OK) != (made != "") {
					t.Errorf("of %d bytes: %x %d", n, made, e)
				}
			}
			tell(evolve.First(s, 7))
			tell(evolve.Next(s))
			tell(evolve.Mac(s))
			tell(evolve.Ask(s))
			tell(evolve.Data(s))
			tell(evolve.At(s, 7, 7))
			tell(evolve.At(s, 7, 8))
			w := api.ErrArg
			if n == 32 {
				w = api.OK
			}
			if !slices.Equal(l, slices.Repeat([]api.Errno{w}, 7)) {
				t.Errorf("of %d bytes: %v, asked %d", n, l, w)
			}
		}
	}
}

// P18.2: At with each number of the edges as first, and each as epoch, with roots that may be and that may not.
func TestAtEdges(t *testing.T) {
	for _, root := range []string{low, text(32), "", "r", low[:16], low[:31], low + "\x00", low + low, low + low + "\x00", text(4096)} {
		for _, first := range edges() {
			for _, epoch := range edges() {
				at(t, root, first, epoch)
			}
		}
	}
}

// P18.2: At with epochs less than first, first itself, and so far beyond.
func TestAtBeyond(t *testing.T) {
	roots := []string{low, "", text(1), text(16), text(31), text(33), text(64), text(65), text(4096)}
	for _, root := range roots {
		for _, first := range edges() {
			for _, by := range []int{least, -lastEpoch, -4097, -4096, -2, -1, 0, 1, 2, 3, 4095, 4096, 4097, 4098, 8192, 1 << 16, 1 << 32, most} {
				// where this goes beyond the numbers it is another one of the least or the greatest
				at(t, root, first, first+by)
			}
		}
	}
}

// P18.2: near the last epoch, from each first near it.
func TestAtLast(t *testing.T) {
	for i := range 12 {
		for j := range 16 {
			at(t, low, lastEpoch+2-i, lastEpoch+4-j)
		}
	}
	for by := range 6 {
		for _, epoch := range []int{lastEpoch - 1, lastEpoch, lastEpoch + 1} {
			at(t, low, lastEpoch-4099+by, epoch)
		}
	}
}

// P18.3: from a first on the key at each epoch is Next of the one ahead, all the way, and one farther none.
func TestOneByOne(t *testing.T) {
	const first, parts = 1000, 8
	row := make([]string, mostOn+1)
	row[0], _ = wantFirst(low, first)
	for i := range mostOn {
		next, e := evolve.Next(row[i])
		if w := library(row[i], message("next")); next != w || e != api.OK {
			t.Fatalf("Next of the key at %d: %x %d, asked %x", first+i, next, e, w)
		}
		row[i+1] = next
	}
	// each takes as long as it is far, so that on the way some are left out
	asked := func(i int) bool { return i < 300 || i%7 == 0 || i > 4000 }
	var workers sync.WaitGroup
	for part := range parts {
		workers.Go(func() {
			for i := part; i < len(row); i += parts {
				if !asked(i) {
					continue
				}
				if key, e := evolve.At(low, first, first+i); key != row[i] || e != api.OK {
					t.Errorf("At(low, %d, %d): %x %d, asked %x", first, first+i, key, e, row[i])
				}
			}
		})
	}
	workers.Wait()
	if key, e := evolve.At(low, first, first+len(row)); key != "" || e != api.ErrLimit {
		t.Errorf("one too far: %x %d", key, e)
	}
}

// P18.3: likewise from other firsts, with other roots, at some epochs on the way, up to the last one.
func TestOneByOneFrom(t *testing.T) {
	for _, root := range []string{noughts, ones, text(32)} {
		for _, first := range []int{0, 1, 5, 4096, 1 << 31, lastEpoch - 4097, lastEpoch - 4096, lastEpoch - 4095, lastEpoch - 100, lastEpoch - 1, lastEpoch} {
			for _, by := range []int{0, 1, 2, 3, 30, 31, 98, 99, 100, 255, 256, 2047, 4094, 4095, 4096} {
				if first+by > lastEpoch {
					continue
				}
				ahead, e := evolve.At(root, first, first+by)
				if len(ahead) != 32 || e != api.OK {
					t.Errorf("At(%x, %d, %d): %x %d", root, first, first+by, ahead, e)
				}
				w, f := evolve.Next(ahead)
				if by == mostOn {
					w, f = "", api.ErrLimit
				}
				if first+by == lastEpoch {
					w, f = "", api.ErrArg
				}
				if next, e := evolve.At(root, first, first+by+1); next != w || e != f {
					t.Errorf("At(%x, %d, %d): %x %d, asked %x %d", root, first, first+by+1, next, e, w, f)
				}
			}
		}
	}
}

// made is what was made, and what for.
type made struct{ what, by string }

// all makes of a key whatever can be made of it in one step, and the key at epochs behind some firsts.
func all(t *testing.T, key string) []made {
	t.Helper()
	var l []made
	put := func(what string, by string, e api.Errno) {
		if e != api.OK {
			t.Fatalf("%s of %x: %d", what, key, e)
		}
		l = append(l, made{what + " of " + hex.EncodeToString([]byte(key)), by})
	}
	for name, call := range purposes() {
		by, e := call(key)
		put(name, by, e)
	}
	for _, first := range []int{0, 1, 2, 5, 6, 255, 256, 1 << 16, 1<<31 - 1, 1 << 31, lastEpoch - 1, lastEpoch} {
		by, e := evolve.First(key, first)
		put("seal", by, e)
	}
	return l
}

// P18.4: no two of what is made are the same, for unlike purposes, of unlike keys, of unlike epochs; nor do they begin alike, as Data's, which are shorter, would else be those of another purpose.
func TestApart(t *testing.T) {
	seen := map[string]string{}
	look := func(m made) {
		if len(m.by) != 32 && len(m.by) != 16 {
			t.Errorf("%s: %x", m.what, m.by)
			return
		}
		if was, ok := seen[m.by[:16]]; ok {
			t.Errorf("%s and %s begin alike: %x", was, m.what, m.by)
		}
		seen[m.by[:16]] = m.what
	}
	for _, key := range keys() {
		for _, m := range all(t, key) {
			look(m)
		}
		for _, first := range []int{7, 8, 9} {
			// each of these is the root of what is made further on: the keys at epochs, and what is made of these
			ahead, _ := evolve.First(key, first)
			for by := range 20 {
				k, e := evolve.At(key, first, first+by)
				if by == 0 && k != ahead || e != api.OK {
					t.Fatalf("At(%x, %d, %d): %x %d", key, first, first+by, k, e)
				}
				look(made{"an epoch's key", k})
				for _, name := range []string{"mac", "ask", "data"} {
					by, _ := purposes()[name](k)
					look(made{"an epoch's " + name, by})
				}
			}
		}
	}
	if len(seen) < 10*(4+12+3*20*4) {
		t.Errorf("only %d were made", len(seen))
	}
}

// P18.4: for two purposes a key's are the tags of two unlike messages, so that of two that are the same hmac's Clash tells two texts; of one with itself it tells none.
func TestApartByMessages(t *testing.T) {
	messages := []string{message("next"), message("mac"), message("ask"), message("data")}
	for _, first := range []int{0, 1, 2, 255, 256, 1 << 31, lastEpoch} {
		messages = append(messages, message("seal", first))
	}
	for _, key := range keys() {
		var l []string
		for name, call := range purposes() {
			by, _ := call(key)
			if !strings.HasPrefix(hmac.Mac(key, message(name)), by) {
				t.Errorf("%s of %x is no tag of %x", name, key, message(name))
			}
		}
		for _, m := range messages {
			l = append(l, hmac.Mac(key, m))
		}
		for i := range messages {
			for j := range messages {
				if (messages[i] == messages[j]) != (i == j) {
					t.Fatalf("two messages: %x and %x", messages[i], messages[j])
				}
				_, _, found := hmac.Clash(key, messages[i], key, messages[j])
				if same := l[i] == l[j]; found != (same && i != j) || same != (i == j) {
					t.Errorf("%x and %x under %x: found %t, tags %x and %x", messages[i], messages[j], key, found, l[i], l[j])
				}
			}
		}
	}
}

// P18.4: what derive says of each purpose is what these tests say, so that the messages above are those that are tagged.
func TestMessages(t *testing.T) {
	for _, c := range []struct {
		name    string
		numbers []int
		said    string
	}{
		{"seal", []int{5}, "\x00\x00\x00\x04seal\x01\x00\x00\x00\x00\x00\x00\x00\x05"},
		{"seal", []int{lastEpoch}, "\x00\x00\x00\x04seal\x01\x00\x00\x00\x00\xff\xff\xff\xff"},
		{"next", nil, "\x00\x00\x00\x04next\x00"},
		{"mac", nil, "\x00\x00\x00\x03mac\x00"},
		{"ask", nil, "\x00\x00\x00\x03ask\x00"},
		{"data", nil, "\x00\x00\x00\x04data\x00"},
	} {
		by, e := derive.Said(c.name, c.numbers...)
		if w := said(c.name, c.numbers...); by != c.said || w != c.said || e != api.OK {
			t.Errorf("%s %v: %x %d, here %x, asked %x", c.name, c.numbers, by, e, w, c.said)
		}
	}
}

// A key hangs on each of its bits, and on its epoch's.
func TestEachBit(t *testing.T) {
	seen := map[string]int{}
	look := func(l ...string) {
		for _, s := range l {
			if seen[s]++; seen[s] > 1 {
				t.Errorf("made twice: %x", s)
			}
		}
	}
	for bit := range 256 {
		b := []byte(low)
		b[bit/8] ^= 1 << (bit % 8)
		for _, m := range all(t, string(b)) {
			look(m.by)
		}
	}
	for bit := range 32 {
		for _, root := range []string{low, ones} {
			key, _ := evolve.First(root, 1<<bit^3)
			next, _ := evolve.At(root, 1<<bit^3, 1<<bit^3+1)
			look(key, next)
		}
	}
}

// P1: what is refused tells an empty text, whichever call it is.
func TestRefused(t *testing.T) {
	refused := func(s string, e, f api.Errno) {
		t.Helper()
		if s != "" || e != f {
			t.Errorf("%x %d, asked nothing and %d", s, e, f)
		}
	}
	for _, key := range wrong() {
		for _, call := range purposes() {
			s, e := call(key)
			refused(s, e, api.ErrArg)
		}
		for _, n := range edges() {
			s, e := evolve.First(key, n)
			refused(s, e, api.ErrArg)
			for _, m := range edges() {
				s, e = evolve.At(key, n, m)
				refused(s, e, api.ErrArg)
			}
		}
	}
	for _, n := range edges() {
		if n >= 0 && n <= lastEpoch {
			continue
		}
		s, e := evolve.First(low, n)
		refused(s, e, api.ErrArg)
		for _, m := range edges() {
			s, e = evolve.At(low, n, m)
			refused(s, e, api.ErrArg)
			s, e = evolve.At(low, m, n)
			refused(s, e, api.ErrArg)
		}
	}
}

// P2: what a call answers hangs on its arguments alone: not on what was asked ahead, be it refused or not.
func TestAgain(t *testing.T) {
	tell := func() []string {
		var l []string
		for _, call := range purposes() {
			s, _ := call(low)
			l = append(l, s)
		}
		slices.Sort(l)
		first, _ := evolve.First(low, 5)
		same, _ := evolve.At(low, 5, 5)
		next, _ := evolve.At(low, 5, 6)
		far, _ := evolve.At(low, 5, 105)
		return append(l, first, same, next, far)
	}
	w := tell()
	for i := range 20 {
		evolve.First(noughts, i)
		evolve.First(low, -i)
		evolve.Next(ones)
		evolve.Mac("")
		evolve.Ask(low + low)
		evolve.Data(text(i))
		evolve.At(noughts, 5, 5+i)
		evolve.At(low, 5, 5+4097+i)
		evolve.At(low, 6, 5)
		if l := tell(); !slices.Equal(l, w) {
			t.Fatalf("told again, it is something else: %x, was %x", l, w)
		}
	}
}

// Whatever is asked, in whatever row, is as the chapter says.
func TestRows(t *testing.T) {
	r := rand.New(rand.NewSource(18))
	root, first := low, 0
	for range 3000 {
		switch r.Intn(6) {
		case 0:
			root = anyKeys()[r.Intn(len(anyKeys()))]
		case 1:
			first = edges()[r.Intn(len(edges()))]
		case 2:
			first = r.Intn(lastEpoch + 1)
		case 3:
			if key, e := evolve.First(root, first); e == api.OK {
				root = key
			}
		case 4:
			for name, call := range purposes() {
				w, f := want(name, root)
				if s, e := call(root); s != w || e != f {
					t.Fatalf("%s of %x: %x %d, asked %x %d", name, root, s, e, w, f)
				}
			}
		default:
			at(t, root, first, first+r.Intn(80)-20)
			if r.Intn(20) == 0 {
				at(t, root, first, first+4090+r.Intn(12))
			}
		}
		w, f := wantFirst(root, first)
		if key, e := evolve.First(root, first); key != w || e != f {
			t.Fatalf("First(%x, %d): %x %d, asked %x %d", root, first, key, e, w, f)
		}
	}
}

// P1: no call panics, and all of it is as the chapter says, at whatever bytes and numbers.
func FuzzCalls(f *testing.F) {
	f.Add(low, 5, 5)
	f.Add(low, 5, 6)
	f.Add(low, 5, 4)
	f.Add(low, 0, 4096)
	f.Add(low, 0, 4097)
	f.Add(low, lastEpoch, lastEpoch)
	f.Add(low, lastEpoch-4096, lastEpoch)
	f.Add(low, lastEpoch, lastEpoch+1)
	f.Add(low, -1, most)
	f.Add(low, least, most)
	f.Add("", 1, 1)
	f.Add(low+"\x00", most, least)
	f.Fuzz(func(t *testing.T, key string, first, epoch int) {
		for name, call := range purposes() {
			w, f := want(name, key)
			if s, e := call(key); s != w || e != f {
				t.Errorf("%s of %x: %x %d, asked %x %d", name, key, s, e, w, f)
			}
		}
		w, f := wantFirst(key, first)
		if s, e := evolve.First(key, first); s != w || e != f {
			t.Errorf("First(%x, %d): %x %d, asked %x %d", key, first, s, e, w, f)
		}
		at(t, key, first, epoch)
		// so that there is a right one, too
		at(t, (key + low)[:32], first&lastEpoch, first&lastEpoch+epoch&4095)
	})
}
