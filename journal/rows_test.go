package journal_test

import (
	"fmt"
	"math/rand"
	"slices"
	"strings"
	"testing"

	"keepsake/api"
)

// What stands here are rows of calls, as they come, held against the plain journal.

// few are calls that make a difference to a small journal, that of the disk among them.
func few() []call {
	short := appends("s")
	short.block = short.block[1:]
	return []call{
		appends("a"), commits(1), commits(0), closes("c", 77, 1), overs(0, "o"), overs(1, "p"), flushes(), reads(1), short,
		arms(1), arms(2), crashes(0), crashes(1), boots(), opening(), formatting(small(4, 1)),
	}
}

// All rows of three calls, behind one of each of these beginnings.
func TestAllRows(t *testing.T) {
	g := small(4, 0)
	s := api.Super{Gen: 2, Tail: 2, Epoch: 1, Geo: g}
	for _, x := range []struct {
		image api.Image
		ahead []call
	}{
		{blank(8), nil},
		{blank(8), []call{formatting(g), opening()}},
		{imageOf(s, text("x"), text("y"), text("z")), []call{opening()}},
		{imageOf(s, text("x"), text("y")), []call{opening(), appends("z"), arms(4)}},
	} {
		for _, a := range few() {
			for _, b := range few() {
				for _, c := range few() {
					w := world(t, x.image, x.ahead...)
					for _, c := range []call{a, b, c} {
						w.do(t, c)
					}
				}
			}
		}
	}
}

// near is a number about this one, most often.
func near(r *rand.Rand, n int) int {
	switch r.Intn(12) {
	case 0:
		return far()[r.Intn(len(far()))]
	case 1, 2:
		return n - r.Intn(3)
	}
	return n + r.Intn(2)
}

// anyBlock makes a block, most often such as may be.
func anyBlock(r *rand.Rand) string {
	s := text(fmt.Sprint("any ", r.Intn(1000)))
	switch r.Intn(20) {
	case 0:
		return s[:r.Intn(4096)]
	case 1:
		return s + s[:r.Intn(40)]
	case 2:
		return noughts()
	}
	return s
}

// anyCall makes a call that has to do with how the journal stands.
func anyCall(r *rand.Rand, p *plain) call {
	s := api.Super{Geo: small(4, 0)}
	used := 0
	if p != nil {
		s, used = p.last, p.took
	}
	c := call{kind: r.Intn(kinds), n: near(r, s.Clock), block: anyBlock(r), key: keyFor(s.Epoch + 1)}
	switch c.kind {
	case toClose:
		if r.Intn(3) > 0 {
			c.kind = toAppend // else there is soon no room
		}
		if r.Intn(8) == 0 {
			c.key = c.key[:r.Intn(32)]
		}
	case toOver, toRead:
		c.n = near(r, r.Intn(used+1))
	case toFormat:
		if r.Intn(6) > 0 {
			return opening()
		}
		return formatting(api.Geo{Blocks: near(r, s.Geo.Blocks), Lbas: near(r, 1), First: near(r, s.Geo.First)})
	case toArm:
		c.n = r.Intn(9)
	case toCrash:
		for range r.Intn(5) {
			c.keep = append(c.keep, r.Intn(8))
		}
	}
	return c
}

// walk does calls as they come, and, where there is no power, or no journal, most often what brings it.
func walk(t *testing.T, r *rand.Rand, w *pair, n int) {
	t.Helper()
	for range n {
		c := anyCall(r, w.p)
		switch {
		case r.Intn(3) == 0: // let it be
		case w.e.Down():
			c = boots()
		case w.p.ready() != api.OK:
			c = opening()
		}
		w.do(t, c)
	}
}

// anySuper makes one that may be, most often.
func anySuper(r *rand.Rand, data int) api.Super {
	s := api.Super{Gen: 1 + r.Intn(9), Tail: r.Intn(data + 1), Epoch: r.Intn(9), Clock: r.Intn(9), Geo: small(data, 0)}
	switch r.Intn(8) {
	case 0:
		s.Gen = lastGen - r.Intn(5)
	case 1:
		s.Epoch = lastEpoch - r.Intn(5)
	case 2:
		s.Clock = lastTime - r.Intn(5)
	case 3:
		s.Geo.First = s.Epoch
	case 4:
		s.Geo.Blocks += r.Intn(2)
	}
	return s
}

// anyImage makes what may be on a disk: superblocks and keys wherever they are good or not, data, and a cache of all that.
func anyImage(r *rand.Rand) api.Image {
	data := 4 + r.Intn(5)
	one := anySuper(r, data)
	x := imageOf(one)
	other := one
	if r.Intn(2) == 0 {
		other.Gen = max(1, one.Gen-1+r.Intn(3))
		other.Epoch = min(lastEpoch, one.Epoch+r.Intn(2))
		other.Tail = r.Intn(data + 1)
	}
	epochs := []int{one.Epoch, other.Epoch, (one.Epoch + 1) & lastEpoch, max(one.Epoch-1, 0)}
	any := func(at int) string {
		block := noughts()
		switch {
		case r.Intn(8) == 0:
			return text("junk")
		case r.Intn(4) == 0:
			return block
		case at < 2:
			return superBytes([]api.Super{one, other}[r.Intn(2)])
		case at < 4:
			epoch := epochs[r.Intn(4)]
			return keyBytes(epoch, keyFor(epoch))
		}
		return text(fmt.Sprint("data ", r.Intn(1000)))
	}
	for range r.Intn(12) {
		at := r.Intn(len(x.Blocks))
		x.Blocks[at] = any(at)
	}
	for range r.Intn(12) - 4 {
		at := r.Intn(len(x.Blocks))
		x.Cache = append(x.Cache, api.Put{At: at, Data: any(at)})
	}
	return x
}

// P25.1 to P25.5, P1 and P2: rows of all calls as they come, from whatever is on a disk.
func TestRows(t *testing.T) {
	r := rand.New(rand.NewSource(251))
	told := map[api.Errno]int{}
	for range 1200 {
		w := world(t, anyImage(r))
		told[w.do(t, opening()).e]++
		walk(t, r, w, 30)
	}
	for _, e := range []api.Errno{api.OK, api.ErrNone, api.ErrForm} {
		if told[e] < 50 {
			t.Errorf("%d of 1200 answered %d", told[e], e)
		}
	}
}

// The same, of a journal that is formatted, with few crashes: rows that are long, and use up all blocks.
func TestLongRows(t *testing.T) {
	r := rand.New(rand.NewSource(252))
	for range 60 {
		g := small(4+r.Intn(60), r.Intn(3))
		w := fresh(t, g)
		for range 150 {
			c := anyCall(r, w.p)
			if c.kind > toOpen {
				continue
			}
			w.do(t, c)
		}
		w.is(t, crashes(r.Perm(20)[:r.Intn(20)]...), api.OK)
		w.is(t, boots(), api.OK)
		w.is(t, opening(), api.OK)
		walk(t, r, w, 20)
	}
}

// The most blocks that there may be: all are appended, committed, closed, and handed out again in their order.
func TestMostBlocks(t *testing.T) {
	g := api.Geo{Blocks: 1024, Lbas: 4096, First: lastEpoch - 1}
	w := fresh(t, g)
	var want []string
	for n := range 1019 {
		want = append(want, text(fmt.Sprint("block ", n)))
		if i, e := w.j.Append(want[n]); i != n || e != api.OK {
			t.Fatal(n, i, e)
		}
		if i, e := w.p.append(want[n]); i != n || e != api.OK {
			t.Fatal(n, i, e)
		}
	}
	w.is(t, appends("more"), api.ErrFull)
	w.is(t, commits(lastTime), api.OK)
	if a := w.do(t, closes("end", lastEpoch, lastTime)); a != (answer{n: 1019}) {
		t.Fatal(a)
	}
	w.is(t, closes("end", 0, lastTime), api.ErrLimit)
	want = append(want, text("end"))
	a := w.do(t, opening())
	if a.s != handed(want, keyFor(lastEpoch), true) {
		t.Error("other blocks are handed out")
	}
}

// callsOf reads calls out of bytes, two of them each.
func callsOf(b []byte) []call {
	var calls []call
	for ; len(b) >= 2; b = b[2:] {
		c := call{kind: int(b[0]) % kinds, n: int(int8(b[1])), block: text(string(b[1:2])), key: keyFor(int(b[1])), g: small(4, int(b[1]))}
		switch {
		case b[0] >= 240: // far off
			c.n = far()[int(b[1])%len(far())]
			c.g = api.Geo{Blocks: 8, Lbas: c.n, First: c.n}
		case b[0] >= 220:
			c.block, c.key = c.block[:b[1]], c.key[:b[1]%32]
		case b[0] >= 200:
			c.block, c.key = c.block+c.key, c.key+c.key
		}
		if c.kind == toArm {
			c.n &= 15
		}
		for number := range 8 {
			if b[1]>>number&1 == 1 {
				c.keep = append(c.keep, number)
			}
		}
		calls = append(calls, c)
	}
	return calls
}

// No call panics, and all are as the plain journal's, in whatever order they are made, on whatever disk.
func FuzzCalls(f *testing.F) {
	f.Add([]byte{}, 0, int64(0))
	f.Add([]byte{toFormat, 5, toOpen, 0, toAppend, 97, toCommit, 3, toArm, 4, toClose, 3, toCrash, 6, toBoot, 0, toOpen, 0}, 3, int64(1))
	f.Add([]byte{toOpen, 0, toOver, 0, toFlush, 0, toRead, 0, toClose, 9, 255, 7, 225, 9, 201, 9}, 4, int64(25))
	f.Add([]byte(strings.Repeat("\x07\x01\x06\x00\x00\x61\x01\x05\x02\x06", 4)), 0, int64(7))
	f.Fuzz(func(t *testing.T, b []byte, turned int, seed int64) {
		x := blank(8)
		if seed != 0 {
			x = anyImage(rand.New(rand.NewSource(seed)))
		}
		// a byte of the disk is turned, if there is such a one
		if at := turned >> 12; at > 0 && at < len(x.Blocks) {
			block := []byte(x.Blocks[at])
			block[turned&4095] ^= 1
			x.Blocks[at] = string(block)
		}
		w := world(t, x)
		for _, c := range callsOf(b[:min(len(b), 80)]) {
			w.do(t, c)
		}
		if !slices.Equal(w.d.Seize().Blocks, w.e.Seize().Blocks) {
			t.Fatal("the disks are not alike")
		}
	})
}
