package disk_test

import (
	"bytes"
	"math"
	"math/rand"
	"slices"
	"strings"
	"testing"

	"keepsake/api"
	"keepsake/disk"
)

// plain is a disk as the chapter's words have it, without care for time or room.
type plain struct {
	block map[int]string
	size  int
	// writes are the cache.
	writes []api.Put
	// steps are how many are left up to the one at which the power goes, that one among them.
	steps   int
	isArmed bool
	power   bool
}

func newPlain(x api.Image) *plain {
	p := &plain{block: map[int]string{}, size: len(x.Blocks), power: true}
	for i, s := range x.Blocks {
		p.block[i] = s
	}
	for _, w := range x.Cache {
		p.writes = append(p.writes, w)
	}
	return p
}

// shows goes through all that was ever written there, so that the last one is left.
func (p *plain) shows(i int) string {
	s := p.block[i]
	for _, w := range p.writes {
		if w.At == i {
			s = w.Data
		}
	}
	return s
}

func (p *plain) wrong(i int, s string) api.Errno {
	if i < 0 || i >= p.size {
		return api.ErrRange
	}
	if len(s) != 4096 {
		return api.ErrArg
	}
	return api.OK
}

// isLast counts a step, and says whether it is the one at which the power goes.
func (p *plain) isLast() bool {
	if !p.isArmed {
		return false
	}
	p.steps--
	if p.steps > 0 {
		return false
	}
	p.isArmed, p.power = false, false
	return true
}

// done are the writes whose numbers are wanted; the others are lost.
func (p *plain) done(wanted func(number int) bool) {
	for number, w := range p.writes {
		if wanted(number) {
			p.block[w.At] = w.Data
		}
	}
	p.writes = nil
}

// Kinds of calls that change a disk.
const (
	toWrite = iota
	toFlush
	toArm
	toCrash
	toBoot
	toOver
	toLoad // a disk of what is seized takes its place
	kinds
)

// call is one of them: of Write and Over a place and a text, of Arm a number, of Crash what is kept.
type call struct {
	kind, n int
	s       string
	keep    []int
}

// do says what the call must answer, and does it.
func (p *plain) do(c call) api.Errno {
	switch c.kind {
	case toCrash:
		p.done(func(number int) bool { return slices.Contains(c.keep, number) })
		p.power, p.isArmed = false, false
		return api.OK
	case toBoot:
		p.writes, p.power, p.isArmed = nil, true, false
		return api.OK
	case toLoad:
		p.power, p.isArmed = true, false
		return api.OK
	case toOver:
		if e := p.wrong(c.n, c.s); e != api.OK {
			return e
		}
		p.block[c.n] = c.s
		return api.OK
	}
	if !p.power {
		return api.ErrDown
	}
	return p.doUp(c)
}

// doUp is do of the calls that need power, where there is some.
func (p *plain) doUp(c call) api.Errno {
	switch c.kind {
	case toArm:
		if c.n < 0 {
			return api.ErrArg
		}
		p.steps, p.isArmed = c.n, c.n > 0
	case toWrite:
		if e := p.wrong(c.n, c.s); e != api.OK {
			return e
		}
		if len(p.writes) == 4096 {
			return api.ErrFull
		}
		if p.isLast() {
			return api.ErrDown
		}
		p.writes = append(p.writes, api.Put{At: c.n, Data: c.s})
	case toFlush:
		if p.isLast() {
			return api.ErrDown
		}
		p.done(func(int) bool { return true })
	}
	return api.OK
}

// do has the disk do the call: the disk behind it, and what it answered.
func do(d *disk.Disk, c call) (*disk.Disk, api.Errno) {
	switch c.kind {
	case toWrite:
		return d, d.Write(c.n, c.s)
	case toFlush:
		return d, d.Flush()
	case toArm:
		return d, d.Arm(c.n)
	case toCrash:
		return d, d.Crash(c.keep...)
	case toBoot:
		return d, d.Boot()
	case toOver:
		return d, d.Over(c.n, c.s)
	}
	return disk.Load(d.Seize())
}

// agree holds all that a disk tells against the plain one.
func agree(t *testing.T, d *disk.Disk, p *plain) {
	t.Helper()
	if d.Size() != p.size || d.Down() == p.power {
		t.Fatalf("size %d, asked %d; down %v, power %v", d.Size(), p.size, d.Down(), p.power)
	}
	for i := -1; i <= p.size; i++ {
		want, e := "", api.ErrDown
		if p.power {
			e = p.wrong(i, noughts())
		}
		if e == api.OK {
			want = p.shows(i)
		}
		if s, f := d.Read(i); s != want || f != e {
			t.Fatalf("place %d: %.20q %d, asked %.20q %d", i, s, f, want, e)
		}
	}
	x := d.Seize()
	if len(x.Blocks) != p.size || !slices.Equal(x.Cache, p.writes) {
		t.Fatalf("seized %d blocks, %d writes; asked %d, %d", len(x.Blocks), len(x.Cache), p.size, len(p.writes))
	}
	for i, s := range x.Blocks {
		if s != p.block[i] {
			t.Fatalf("block %d: %.20q, asked %.20q", i, s, p.block[i])
		}
	}
}

// walk does the calls on a disk of this image, and holds each against the plain one.
func walk(t *testing.T, x api.Image, calls []call) {
	t.Helper()
	d, e := disk.Load(x)
	if e != api.OK {
		t.Fatal(e)
	}
	p := newPlain(x)
	agree(t, d, p)
	for i, c := range calls {
		var e api.Errno
		d, e = do(d, c)
		if want := p.do(c); e != want {
			t.Fatalf("call %d of %d, kind %d %d of %d bytes, kept %v: %d, asked %d", i, len(calls), c.kind, c.n, len(c.s), c.keep, e, want)
		}
		agree(t, d, p)
	}
}

// anyCall makes a call, most of them such as are not refused.
func anyCall(r *rand.Rand, size int) call {
	c := call{kind: r.Intn(kinds)}
	if r.Intn(2) == 0 {
		c.kind = toWrite // else there is little in a cache
	}
	switch c.kind {
	case toArm:
		c.n = r.Intn(6) - 1
	case toWrite, toOver:
		c.n, c.s = r.Intn(size), full(r.Intn(256))
		switch r.Intn(12) {
		case 0:
			c.n = r.Intn(2)*(size+1) - 1
		case 1:
			c.s = c.s[1:]
		case 2:
			c.s += "+"
		}
	case toCrash:
		for range r.Intn(6) {
			c.keep = append(c.keep, r.Intn(10)-2)
		}
	}
	return c
}

// P8.1 to P8.4 and P8.7: calls of all kinds, one behind the other, as they come.
func TestWalks(t *testing.T) {
	r := rand.New(rand.NewSource(8))
	for range 1500 {
		size := 8 + r.Intn(3)
		x := api.Image{Blocks: slices.Repeat([]string{noughts()}, size)}
		var calls []call
		for range 60 {
			calls = append(calls, anyCall(r, size))
		}
		walk(t, x, calls)
	}
}

// The same where the cache is full, or nearly.
func TestWalksFull(t *testing.T) {
	r := rand.New(rand.NewSource(88))
	for n := 4090; n <= 4096; n++ {
		for range 3 {
			x := api.Image{Blocks: slices.Repeat([]string{noughts()}, 8)}
			for i := range n {
				x.Cache = append(x.Cache, api.Put{At: r.Intn(8), Data: full(i)})
			}
			var calls []call
			for range 12 {
				calls = append(calls, call{kind: toWrite, n: r.Intn(8), s: full(r.Intn(256))})
			}
			for range 20 {
				calls = append(calls, anyCall(r, 8))
			}
			walk(t, x, calls)
		}
	}
}

// P8.5: what was flushed is shown behind each crash at which nothing is kept, and which nothing is written over.
func TestFlushedStays(t *testing.T) {
	r := rand.New(rand.NewSource(85))
	for range 300 {
		d := must(t, 8)
		for i := range 8 {
			ok(t, d.Write(i, full(r.Intn(256))))
		}
		ok(t, d.Flush())
		was := shown(t, d)
		for range r.Intn(20) {
			ok(t, d.Write(r.Intn(8), full(r.Intn(256))))
		}
		switch r.Intn(3) {
		case 0:
			ok(t, d.Arm(1))
			if e := d.Flush(); e != api.ErrDown {
				t.Fatal(e)
			}
		case 1:
			ok(t, d.Arm(1))
			if e := d.Write(r.Intn(8), full(r.Intn(256))); e != api.ErrDown {
				t.Fatal(e)
			}
		}
		ok(t, d.Crash())
		ok(t, d.Boot())
		if now := shown(t, d); !slices.Equal(now, was) {
			t.Fatal("what was flushed is not shown")
		}
	}
}

// P8.6: behind a crash each place has what was flushed, or one of the writes to it, each by itself; of all that are kept it is the last one.
func TestEachByItself(t *testing.T) {
	const writes = 6
	place := [writes]int{1, 2, 1, 3, 1, 2}
	for keep := range 1 << writes {
		d := must(t, 8)
		for i := range 8 {
			ok(t, d.Write(i, full(100+i)))
		}
		ok(t, d.Flush())
		want := shown(t, d)
		var kept []int
		for number, at := range place {
			ok(t, d.Write(at, full(number)))
			if keep>>number&1 == 1 {
				kept = append([]int{number}, kept...)
				want[at] = full(number)
			}
		}
		ok(t, d.Crash(kept...))
		ok(t, d.Boot())
		if now := shown(t, d); !slices.Equal(now, want) {
			t.Errorf("kept %v", kept)
		}
	}
}

// callsOf reads calls out of bytes, three of them each.
func callsOf(b []byte) []call {
	var calls []call
	for ; len(b) >= 3; b = b[3:] {
		c := call{kind: int(b[0]) % kinds, n: int(int8(b[1])), s: full(int(b[2]))}
		switch {
		case b[0] >= 240: // far off
			c.n = math.MinInt64 + int(b[1])*(math.MaxInt64/100)
		case b[0] >= 220:
			c.s = c.s[:b[2]]
		case b[0] >= 200:
			c.s += c.s[:b[2]]
		}
		for number := range 8 {
			if b[2]>>number&1 == 1 {
				c.keep = append(c.keep, number+c.n)
			}
		}
		calls = append(calls, c)
	}
	return calls
}

// No call panics, and all are as the plain disk's, in whatever order they are made.
func FuzzCalls(f *testing.F) {
	f.Add([]byte{}, 8, 0)
	f.Add([]byte{toWrite, 1, 97, toWrite, 1, 98, toCrash, 0, 1, toBoot, 0, 0}, 8, 0)
	f.Add([]byte{toArm, 2, 0, toWrite, 1, 9, toFlush, 0, 0, toCrash, 0, 1, toLoad, 0, 0}, 9, 3)
	f.Add([]byte{toWrite, 1, 9, toOver, 1, 8, toWrite, 8, 7, toWrite, 255, 7, toFlush, 0, 0}, 8, 4096)
	f.Add(bytes.Repeat([]byte{toWrite, 7, 7, toArm, 3, 3, toFlush, 1, 1, toCrash, 0, 255, toBoot, 0, 0}, 20), 10, 4090)
	f.Fuzz(func(t *testing.T, b []byte, size, writes int) {
		x := api.Image{Blocks: slices.Repeat([]string{noughts()}, size&15)}
		for i := range writes & 8191 {
			x.Cache = append(x.Cache, api.Put{At: i & 7, Data: full(i)})
		}
		if size&15 < 8 || len(x.Cache) > 4096 {
			if d, e := disk.Load(x); d != nil || e != api.ErrArg {
				t.Fatal("an image that may not be is loaded", e)
			}
			return
		}
		walk(t, x, callsOf(b[:min(len(b), 150)]))
	})
}

// full makes a block of one byte; few are made anew.
func full(b int) string { return strings.Repeat(string([]byte{byte(b)}), api.Block) }
