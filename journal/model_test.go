package journal_test

import (
	"crypto/sha256"
	"encoding/binary"
	"fmt"
	"strings"

	"keepsake/api"
	"keepsake/disk"
)

// What stands here are the chapter's words once more: a journal as a disk and three numbers, each call as what is written of it, up to the first thing that the disk refuses.

const (
	lastEpoch = 4294967295
	lastTime  = 1099511627776
	lastGen   = 1152921504606846976
)

func noughts() string { return strings.Repeat("\x00", 4096) }

// padded is a text with its sum behind it, and noughts up to a block.
func padded(b []byte) string {
	sum := sha256.Sum256(b)
	b = append(b, sum[:]...)
	return string(append(b, make([]byte, 4096-len(b))...))
}

// superBytes are chapter 10's words of a superblock's bytes.
func superBytes(s api.Super) string {
	b := []byte("keepsake1")
	b = binary.BigEndian.AppendUint64(b, uint64(s.Gen))
	b = binary.BigEndian.AppendUint32(b, uint32(s.Tail))
	b = binary.BigEndian.AppendUint32(b, uint32(s.Epoch))
	b = binary.BigEndian.AppendUint64(b, uint64(s.Clock))
	for _, n := range []int{s.Geo.Blocks, s.Geo.Lbas, s.Geo.First} {
		b = binary.BigEndian.AppendUint32(b, uint32(n))
	}
	return padded(b)
}

func within(n, least, most int) bool { return n >= least && n <= most }

func shapeMayBe(g api.Geo) bool {
	return within(g.Blocks, 8, 1024) && within(g.Lbas, 1, 4096) && within(g.First, 0, lastEpoch)
}

// superOf is the superblock whose bytes these are, if they are one's.
func superOf(block string) (api.Super, bool) {
	if len(block) != 4096 || block[:9] != "keepsake1" {
		return api.Super{}, false
	}
	four := func(at int) int { return int(binary.BigEndian.Uint32([]byte(block[at : at+4]))) }
	eight := func(at int) int { return int(binary.BigEndian.Uint64([]byte(block[at : at+8]))) }
	s := api.Super{Gen: eight(9), Tail: four(17), Epoch: four(21), Clock: eight(25)}
	s.Geo = api.Geo{Blocks: four(33), Lbas: four(37), First: four(41)}
	mayBe := shapeMayBe(s.Geo) && within(s.Gen, 1, lastGen) && within(s.Tail, 0, s.Geo.Blocks-4) &&
		within(s.Epoch, s.Geo.First, lastEpoch) && within(s.Clock, 0, lastTime)
	if !mayBe || superBytes(s) != block {
		return api.Super{}, false
	}
	return s, true
}

// keyBytes are chapter 11's words of a key's bytes.
func keyBytes(epoch int, key string) string {
	b := []byte("key")
	b = binary.BigEndian.AppendUint32(b, uint32(epoch))
	return padded(append(b, key...))
}

// keyOf is the epoch and the key whose bytes these are, if they are some's.
func keyOf(block string) (int, string, bool) {
	if len(block) != 4096 || block[:3] != "key" {
		return 0, "", false
	}
	epoch := int(binary.BigEndian.Uint32([]byte(block[3:7])))
	key := block[7:39]
	if keyBytes(epoch, key) != block {
		return 0, "", false
	}
	return epoch, key, true
}

// refusal is a disk's error: what stands behind it is not done.
type refusal struct{ why api.Errno }

func need(e api.Errno) {
	if e != api.OK {
		panic(refusal{e})
	}
}

// upTo does what is written there, up to the first refusal, and tells that.
func upTo(words func()) (e api.Errno) {
	defer func() {
		switch x := recover().(type) {
		case nil:
		case refusal:
			e = x.why
		default:
			panic(x)
		}
	}()
	words()
	return api.OK
}

func shows(d *disk.Disk, i int) string {
	s, e := d.Read(i)
	need(e)
	return s
}

// plain is a journal: its disk, which nobody else's is, the superblock that was committed last, how many blocks were taken, and whether it is broken. One that was not made no call made.
type plain struct {
	made   bool
	d      *disk.Disk
	last   api.Super
	took   int
	broken bool
}

// formats are P25.1's words.
func formats(d *disk.Disk, g api.Geo, key string) api.Errno {
	if !shapeMayBe(g) || len(key) != 32 || d.Size() != g.Blocks {
		return api.ErrArg
	}
	return upTo(func() {
		for i := 0; i < g.Blocks; i++ {
			if shows(d, i) != noughts() {
				need(d.Write(i, noughts()))
			}
		}
		need(d.Flush())
		need(d.Write(2+g.First%2, keyBytes(g.First, key)))
		need(d.Flush())
		need(d.Write(1, superBytes(api.Super{Gen: 1, Tail: 0, Epoch: g.First, Clock: 0, Geo: g})))
		need(d.Flush())
	})
}

// opens are P25.2's words.
func opens(d *disk.Disk) (p *plain, blocks []string, key string, e api.Errno) {
	if d == nil || d.Size() == 0 {
		return nil, nil, "", api.ErrNil
	}
	e = upTo(func() {
		var s api.Super
		a, isA := superOf(shows(d, 0))
		b, isB := superOf(shows(d, 1))
		switch {
		case !isA && !isB:
			need(api.ErrNone)
		case isA && (!isB || a.Gen >= b.Gen):
			s = a
		default:
			s = b
		}
		if s.Geo.Blocks != d.Size() {
			need(api.ErrForm)
		}
		mine, other := 2, 3
		if s.Epoch%2 == 1 {
			mine, other = 3, 2
		}
		if shows(d, mine) == noughts() {
			need(api.ErrNone)
		}
		epoch, its, is := keyOf(shows(d, mine))
		if !is {
			need(api.ErrForm)
		}
		if epoch != s.Epoch {
			need(api.ErrNone)
		}
		wrong := false
		right := func(i int) {
			if shows(d, i) != noughts() {
				need(d.Write(i, noughts()))
				wrong = true
			}
		}
		right(other)
		for i := 4 + s.Tail; i < d.Size(); i++ {
			right(i)
		}
		if wrong {
			need(d.Flush())
		}
		for i := 0; i < s.Tail; i++ {
			blocks = append(blocks, shows(d, 4+i))
		}
		p, key = &plain{made: true, d: d, last: s, took: s.Tail}, its
	})
	if e != api.OK {
		return nil, nil, "", e
	}
	return p, blocks, key, api.OK
}

func (p *plain) ready() api.Errno {
	if p == nil || !p.made {
		return api.ErrNil
	}
	if p.broken {
		return api.ErrDown
	}
	return api.OK
}

// tries is upTo, behind which the journal is broken, if something was refused.
func (p *plain) tries(words func()) api.Errno {
	e := upTo(words)
	if e != api.OK {
		p.broken = true
	}
	return e
}

// all is how many blocks for data there are.
func (p *plain) all() int { return p.last.Geo.Blocks - 4 }

func (p *plain) append(block string) (n int, e api.Errno) {
	if e := p.ready(); e != api.OK {
		return 0, e
	}
	if len(block) != 4096 {
		return 0, api.ErrArg
	}
	if p.room() == 0 {
		return 0, api.ErrFull
	}
	n = p.took
	p.took++
	if e := p.tries(func() { need(p.d.Write(4+n, block)) }); e != api.OK {
		return 0, e
	}
	return n, api.OK
}

// superblock is what "the next superblock is written" says.
func (p *plain) superblock(s api.Super) {
	need(p.d.Write(s.Gen%2, superBytes(s)))
	need(p.d.Flush())
	p.last = s
}

func (p *plain) commit(clock int) api.Errno {
	if e := p.ready(); e != api.OK {
		return e
	}
	if clock < p.last.Clock || clock > lastTime {
		return api.ErrArg
	}
	if p.last.Gen == lastGen {
		return api.ErrLimit
	}
	return p.tries(func() {
		need(p.d.Flush())
		p.superblock(api.Super{Gen: p.last.Gen + 1, Tail: p.took, Epoch: p.last.Epoch, Clock: clock, Geo: p.last.Geo})
	})
}

func (p *plain) close(block, next string, clock int) (n int, e api.Errno) {
	if e := p.ready(); e != api.OK {
		return 0, e
	}
	if len(block) != 4096 || len(next) != 32 || clock < p.last.Clock || clock > lastTime {
		return 0, api.ErrArg
	}
	if p.last.Epoch == lastEpoch || p.last.Gen == lastGen {
		return 0, api.ErrLimit
	}
	if p.took == p.all() {
		return 0, api.ErrLimit
	}
	n = p.took
	p.took++
	was, now := p.last.Epoch, p.last.Epoch+1
	e = p.tries(func() {
		need(p.d.Write(4+n, block))
		need(p.d.Write(2+now%2, keyBytes(now, next)))
		need(p.d.Flush())
		p.superblock(api.Super{Gen: p.last.Gen + 1, Tail: p.took, Epoch: now, Clock: clock, Geo: p.last.Geo})
		need(p.d.Write(2+was%2, noughts()))
		need(p.d.Flush())
	})
	if e != api.OK {
		return 0, e
	}
	return n, api.OK
}

func (p *plain) over(i int, block string) api.Errno {
	if e := p.ready(); e != api.OK {
		return e
	}
	if i < 0 || i >= p.last.Tail {
		return api.ErrRange
	}
	if len(block) != 4096 {
		return api.ErrArg
	}
	return p.tries(func() { need(p.d.Write(4+i, block)) })
}

func (p *plain) flush() api.Errno {
	if e := p.ready(); e != api.OK {
		return e
	}
	return p.tries(func() { need(p.d.Flush()) })
}

func (p *plain) read(i int) (s string, e api.Errno) {
	if e := p.ready(); e != api.OK {
		return "", e
	}
	if i < 0 || i >= p.took {
		return "", api.ErrRange
	}
	e = p.tries(func() { s = shows(p.d, 4+i) })
	return s, e
}

// looks is what a journal tells that needs no disk.
type looks struct {
	last       api.Super
	used, room int
}

// room is what may be appended: one block is kept for the closing.
func (p *plain) room() int { return max(p.all()-1-p.took, 0) }

func (p *plain) looks() looks {
	if p == nil || !p.made {
		return looks{}
	}
	return looks{p.last, p.took, p.room()}
}

// told says in words what a block is.
func told(block string) string {
	if block == noughts() {
		return "noughts"
	}
	if s, is := superOf(block); is {
		return fmt.Sprintf("super %d, tail %d, epoch %d, clock %d", s.Gen, s.Tail, s.Epoch, s.Clock)
	}
	if epoch, key, is := keyOf(block); is {
		return fmt.Sprintf("key %d %s", epoch, strings.TrimRight(key, "-"))
	}
	return strings.TrimRight(block, "-")
}
