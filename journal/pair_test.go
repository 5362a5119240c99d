package journal_test

import (
	"fmt"
	"math"
	"slices"
	"strconv"
	"strings"
	"testing"

	"keepsake/api"
	"keepsake/disk"
	"keepsake/journal"
)

const (
	least = math.MinInt64
	most  = math.MaxInt64
)

// text makes a block that begins so.
func text(s string) string { return s + strings.Repeat("-", 4096-len(s)) }

// keyFor makes a key for an epoch, that is no other one's.
func keyFor(epoch int) string {
	s := "k" + strconv.Itoa(epoch)
	return s + strings.Repeat("-", 32-len(s))
}

func ok(t *testing.T, e api.Errno) {
	t.Helper()
	if e != api.OK {
		t.Fatal("refused:", e)
	}
}

// blank is an image of n blocks of noughts.
func blank(n int) api.Image { return api.Image{Blocks: slices.Repeat([]string{noughts()}, n)} }

// small is a shape with so many blocks for data.
func small(data, first int) api.Geo { return api.Geo{Blocks: 4 + data, Lbas: 9, First: first} }

// imageOf is what a disk has whose journal has this as its last superblock, with such data.
func imageOf(s api.Super, data ...string) api.Image {
	x := blank(s.Geo.Blocks)
	x.Blocks[s.Gen%2] = superBytes(s)
	x.Blocks[2+s.Epoch%2] = keyBytes(s.Epoch, keyFor(s.Epoch))
	copy(x.Blocks[4:], data)
	return x
}

func load(t *testing.T, x api.Image) *disk.Disk {
	t.Helper()
	d, e := disk.Load(x)
	if e != api.OK {
		t.Fatal("not loaded:", e)
	}
	return d
}

func likeImages(a, b api.Image) bool {
	return slices.Equal(a.Blocks, b.Blocks) && slices.Equal(a.Cache, b.Cache)
}

// Kinds of calls: those of a journal, and then those that its disk is given.
const (
	toAppend = iota
	toCommit
	toClose
	toOver
	toFlush
	toRead
	toOpen
	toFormat
	toArm
	toCrash
	toBoot
	kinds
)

// call is one of them: a block's number, a clock or how many steps; a block, a key, a shape; and what is kept of a crash.
type call struct {
	kind, n    int
	block, key string
	g          api.Geo
	keep       []int
}

func (c call) String() string {
	name := []string{"Append", "Commit", "Close", "Over", "Flush", "Read", "Open", "Format", "Arm", "Crash", "Boot"}[c.kind]
	return fmt.Sprintf("%s(%d, %.6q of %d, %.6q of %d, %v, %v)", name, c.n, c.block, len(c.block), c.key, len(c.key), c.g, c.keep)
}

func appends(s string) call { return call{kind: toAppend, block: text(s)} }

func commits(clock int) call { return call{kind: toCommit, n: clock} }

// closes lets the key of this epoch follow.
func closes(s string, next, clock int) call {
	return call{kind: toClose, block: text(s), key: keyFor(next), n: clock}
}

func overs(i int, s string) call { return call{kind: toOver, n: i, block: text(s)} }

func flushes() call { return call{kind: toFlush} }

func reads(i int) call { return call{kind: toRead, n: i} }

func opening() call { return call{kind: toOpen} }

func formatting(g api.Geo) call { return call{kind: toFormat, g: g, key: keyFor(g.First)} }

func arms(n int) call { return call{kind: toArm, n: n} }

func crashes(keep ...int) call { return call{kind: toCrash, keep: keep} }

func boots() call { return call{kind: toBoot} }

// answer is what a call answers: a number, or a text, and an error; of Open the text is all that is handed out.
type answer struct {
	n int
	s string
	e api.Errno
}

// pair is a journal on a disk, and the plain one on another disk to which the same was done.
type pair struct {
	d *disk.Disk
	j *journal.Journal
	p *plain
	// e is the disk of p.
	e *disk.Disk
}

// world makes a pair of disks that have this image, and lets both take the calls, none of which is refused.
func world(t *testing.T, x api.Image, l ...call) *pair {
	t.Helper()
	w := &pair{d: load(t, x), e: load(t, x)}
	for _, c := range l {
		if a := w.do(t, c); a.e != api.OK {
			t.Fatalf("%v is refused: %d", c, a.e)
		}
	}
	return w
}

// opened makes a pair of an image whose journal is open.
func opened(t *testing.T, x api.Image, l ...call) *pair {
	t.Helper()
	return world(t, x, append([]call{opening()}, l...)...)
}

// fresh makes a pair of a journal that was just formatted.
func fresh(t *testing.T, g api.Geo, l ...call) *pair {
	t.Helper()
	return world(t, blank(g.Blocks), append([]call{formatting(g), opening()}, l...)...)
}

// do does the call, holds its answer and all that it left against the plain one, and tells the answer.
func (w *pair) do(t *testing.T, c call) answer {
	t.Helper()
	got, want := w.got(c), w.want(c)
	if got != want {
		t.Fatalf("%v: %d %.60q %d, asked %d %.60q %d", c, got.n, got.s, got.e, want.n, want.s, want.e)
	}
	w.like(t)
	return got
}

// is asks of a call that it is refused so, or not.
func (w *pair) is(t *testing.T, c call, e api.Errno) {
	t.Helper()
	if a := w.do(t, c); a.e != e {
		t.Fatalf("%v: %d, asked %d", c, a.e, e)
	}
}

// handed is what Open hands out as one text, so that it can be held against another one.
func handed(blocks []string, key string, is bool) string {
	return fmt.Sprint(len(blocks), is, key) + strings.Join(blocks, "")
}

func (w *pair) got(c call) (a answer) {
	switch c.kind {
	case toAppend:
		a.n, a.e = w.j.Append(c.block)
	case toCommit:
		a.e = w.j.Commit(c.n)
	case toClose:
		a.n, a.e = w.j.Close(c.block, c.key, c.n)
	case toOver:
		a.e = w.j.Over(c.n, c.block)
	case toFlush:
		a.e = w.j.Flush()
	case toRead:
		a.s, a.e = w.j.Read(c.n)
	case toOpen:
		j, blocks, key, e := journal.Open(w.d)
		w.j, a.s, a.e = j, handed(blocks, key, j != nil), e
	case toFormat:
		a.e = journal.Format(w.d, c.g, c.key)
	default:
		a.e = toDisk(w.d, c)
	}
	return a
}

func (w *pair) want(c call) (a answer) {
	switch c.kind {
	case toAppend:
		a.n, a.e = w.p.append(c.block)
	case toCommit:
		a.e = w.p.commit(c.n)
	case toClose:
		a.n, a.e = w.p.close(c.block, c.key, c.n)
	case toOver:
		a.e = w.p.over(c.n, c.block)
	case toFlush:
		a.e = w.p.flush()
	case toRead:
		a.s, a.e = w.p.read(c.n)
	case toOpen:
		p, blocks, key, e := opens(w.e)
		w.p, a.s, a.e = p, handed(blocks, key, p != nil), e
	case toFormat:
		a.e = formats(w.e, c.g, c.key)
	default:
		a.e = toDisk(w.e, c)
	}
	return a
}

func toDisk(d *disk.Disk, c call) api.Errno {
	switch c.kind {
	case toArm:
		return d.Arm(c.n)
	case toCrash:
		return d.Crash(c.keep...)
	}
	return d.Boot()
}

func looksOf(j *journal.Journal) looks { return looks{j.Super(), j.Used(), j.Room()} }

// like holds all that is told, and what is on the disk, against the plain one. Nothing is read where that would be refused by the disk: it would break the journal.
func (w *pair) like(t *testing.T) {
	t.Helper()
	if w.d.Down() != w.e.Down() {
		t.Fatalf("down: %v, asked %v", w.d.Down(), w.e.Down())
	}
	if got, want := w.d.Seize(), w.e.Seize(); !likeImages(got, want) {
		t.Fatalf("on the disk is%s\nasked%s", shownAs(got), shownAs(want))
	}
	if got, want := looksOf(w.j), w.p.looks(); got != want {
		t.Fatalf("it tells %v, asked %v", got, want)
	}
	if w.d.Down() || w.p.ready() != api.OK {
		return
	}
	for i := -1; i <= w.p.took; i++ {
		want, f := w.p.read(i)
		if s, e := w.j.Read(i); s != want || e != f {
			t.Fatalf("Read(%d): %.20q %d, asked %.20q %d", i, s, e, want, f)
		}
	}
}

// shownAs is an image in words.
func shownAs(x api.Image) string {
	var b strings.Builder
	for i, s := range x.Blocks {
		fmt.Fprintf(&b, "\n  %d %.60s", i, told(s))
	}
	for _, w := range x.Cache {
		fmt.Fprintf(&b, "\n  cached %d %.60s", w.At, told(w.Data))
	}
	return b.String()
}

// steps tells what a call does to the disk behind all these calls, step by step, as the power goes at each one in turn.
func steps(t *testing.T, x api.Image, ahead []call, c call) []string {
	t.Helper()
	var l []string
	was := world(t, x, ahead...).d.Seize()
	for n := 1; ; n++ {
		w := world(t, x, ahead...)
		w.is(t, arms(n), api.OK)
		w.do(t, c)
		now := w.d.Seize()
		if n > 1 {
			l = append(l, stepOf(was, now))
		}
		if !w.d.Down() {
			return l
		}
		was = now
	}
}

// stepOf is which step lies between two images.
func stepOf(was, now api.Image) string {
	if n := len(was.Cache); len(now.Cache) == n+1 {
		return fmt.Sprint(now.Cache[n].At, " ", told(now.Cache[n].Data))
	}
	return "flush"
}

// does asks of a call that it does these steps, in this order.
func does(t *testing.T, x api.Image, ahead []call, c call, want ...string) {
	t.Helper()
	if got := steps(t, x, ahead, c); !slices.Equal(got, want) {
		t.Errorf("%v does\n  %s\nasked\n  %s", c, strings.Join(got, "\n  "), strings.Join(want, "\n  "))
	}
}
