package record_test

import (
	"encoding/binary"
	"fmt"
	"math"
	"regexp"
	"strings"

	"keepsake/api"
)

// What stands here are the chapter's words once more, kind by kind and byte by byte.

const (
	lastEpoch = 4294967295
	lastTime  = 1099511627776
	lastCount = 4096
	numbersTo = 29
)

// The kinds, as the constants of api number them.
const (
	closed   = 1
	retained = 2
	holds    = 3
	released = 4
	purged   = 5
)

// say are the letters of what the kind says beside Kind, Epoch and Time: Count, Target, Until, Root, Name.
func say(kind int) string {
	switch kind {
	case closed:
		return "C R"
	case retained, purged:
		return "T U"
	case holds:
		return "T N"
	case released:
		return "N"
	}
	return ""
}

var nameForm = regexp.MustCompile(`\A[a-z0-9]{1,16}\z`)

func wantName(s string) bool { return nameForm.MatchString(s) }

// wantCheck asks of each thing, whether the kind says it or not, if it is as it must be.
func wantCheck(r api.Record) api.Errno {
	says := func(letter string, fit, none bool) bool {
		if strings.Contains(say(r.Kind), letter) {
			return fit
		}
		return none
	}
	for _, right := range []bool{
		say(r.Kind) != "",
		!(r.Epoch < 0 || r.Epoch > lastEpoch),
		!(r.Time < 0 || r.Time > lastTime),
		says("C", r.Count >= 0 && r.Count <= lastCount, r.Count == 0),
		says("T", r.Target >= 0 && r.Target < r.Epoch, r.Target == 0),
		says("U", r.Until >= 0 && r.Until <= lastTime, r.Until == 0),
		says("R", len(r.Root) == 32, r.Root == ""),
		says("N", wantName(r.Name), r.Name == ""),
	} {
		if !right {
			return api.ErrArg
		}
	}
	return api.OK
}

// front are numbers as a record has them, be they such as may be or not: of what has no room the lowest bytes.
func front(kind, epoch, time, count, target, until int) string {
	b := []byte{byte(kind)}
	b = binary.BigEndian.AppendUint32(b, uint32(epoch))
	b = binary.BigEndian.AppendUint64(b, uint64(time))
	b = binary.BigEndian.AppendUint32(b, uint32(count))
	b = binary.BigEndian.AppendUint32(b, uint32(target))
	return string(binary.BigEndian.AppendUint64(b, uint64(until)))
}

// long is a length in four bytes, text a text behind its own.
func long(n int) string { return string(binary.BigEndian.AppendUint32(nil, uint32(n))) }

func text(s string) string { return long(len(s)) + s }

// laid are a record's bytes, be it one that may be or not.
func laid(r api.Record) string {
	return front(r.Kind, r.Epoch, r.Time, r.Count, r.Target, r.Until) + text(r.Root) + text(r.Name)
}

func wantPut(r api.Record) (string, api.Errno) {
	if e := wantCheck(r); e != api.OK {
		return "", e
	}
	return laid(r), api.OK
}

// cursor goes through bytes from the front; short, if it was asked for more than there are.
type cursor struct {
	s     string
	at    int
	short bool
}

func (c *cursor) bytes(n int) string {
	if c.short || n > len(c.s)-c.at {
		c.short = true
		return ""
	}
	c.at += n
	return c.s[c.at-n : c.at]
}

func (c *cursor) number(width int) uint64 {
	var n uint64
	for _, b := range []byte(c.bytes(width)) {
		n = n*256 + uint64(b)
	}
	return n
}

// whole is a number that an int may be; what is greater is as wrong as -1, that none of a record's may be.
func (c *cursor) whole(width int) int {
	n := c.number(width)
	if n > math.MaxInt64 {
		return -1
	}
	return int(n)
}

func wantTake(s string) (api.Record, string, api.Errno) {
	c := &cursor{s: s}
	var r api.Record
	r.Kind, r.Epoch, r.Time = c.whole(1), c.whole(4), c.whole(8)
	r.Count, r.Target, r.Until = c.whole(4), c.whole(4), c.whole(8)
	r.Root = c.bytes(c.whole(4))
	r.Name = c.bytes(c.whole(4))
	if c.short || wantCheck(r) != api.OK {
		return api.Record{}, "", api.ErrForm
	}
	return r, s[c.at:], api.OK
}

func wantShow(r api.Record) string {
	if wantCheck(r) != api.OK {
		return ""
	}
	return map[int]string{
		closed:   fmt.Sprintf("close %d %d at %d", r.Epoch, r.Count, r.Time),
		retained: fmt.Sprintf("retain %d %d at %d", r.Target, r.Until, r.Time),
		holds:    fmt.Sprintf("hold %s %d at %d", r.Name, r.Target, r.Time),
		released: fmt.Sprintf("release %s at %d", r.Name, r.Time),
		purged:   fmt.Sprintf("purge %d %d at %d", r.Target, r.Until, r.Time),
	}[r.Kind]
}
