package receipt_test

import (
	"crypto/hmac"
	"crypto/sha256"
	"encoding/binary"
	"strings"

	"keepsake/api"
)

// What stands here are the words of the chapters 4, 18, 19, 20 and 21 once more, by the library's HMAC.

const (
	lastEpoch = 4294967295
	lastSeq   = 4294967295
	lastTime  = 1099511627776
	lastCount = 4096
	mostOn    = 4096
	// long is how many bytes each receipt has: four of its Seq, 64 of two tags, 29 of the record's numbers, 36 of its Root, four of a Name that is empty.
	long = 137
)

// The kinds, as the constants of api number them.
const (
	closed   = 1
	retained = 2
	holds    = 3
	released = 4
	purged   = 5
)

// library is the library's tag.
func library(key, msg string) string {
	h := hmac.New(sha256.New, []byte(key))
	h.Write([]byte(msg))
	return string(h.Sum(nil))
}

// four and eight are numbers in so many bytes.
func four(n int) string { return string(binary.BigEndian.AppendUint32(nil, uint32(n))) }

func eight(n int) string { return string(binary.BigEndian.AppendUint64(nil, uint64(n))) }

// text is a text behind its length.
func text(s string) string { return four(len(s)) + s }

// purpose is what derive says of a name and numbers.
func purpose(name string, numbers ...int) string {
	s := text(name) + string([]byte{byte(len(numbers))})
	for _, n := range numbers {
		s += eight(n)
	}
	return s
}

// keys are those of a root, from the first epoch on, as far as they were asked for.
var keys = map[[2]string][]string{}

// keyOf is the key of an epoch, and macOf that under which its records are tagged.
func keyOf(root string, first, epoch int) string {
	if len(keys) > 1000 {
		clear(keys)
	}
	by := [2]string{root, eight(first)}
	l := keys[by]
	for len(l) <= epoch-first {
		if len(l) == 0 {
			l = append(l, library(root, purpose("seal", first)))
		} else {
			l = append(l, library(l[len(l)-1], purpose("next")))
		}
	}
	keys[by] = l
	return l[epoch-first]
}

func macOf(key string) string { return library(key, purpose("mac")) }

// tagOf is the tag of a record behind another tag, under its epoch's key.
func tagOf(root string, first int, was string, seq int, r api.Record) string {
	return library(macOf(keyOf(root, first, r.Epoch)), said(was, seq, r))
}

// said is what is said of a record, and laid are its bytes.
func said(was string, seq int, r api.Record) string { return was + four(seq) + laid(r) }

func laid(r api.Record) string {
	return strings.Join([]string{string([]byte{byte(r.Kind)}), four(r.Epoch), eight(r.Time), four(r.Count), four(r.Target), eight(r.Until), text(r.Root), text(r.Name)}, "")
}

func within(n, last int) bool { return n >= 0 && n <= last }

// closureMay tells of each thing of a closure's record whether it is as it must be.
func closureMay(r api.Record) bool {
	return r.Kind == closed && within(r.Epoch, lastEpoch) && within(r.Time, lastTime) && within(r.Count, lastCount) && len(r.Root) == 32 && r.Target == 0 && r.Until == 0 && r.Name == ""
}

func mayBe(r api.Receipt) bool {
	return closureMay(r.Record) && within(r.Seq, lastSeq) && len(r.Was) == 32 && len(r.Tag) == 32
}

// closureAt is what stands in the row for the closure i, may it be or not; and whether there is one.
func closureAt(l []api.Sealed, i int) (api.Receipt, bool) {
	was := strings.Repeat("\x00", 32)
	for at, s := range l {
		if at == i && s.Record.Kind == closed {
			return api.Receipt{Seq: at, Record: s.Record, Was: was, Tag: s.Tag}, true
		}
		was = s.Tag
	}
	return api.Receipt{}, false
}

func wantMake(l []api.Sealed, i int) (api.Receipt, api.Errno) {
	r, found := closureAt(l, i)
	if !found {
		return api.Receipt{}, api.ErrNone
	}
	if !mayBe(r) {
		return api.Receipt{}, api.ErrArg
	}
	return r, api.OK
}

// wantAll goes through the row from its end, and puts what it finds ahead of the rest.
func wantAll(l []api.Sealed) []api.Receipt {
	n := 0
	for _, s := range l {
		if s.Record.Kind == closed {
			n++
		}
	}
	out := make([]api.Receipt, n)
	for i := len(l) - 1; i >= 0; i-- {
		r := api.Receipt{Seq: i, Record: l[i].Record, Tag: l[i].Tag, Was: strings.Repeat("\x00", 32)}
		if i > 0 {
			r.Was = l[i-1].Tag
		}
		if mayBe(r) {
			n--
			out[n] = r
		}
	}
	// of closures of which no receipt may be the places at the front are left over
	return out[n:]
}

// wantCheck tells the errors in their order: of several arguments that may not be, all are told alike.
func wantCheck(root string, first int, r api.Receipt) api.Errno {
	if len(root) != 32 || !within(first, lastEpoch) || !mayBe(r) {
		return api.ErrArg
	}
	beyond := r.Record.Epoch - first
	switch {
	case beyond < 0:
		return api.ErrArg
	case beyond > mostOn:
		return api.ErrLimit
	case r.Tag != tagOf(root, first, r.Was, r.Seq, r.Record):
		return api.ErrTag
	}
	return api.OK
}

func wantPut(r api.Receipt) (string, api.Errno) {
	if !mayBe(r) {
		return "", api.ErrArg
	}
	return four(r.Seq) + r.Was + r.Tag + laid(r.Record), api.OK
}

// wantTake reads each thing at its own place, as all receipts have as many bytes; the lengths that stand among these are right if what was read is put so.
func wantTake(s string) (api.Receipt, string, api.Errno) {
	if len(s) < long {
		return api.Receipt{}, "", api.ErrForm
	}
	number := func(at, width int) int {
		n := 0
		for _, b := range []byte(s[at : at+width]) {
			n = n*256 + int(b)
		}
		return n
	}
	r := api.Receipt{
		Seq:    number(0, 4),
		Was:    s[4:36],
		Tag:    s[36:68],
		Record: api.Record{Kind: number(68, 1), Epoch: number(69, 4), Time: number(73, 8), Count: number(81, 4), Target: number(85, 4), Until: number(89, 8), Root: s[101:133]},
	}
	if put, e := wantPut(r); e != api.OK || put != s[:long] {
		return api.Receipt{}, "", api.ErrForm
	}
	return r, s[long:], api.OK
}

func wantOf(l []api.Sealed, r api.Receipt) bool {
	mine, found := closureAt(l, r.Seq)
	return found && mayBe(r) && mine.Record == r.Record && mine.Was == r.Was && mine.Tag == r.Tag
}

func wantForge(mine []api.Sealed, r api.Receipt) (string, string, bool) {
	if mayBe(r) && !wantOf(mine, r) {
		return said(r.Was, r.Seq, r.Record), r.Tag, true
	}
	return "", "", false
}
