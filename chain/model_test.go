package chain_test

import (
	"crypto/hmac"
	"crypto/sha256"
	"encoding/binary"
	"regexp"
	"slices"
	"strings"

	"keepsake/api"
)

// What stands here are the words of the chapters 4, 18, 19 and 20 once more, by the library's HMAC and SHA-256.

const (
	lastEpoch = 4294967295
	lastTime  = 1099511627776
	lastCount = 4096
	mostOn    = 4096
)

// The kinds, as the constants of api number them.
const (
	closed   = 1
	retained = 2
	holds    = 3
	released = 4
	purged   = 5
)

// library is the library's tag, summed the library's sum.
func library(key, msg string) string {
	h := hmac.New(sha256.New, []byte(key))
	h.Write([]byte(msg))
	return string(h.Sum(nil))
}

func summed(s string) string {
	sum := sha256.Sum256([]byte(s))
	return string(sum[:])
}

// four and eight are numbers in so many bytes.
func four(n int) string { return string(binary.BigEndian.AppendUint32(nil, uint32(n))) }

func eight(n int) string { return string(binary.BigEndian.AppendUint64(nil, uint64(n))) }

// text is a text behind its length.
func text(s string) string { return four(len(s)) + s }

// purpose is what derive says of a name and numbers.
func purpose(name string, numbers ...int) string {
	s := text(name) + string([]byte{byte(len(numbers))})
	for _, n := range numbers {
		s += eight(n)
	}
	return s
}

// keys are those of a root, from the first epoch on, as far as they were asked for.
var keys = map[[2]string][]string{}

// keyOf is the key of an epoch, and macOf that under which its records are tagged.
func keyOf(root string, first, epoch int) string {
	if len(keys) > 1000 {
		clear(keys)
	}
	by := [2]string{root, eight(first)}
	l := keys[by]
	for len(l) <= epoch-first {
		if len(l) == 0 {
			l = append(l, library(root, purpose("seal", first)))
		} else {
			l = append(l, library(l[len(l)-1], purpose("next")))
		}
	}
	keys[by] = l
	return l[epoch-first]
}

func macOf(key string) string { return library(key, purpose("mac")) }

var nameForm = regexp.MustCompile(`\A[a-z0-9]{1,16}\z`)

// mayBe tells of each thing of a record, by its kind, whether it is as it must be.
func mayBe(r api.Record) bool {
	within := func(n, last int) bool { return n >= 0 && n <= last }
	isTarget := r.Target >= 0 && r.Target < r.Epoch
	noCount, noTarget, noUntil, noRoot, noName := r.Count == 0, r.Target == 0, r.Until == 0, r.Root == "", r.Name == ""
	if !within(r.Epoch, lastEpoch) || !within(r.Time, lastTime) {
		return false
	}
	switch r.Kind {
	case closed:
		return within(r.Count, lastCount) && len(r.Root) == 32 && noTarget && noUntil && noName
	case retained, purged:
		return isTarget && within(r.Until, lastTime) && noCount && noRoot && noName
	case holds:
		return isTarget && nameForm.MatchString(r.Name) && noCount && noUntil && noRoot
	case released:
		return nameForm.MatchString(r.Name) && noCount && noTarget && noUntil && noRoot
	}
	return false
}

// laid are a record's bytes.
func laid(r api.Record) string {
	return strings.Join([]string{string([]byte{byte(r.Kind)}), four(r.Epoch), eight(r.Time), four(r.Count), four(r.Target), eight(r.Until), text(r.Root), text(r.Name)}, "")
}

func wantSaid(was string, seq int, r api.Record) (string, api.Errno) {
	if len(was) == 32 && seq >= 0 && seq <= 4294967295 && mayBe(r) {
		return was + four(seq) + laid(r), api.OK
	}
	return "", api.ErrArg
}

func wantTag(key, was string, seq int, r api.Record) (string, api.Errno) {
	said, e := wantSaid(was, seq, r)
	if len(key) != 32 || e != api.OK {
		return "", api.ErrArg
	}
	return library(macOf(key), said), api.OK
}

// openBehind is the epoch that is open behind records that follow.
func openBehind(first int, l []api.Record) int {
	for i := range l {
		if l[i].Kind == closed {
			first++
		}
	}
	return first
}

// wantFollow asks each record anew how many closures are ahead of it, and what is the Time of the one ahead.
func wantFollow(first int, l []api.Record) (int, int, api.Errno) {
	if first < 0 || first > lastEpoch {
		return 0, 0, api.ErrArg
	}
	for i, r := range l {
		open := openBehind(first, l[:i])
		if !mayBe(r) || r.Epoch != open || i > 0 && r.Time < l[i-1].Time {
			return open, i, api.ErrChain
		}
	}
	return openBehind(first, l), len(l), api.OK
}

// wantMay tells the errors of Seal and Check that no tag has a part in, in their order.
func wantMay(root string, first int, l []api.Record) (int, int, api.Errno) {
	if len(root) != 32 {
		return 0, 0, api.ErrArg
	}
	open, at, e := wantFollow(first, l)
	if e != api.OK {
		return open, at, e
	}
	for _, r := range l {
		if r.Epoch > first+mostOn {
			return first, 0, api.ErrLimit
		}
	}
	return open, at, e
}

func wantSeal(root string, first int, l []api.Record) ([]api.Sealed, api.Errno) {
	if _, _, e := wantMay(root, first, l); e != api.OK {
		return nil, e
	}
	return sealAll(root, first, l), api.OK
}

// sealAll are records with their tags, of those that may be sealed.
func sealAll(root string, first int, l []api.Record) []api.Sealed {
	var out []api.Sealed
	was := strings.Repeat("\x00", 32)
	for i, r := range l {
		was = library(macOf(keyOf(root, first, r.Epoch)), was+four(i)+laid(r))
		out = append(out, api.Sealed{Record: r, Tag: was})
	}
	return out
}

// recordsOf are the records, without their tags.
func recordsOf(l []api.Sealed) []api.Record {
	var out []api.Record
	for _, s := range l {
		out = append(out, s.Record)
	}
	return out
}

func wantCheck(root string, first int, l []api.Sealed) (int, int, api.Errno) {
	records := recordsOf(l)
	open, at, e := wantMay(root, first, records)
	if e != api.OK {
		return open, at, e
	}
	for i, s := range sealAll(root, first, records) {
		if s.Tag != l[i].Tag {
			return openBehind(first, records[:i]), i, api.ErrTag
		}
	}
	return open, at, e
}

func wantLast(l []api.Sealed) string {
	last := strings.Repeat("\x00", 32)
	for _, s := range l {
		last = s.Tag
	}
	return last
}

func wantSum(l []api.Sealed) string {
	sum := summed("")
	for _, s := range l {
		sum = summed(sum + s.Tag)
	}
	return sum
}

// common is how many of the first of two rows are the same.
func common(mine, theirs []api.Sealed) int {
	n := min(len(mine), len(theirs))
	for !slices.Equal(mine[:n], theirs[:n]) {
		n--
	}
	return n
}

func wantForge(mine, theirs []api.Sealed, below int) (int, string, string, bool) {
	at := common(mine, theirs)
	if at == len(theirs) {
		return 0, "", "", false
	}
	s := theirs[at]
	said, e := wantSaid(wantLast(theirs[:at]), at, s.Record)
	if !(s.Record.Epoch < below) || e != api.OK {
		return 0, "", "", false
	}
	return s.Record.Epoch, said, s.Tag, true
}
