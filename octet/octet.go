// Package octet is layer 1: numbers and texts as bytes (see shared/doc/01-octet.md).
package octet

import (
	"math"
	"strings"

	"keepsake/api"
)

const (
	// widest is as many bytes as an int has: more would be noughts or too much.
	widest = 8
	// head is how many bytes of a text tell its length.
	head = 4
	// fullest is as far as Fill fills.
	fullest = 65536
)

// Put lays n in just width bytes, the highest one first, so that bytes stand in the order of their numbers.
func Put(n, width int) (string, api.Errno) {
	if !isWidth(width) || n < 0 || n>>(8*width) != 0 {
		return "", api.ErrArg
	}
	b := make([]byte, width)
	for i := range width {
		b[width-1-i] = byte(n >> (8 * i))
	}
	return string(b), api.OK
}

// Get takes the number of s. It gathers without a sign, as eight bytes may tell more than an int holds.
func Get(s string) (int, api.Errno) {
	if !isWidth(len(s)) {
		return 0, api.ErrForm
	}
	var n uint64
	for i := range len(s) {
		n = n<<8 | uint64(s[i])
	}
	if n > math.MaxInt64 {
		return 0, api.ErrForm
	}
	return int(n), api.OK
}

// Pack lays the numbers, each in its width, one behind the other.
func Pack(widths []int, l ...int) (string, api.Errno) {
	if len(l) != len(widths) {
		return "", api.ErrArg
	}
	var out []byte
	e := first(len(l), func(i int) api.Errno {
		piece, wrong := Put(l[i], widths[i])
		out = append(out, piece...)
		return wrong
	})
	if e != api.OK {
		return "", e
	}
	return string(out), api.OK
}

// Unpack takes the numbers that s has in these widths. All widths are looked at ahead of s, as a wrong one is told first.
func Unpack(widths []int, s string) ([]int, api.Errno) {
	need := 0
	e := first(len(widths), func(i int) api.Errno {
		if !isWidth(widths[i]) {
			return api.ErrArg
		}
		need += widths[i]
		return api.OK
	})
	if e != api.OK {
		return nil, e
	}
	if len(s) != need {
		return nil, api.ErrForm
	}
	var out []int
	e = first(len(widths), func(i int) api.Errno {
		n, wrong := Get(s[:widths[i]])
		out, s = append(out, n), s[widths[i]:]
		return wrong
	})
	if e != api.OK {
		return nil, e
	}
	return out, api.OK
}

// Text lays s behind its length, so that it can be cut off again whatever is behind it.
func Text(s string) string {
	// the remainder by 2^32 always has room in four bytes, so that nothing is refused here
	length, _ := Put(len(s)%(1<<(8*head)), head)
	return length + s
}

// Cut takes the text that s begins with, and the rest.
func Cut(s string) (string, string, api.Errno) {
	if len(s) < head {
		return "", "", api.ErrForm
	}
	// four bytes are always a number, so that nothing is refused here
	n, _ := Get(s[:head])
	s = s[head:]
	if len(s) < n {
		return "", "", api.ErrForm
	}
	return s[:n], s[n:], api.OK
}

// Fill lays noughts behind s. What is too long is looked at first, so that no great n asks for memory.
func Fill(s string, n int) (string, api.Errno) {
	if len(s) > n || n > fullest {
		return "", api.ErrArg
	}
	return s + strings.Repeat("\x00", n-len(s)), api.OK
}

func isWidth(n int) bool { return 1 <= n && n <= widest }

// first goes over the numbers below n, and answers what wrong tells of the first one of which it tells an error: nothing behind that one is looked at.
func first(n int, wrong func(i int) api.Errno) api.Errno {
	for i := range n {
		if e := wrong(i); e != api.OK {
			return e
		}
	}
	return api.OK
}
