package segment_test

import (
	"crypto/sha256"
	"encoding/binary"
	"slices"

	"keepsake/api"
)

// What stands here are the words of the chapters 15 to 17 once more: what was put as a row that is gone through from behind, and trees made from above, by halves.

// library is the library's digest.
func library(s string) string {
	b := sha256.Sum256([]byte(s))
	return string(b[:])
}

// four are the four lowest bytes of a number, whatever it is.
func four(n int) string {
	return string(binary.BigEndian.AppendUint32(nil, uint32(n)))
}

// put is what a call of Put is handed.
type put struct {
	lba, slot int
	cipher    string
}

func (w put) mayBe() bool {
	return w.lba >= 0 && w.lba <= 4095 && w.slot >= 0 && w.slot <= last && len(w.cipher) <= 4000
}

// plain is a segment: all that was put, as it came.
type plain struct {
	epoch int
	puts  []put
}

func (p *plain) put(w put) api.Errno {
	if !w.mayBe() {
		return api.ErrArg
	}
	p.puts = append(p.puts, w)
	return api.OK
}

func (p *plain) leaves() []api.Leaf {
	var l []api.Leaf
	for lba := range 4096 {
		for _, w := range slices.Backward(p.puts) {
			if w.lba == lba {
				l = append(l, api.Leaf{Lba: lba, Hash: library(four(p.epoch) + four(w.slot) + w.cipher)})
				break
			}
		}
	}
	return l
}

// hashes are the leaves' hashes in their tree.
func hashes(l []api.Leaf) []string {
	h := []string{}
	for _, leaf := range l {
		h = append(h, library("\x00"+four(leaf.Lba)+leaf.Hash))
	}
	return h
}

// cut is how many stand in the left half: the greatest power of two that leaves some for the right one.
func cut(count int) int {
	k := 1
	for k*2 < count {
		k *= 2
	}
	return k
}

func root(h []string) string {
	switch n := len(h); n {
	case 0:
		return library("")
	case 1:
		return h[0]
	default:
		return library("\x01" + root(h[:cut(n)]) + root(h[cut(n):]))
	}
}

func path(h []string, i int) api.Path {
	k := cut(len(h))
	switch {
	case len(h) == 1:
		return nil
	case i < k:
		return append(path(h[:k], i), root(h[k:]))
	default:
		return append(path(h[k:], i-k), root(h[:k]))
	}
}

func prove(l []api.Leaf, lba int) (api.Proof, api.Errno) {
	if lba < 0 || lba > 4095 {
		return api.Proof{}, api.ErrArg
	}
	h, p := hashes(l), api.Proof{}
	for _, leaf := range l {
		if leaf.Lba < lba {
			p.At++
		}
	}
	if p.At < len(l) {
		p.Here, p.Up, p.Found = l[p.At], path(h, p.At), l[p.At].Lba == lba
	}
	if p.At > 0 && !p.Found {
		p.Ahead, p.Left = l[p.At-1], path(h, p.At-1)
	}
	return p, api.OK
}
