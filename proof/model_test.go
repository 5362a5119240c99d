package proof_test

import (
	"crypto/sha256"
	"encoding/binary"
	"slices"
	"strings"

	"keepsake/api"
	"keepsake/proof"
)

// What stands here are the chapter's words once more, with trees made from above, by halves, and with any digest.

// digest sums a text. Of the library's no two texts with one sum are known; of others many meet.
type digest func(s string) string

func library(s string) string {
	b := sha256.Sum256([]byte(s))
	return string(b[:])
}

// few has so many sums, and no more.
func few(kinds byte) digest {
	return func(s string) string {
		b := sha256.Sum256([]byte(s))
		return hash(b[7] % kinds)
	}
}

// hash is one of 256 hashes.
func hash(b byte) string { return strings.Repeat("h", 31) + string([]byte{b}) }

// four are the four lowest bytes of a number, whatever it is.
func four(n int) string {
	return string(binary.BigEndian.AppendUint32(nil, uint32(n)))
}

// text is what the leaf's hash in the tree is the sum of, whether the leaf may be or not.
func text(l api.Leaf) string { return "\x00" + four(l.Lba) + l.Hash }

func mayBe(l api.Leaf) bool { return l.Lba >= 0 && l.Lba <= 4095 && len(l.Hash) == 32 }

func mayAllBe(l []api.Leaf) bool {
	for i, leaf := range l {
		if !mayBe(leaf) || i > 0 && l[i-1].Lba >= leaf.Lba {
			return false
		}
	}
	return true
}

func (sum digest) texts(l []api.Leaf) []string {
	hashes := []string{}
	for _, leaf := range l {
		hashes = append(hashes, sum(text(leaf)))
	}
	return hashes
}

// cut is how many stand in the left half: the greatest power of two that leaves some for the right one.
func cut(count int) int {
	k := 1
	for k*2 < count {
		k *= 2
	}
	return k
}

func (sum digest) root(hashes []string) string {
	switch n := len(hashes); n {
	case 0:
		return sum("")
	case 1:
		return hashes[0]
	default:
		return sum("\x01" + sum.root(hashes[:cut(n)]) + sum.root(hashes[cut(n):]))
	}
}

func (sum digest) path(hashes []string, i int) api.Path {
	k := cut(len(hashes))
	switch {
	case len(hashes) == 1:
		return nil
	case i < k:
		return append(sum.path(hashes[:k], i), sum.root(hashes[k:]))
	default:
		return append(sum.path(hashes[k:], i-k), sum.root(hashes[:k]))
	}
}

// climb are the texts of the nodes by which a path leads up, from below; false, if it is not as long as those from there.
func (sum digest) climb(count, i int, leaf string, path api.Path) ([]string, bool) {
	if count == 1 || len(path) == 0 {
		return nil, count == 1 && len(path) == 0
	}
	k, end := cut(count), len(path)-1
	if i < k {
		l, ok := sum.climb(k, i, leaf, path[:end])
		return append(l, "\x01"+sum.over(leaf, l)+path[end]), ok
	}
	l, ok := sum.climb(count-k, i-k, leaf, path[:end])
	return append(l, "\x01"+path[end]+sum.over(leaf, l)), ok
}

// over is the node that stands above all others.
func (sum digest) over(leaf string, texts []string) string {
	if len(texts) == 0 {
		return leaf
	}
	return sum(texts[len(texts)-1])
}

func (sum digest) leads(root string, count, i int, leaf string, path api.Path) bool {
	if i < 0 || i >= count || len(leaf) != 32 || slices.ContainsFunc(path, func(s string) bool { return len(s) != 32 }) {
		return false
	}
	l, ok := sum.climb(count, i, leaf, path)
	return ok && sum.over(leaf, l) == root
}

// meet is merkle's Clash.
func (sum digest) meet(hashes []string, i int, leaf string, path api.Path) (string, string, bool) {
	if !sum.leads(sum.root(hashes), len(hashes), i, leaf, path) || leaf == hashes[i] {
		return "", "", false
	}
	theirs, _ := sum.climb(len(hashes), i, leaf, path)
	ours, _ := sum.climb(len(hashes), i, hashes[i], sum.path(hashes, i))
	for n := range ours {
		if theirs[n] != ours[n] && sum(theirs[n]) == sum(ours[n]) {
			return theirs[n], ours[n], true
		}
	}
	return "", "", false
}

// trees are those of this digest.
func (sum digest) trees() proof.Trees {
	return proof.Trees{
		Leaf:  func(s string) string { return sum("\x00" + s) },
		Root:  func(hashes []string) (string, api.Errno) { return sum.root(hashes), api.OK },
		Path:  func(hashes []string, i int) (api.Path, api.Errno) { return sum.path(hashes, i), api.OK },
		Check: sum.leads,
		Clash: sum.meet,
	}
}

func (sum digest) rootOf(l []api.Leaf) (string, api.Errno) {
	if !mayAllBe(l) {
		return "", api.ErrArg
	}
	return sum.root(sum.texts(l)), api.OK
}

func (sum digest) prove(l []api.Leaf, lba int) (api.Proof, api.Errno) {
	if !mayAllBe(l) || lba < 0 || lba > 4095 {
		return api.Proof{}, api.ErrArg
	}
	hashes, at := sum.texts(l), 0
	for _, leaf := range l {
		if leaf.Lba == lba {
			return api.Proof{Found: true, At: at, Here: leaf, Up: sum.path(hashes, at)}, api.OK
		}
		if leaf.Lba < lba {
			at++
		}
	}
	p := api.Proof{At: at}
	if at < len(l) {
		p.Here, p.Up = l[at], sum.path(hashes, at)
	}
	if at > 0 {
		p.Ahead, p.Left = l[at-1], sum.path(hashes, at-1)
	}
	return p, api.OK
}

func (sum digest) tells(root string, count, lba int, p api.Proof) (string, bool, api.Errno) {
	if count < 0 || count > 4096 || lba < 0 || lba > 4095 {
		return "", false, api.ErrArg
	}
	leads := func(l api.Leaf, at int, path api.Path) bool {
		return mayBe(l) && sum.leads(root, count, at, sum(text(l)), path)
	}
	isEmpty := func(l api.Leaf, path api.Path) bool { return l.Lba == 0 && l.Hash == "" && len(path) == 0 }
	if p.Found {
		if p.At < 0 || p.At >= count || !leads(p.Here, p.At, p.Up) || p.Here.Lba != lba || !isEmpty(p.Ahead, p.Left) {
			return "", false, api.ErrProof
		}
		return p.Here.Hash, true, api.OK
	}
	is := p.At >= 0 && p.At <= count && (count > 0 || root == sum(""))
	if p.At == count {
		is = is && isEmpty(p.Here, p.Up)
	} else {
		is = is && leads(p.Here, p.At, p.Up) && p.Here.Lba > lba
	}
	if p.At == 0 {
		is = is && isEmpty(p.Ahead, p.Left)
	} else {
		is = is && leads(p.Ahead, p.At-1, p.Left) && p.Ahead.Lba < lba
	}
	if !is {
		return "", false, api.ErrProof
	}
	return "", false, api.OK
}

// How Clash ends.
const (
	noLeaves  = "leaves that may not be"
	noTell    = "a proof that Tells refuses"
	sameTell  = "a proof that tells the same"
	hereLeaf  = "Here, in its leaf"
	hereNode  = "Here, in a node"
	aheadLeaf = "Ahead, in its leaf"
	aheadNode = "Ahead, in a node"
	neither   = "neither"
)

func (sum digest) clash(l []api.Leaf, lba int, p api.Proof) (a, b, how string) {
	if !mayAllBe(l) {
		return "", "", noLeaves
	}
	hashes := sum.texts(l)
	said, found, e := sum.tells(sum.root(hashes), len(l), lba, p)
	if e != api.OK {
		return "", "", noTell
	}
	own, _ := sum.prove(l, lba)
	ownSaid, ownFound, _ := sum.tells(sum.root(hashes), len(l), lba, own)
	if said == ownSaid && found == ownFound {
		return "", "", sameTell
	}
	if p.At < len(l) && text(p.Here) != text(l[p.At]) {
		return sum.unlike(hashes, p.At, p.Here, l[p.At], p.Up, hereLeaf, hereNode)
	}
	if !found && p.At > 0 && text(p.Ahead) != text(l[p.At-1]) {
		return sum.unlike(hashes, p.At-1, p.Ahead, l[p.At-1], p.Left, aheadLeaf, aheadNode)
	}
	return "", "", neither
}

func (sum digest) unlike(hashes []string, at int, theirs, ours api.Leaf, path api.Path, leaf, node string) (string, string, string) {
	if sum(text(theirs)) == sum(text(ours)) {
		return text(theirs), text(ours), leaf
	}
	a, b, found := sum.meet(hashes, at, sum(text(theirs)), path)
	if !found {
		return "", "", neither
	}
	return a, b, node
}
