package proof

import "keepsake/api"

// Trees are those of a test, in which unlike leaves may meet: two unlike texts with one sum can't be had of the digest.
type Trees struct {
	Leaf  func(said string) string
	Root  func(leaves []string) (string, api.Errno)
	Path  func(leaves []string, i int) (api.Path, api.Errno)
	Check func(root string, count, i int, leaf string, path api.Path) bool
	Clash func(leaves []string, i int, leaf string, path api.Path) (string, string, bool)
}

// Merkles are the package's own.
func Merkles() Trees {
	t := merkles()
	return Trees{t.leaf, t.root, t.path, t.check, t.clash}
}

func (t Trees) inner() trees { return trees{t.Leaf, t.Root, t.Path, t.Check, t.Clash} }

func (t Trees) RootOf(l []api.Leaf) (string, api.Errno) { return t.inner().rootOf(l) }

func (t Trees) Prove(l []api.Leaf, lba int) (api.Proof, api.Errno) { return t.inner().prove(l, lba) }

func (t Trees) Tells(root string, count, lba int, p api.Proof) (string, bool, api.Errno) {
	return t.inner().tells(root, count, lba, p)
}

func (t Trees) ClashOf(l []api.Leaf, lba int, p api.Proof) (string, string, bool) {
	return t.inner().clashOf(l, lba, p)
}
