package tree

import (
	"iter"
	"slices"

	"purser/api"
)

// backwards produces the nodes of the path to a node, the last one first.
func (t *Tree) backwards(x api.Hash) iter.Seq[*node] {
	return func(yield func(*node) bool) {
		for n := t.find(x); n != nil && yield(n) && n.Hash != t.root; {
			n = t.find(n.Header.Prev)
		}
	}
}

// Path is the hashes of the path to a node, from the root on.
func (t *Tree) Path(x api.Hash) []api.Hash {
	var l []api.Hash
	for n := range t.backwards(x) {
		l = append(l, n.Hash)
	}
	slices.Reverse(l)
	return l
}

// At is the node at a height on the path to a node.
func (t *Tree) At(x api.Hash, height int) (api.Node, api.Errno) {
	if t.none() {
		return api.Node{}, api.ErrNil
	}
	found, e := api.Node{}, api.ErrTree
search:
	for n := range t.backwards(x) {
		if n.Height == height {
			found, e = n.Node, api.OK
			break search
		}
	}
	return found, e
}

// Fork is the hash of the last node that the paths to two nodes have in common.
func (t *Tree) Fork(x, y api.Hash) (api.Hash, api.Errno) {
	if t.none() {
		return api.Hash{}, api.ErrNil
	}
	a, b := t.find(x), t.find(y)
	if a == nil || b == nil {
		return api.Hash{}, api.ErrTree
	}
	for a != b {
		if a.Height >= b.Height {
			a = t.find(a.Header.Prev)
		} else {
			b = t.find(b.Header.Prev)
		}
	}
	return a.Hash, api.OK
}

// Behind is the hashes of the nodes whose parent is x, in the order in which they were added.
func (t *Tree) Behind(x api.Hash) []api.Hash {
	var children []*node
	if t.find(x) == nil {
		return nil
	}
	for _, n := range t.nodes {
		if n.Header.Prev == x && n.Hash != t.root {
			children = append(children, n)
		}
	}
	slices.SortFunc(children, bySeen)
	var l []api.Hash
	for _, n := range children {
		l = append(l, n.Hash)
	}
	return l
}
