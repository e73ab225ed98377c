package walk

import (
	"cahier/api"
	"cahier/chain"
	"cahier/node"
)

// maxLevels: no leaf of a right tree is more levels below its root.
const maxLevels = 20

// aim is how one key of a tree is found.
type aim struct {
	kid   func(n api.Node) int // which of an inner node's kids leads to it
	place func(n api.Node) int // where in a leaf it stands; outside of its keys: it isn't there
	turn  int                  // from a kid to the one in which it is, if it isn't below that
}

// from aims at the least key that is at or above a key; past: above it.
func from(key string, past bool) aim {
	return aim{
		kid:   func(n api.Node) int { return count(n, key, true) },
		place: func(n api.Node) int { return count(n, key, past) },
		turn:  1,
	}
}

// to aims at the greatest key that is at or below a key; past: below it.
func to(key string, past bool) aim {
	return aim{
		kid:   func(n api.Node) int { return count(n, key, !past) },
		place: func(n api.Node) int { return count(n, key, !past) - 1 },
		turn:  -1,
	}
}

// count: how many of a node's keys are below a key; same: or are it.
func count(n api.Node, key string, same bool) int {
	i, found := node.Find(n, key)
	if found && same {
		return i + 1
	}
	return i
}

// pairAt: the pair that is aimed at, if there is one, and its key is to be met.
func pairAt(p api.Pages, root int, a aim, meets func(key string) bool) (api.Pair, bool, api.Errno) {
	leaf, e := a.leaf(p, root)
	if e != api.OK {
		return api.Pair{}, false, e
	}
	i := a.place(leaf)
	// The value of a pair that isn't met isn't read: its pages may fail.
	if !holds(leaf, i) || !meets(leaf.Keys[i]) {
		return api.Pair{}, false, api.OK
	}
	value, e := chain.Value(p, leaf.Cells[i])
	if e != api.OK {
		return api.Pair{}, false, e
	}
	return api.Pair{Key: leaf.Keys[i], Val: value}, true, api.OK
}

// leaf: the one in which the key is, if it is in the tree.
func (a aim) leaf(p api.Pages, root int) (api.Node, api.Errno) {
	leaf, beside, e := a.down(p, root)
	if e != api.OK || holds(leaf, a.place(leaf)) || beside == 0 {
		return leaf, e
	}
	// All that is below the page beside lies on the side of the key that is
	// aimed at: the same way leads to the nearest one there.
	leaf, _, e = a.down(p, beside)
	if e != api.OK {
		return api.Node{}, e
	}
	if !holds(leaf, a.place(leaf)) {
		return api.Node{}, api.ErrBad
	}
	return leaf, api.OK
}

// down goes down from a page to a leaf; it, and the page to which to turn if the key isn't there (0: none).
func (a aim) down(p api.Pages, at int) (api.Node, int, api.Errno) {
	beside := 0
	for range maxLevels + 1 {
		n, e := load(p, at)
		if e != api.OK {
			return api.Node{}, 0, e
		}
		if n.Leaf {
			return n, beside, api.OK
		}
		i := a.kid(n)
		if j := i + a.turn; j >= 0 && j < len(n.Kids) {
			beside = n.Kids[j]
		}
		at = n.Kids[i]
	}
	return api.Node{}, 0, api.ErrBad
}

// holds: whether a leaf has a key at i.
func holds(leaf api.Node, i int) bool { return i >= 0 && i < len(leaf.Keys) }

// load: the node on a page; ErrBad, if it is none's.
func load(p api.Pages, at int) (api.Node, api.Errno) {
	page, e := p.Get(at)
	if e != api.OK {
		return api.Node{}, e
	}
	n, e := node.Decode(page)
	if e != api.OK {
		return api.Node{}, api.ErrBad
	}
	return n, api.OK
}
