package tree

import (
	"slices"

	"cahier/api"
	"cahier/node"
)

// edit changes a leaf in memory; whether it did.
type edit func(leaf *api.Node) (bool, api.Errno)

// change has the leaf edited where a key has its place, and sets right what is above it.
func change(p api.Pages, root int, key string, do edit) api.Errno {
	n, changed, e := below(p, root, maxLevels, key, do)
	if e != api.OK || !changed {
		return e
	}
	if !n.Leaf && len(n.Keys) == 0 {
		return lower(p, root, n.Kids[0])
	}
	if !fits(n) {
		// The root keeps its page: what it was stands on others.
		if n, e = lay(p, n, middle); e != api.OK {
			return e
		}
	}
	return save(p, root, n)
}

// lower has the root be what its only kid is.
func lower(p api.Pages, root, kid int) api.Errno {
	n, e := load(p, kid)
	if e != api.OK {
		return e
	}
	if e := save(p, root, n); e != api.OK {
		return e
	}
	return p.Free(kid)
}

// below has the leaf edited that a key has below a page, and sets right all nodes
// between them. The page's own node isn't laid yet: whoever is above it has to see
// whether it still fits there; and whether it has changed.
func below(p api.Pages, at, levels int, key string, do edit) (api.Node, bool, api.Errno) {
	n, e := load(p, at)
	if e != api.OK {
		return api.Node{}, false, e
	}
	if n.Leaf {
		changed, e := do(&n)
		return n, changed, e
	}
	if levels == 0 {
		return api.Node{}, false, api.ErrBad
	}
	i := way(n, key)
	kid, changed, e := below(p, n.Kids[i], levels-1, key, do)
	if e != api.OK || !changed {
		return api.Node{}, false, e
	}
	changed, e = settle(p, &n, i, kid)
	return n, changed, e
}

// settle lays the kid of a node at i, which has changed; whether the node has, too.
func settle(p api.Pages, n *api.Node, i int, kid api.Node) (bool, api.Errno) {
	if !fits(kid) {
		return true, split(p, n, i, kid)
	}
	if node.Size(kid) < api.Payload/2 {
		// An inner node without keys has no size, and comes here as well.
		changed, e := lean(p, n, i, kid)
		if e != api.OK || changed {
			return changed, e
		}
	}
	return false, save(p, n.Kids[i], kid)
}

// split lays the kid of a node at i, which is too long for its page, on that and a new one.
func split(p api.Pages, n *api.Node, i int, kid api.Node) api.Errno {
	left, between, right := halves(kid, middle(kid))
	at, e := fresh(p, right)
	if e != api.OK {
		return e
	}
	n.Keys = slices.Insert(n.Keys, i, between)
	n.Kids = slices.Insert(n.Kids, i+1, at)
	return save(p, n.Kids[i], left)
}

// lean has the kid of a node at i, which is short, join one beside it, if both fit
// on a page; whether that is done. One that can't stay as it is takes of the other one.
func lean(p api.Pages, n *api.Node, i int, kid api.Node) (bool, api.Errno) {
	for _, j := range []int{i - 1, i + 1} {
		if j < 0 || j >= len(n.Kids) {
			continue
		}
		other, e := load(p, n.Kids[j])
		if e != api.OK {
			return false, e
		}
		at := min(i, j)
		left, right := kid, other
		if j < i {
			left, right = other, kid
		}
		both, e := joined(left, n.Keys[at], right)
		if e != api.OK {
			return false, e
		}
		if fits(both) {
			return true, join(p, n, at, both)
		}
		if len(kid.Keys) == 0 {
			return true, share(p, n, at, both)
		}
	}
	return false, api.OK
}

// join lays what the kids of a node at i and behind it hold on the first one's page; the other one's is free.
func join(p api.Pages, n *api.Node, i int, both api.Node) api.Errno {
	free := n.Kids[i+1]
	n.Keys = slices.Delete(n.Keys, i, i+1)
	n.Kids = slices.Delete(n.Kids, i+1, i+2)
	if e := save(p, n.Kids[i], both); e != api.OK {
		return e
	}
	return p.Free(free)
}

// share lays what the kids of a node at i and behind it hold on their pages, as evenly as can be.
func share(p api.Pages, n *api.Node, i int, both api.Node) api.Errno {
	left, between, right := halves(both, middle(both))
	n.Keys[i] = between
	if e := save(p, n.Kids[i], left); e != api.OK {
		return e
	}
	return save(p, n.Kids[i+1], right)
}
