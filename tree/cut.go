package tree

import (
	"slices"

	"cahier/api"
	"cahier/node"
)

// fits: whether a page holds a node.
func fits(n api.Node) bool {
	// So many keys have more bytes than a page; their size needn't be reckoned.
	return len(n.Keys) < api.Payload && node.Size(n) <= api.Payload
}

// halves: a node cut at one of its keys, and the key that stands between both.
func halves(n api.Node, i int) (api.Node, string, api.Node) {
	if n.Leaf {
		left := api.Node{Leaf: true, Keys: n.Keys[:i], Cells: n.Cells[:i]}
		return left, n.Keys[i], api.Node{Leaf: true, Keys: n.Keys[i:], Cells: n.Cells[i:]}
	}
	left := api.Node{Keys: n.Keys[:i], Kids: n.Kids[:i+1]}
	return left, n.Keys[i], api.Node{Keys: n.Keys[i+1:], Kids: n.Kids[i+1:]}
}

// joined: two nodes that stand side by side, with a key between them, as one; ErrBad, if they aren't alike.
func joined(left api.Node, between string, right api.Node) (api.Node, api.Errno) {
	if left.Leaf != right.Leaf {
		return api.Node{}, api.ErrBad
	}
	if left.Leaf {
		return api.Node{
			Leaf:  true,
			Keys:  slices.Concat(left.Keys, right.Keys),
			Cells: slices.Concat(left.Cells, right.Cells),
		}, api.OK
	}
	return api.Node{
		Keys: slices.Concat(left.Keys, []string{between}, right.Keys),
		Kids: slices.Concat(left.Kids, right.Kids),
	}, api.OK
}

// cutter: where a node that fits on no page is cut, so that the first part does.
// Two keys at least are behind the cut: one may go up, an inner node needs another.
// There are so many: a page holds any leaf of 2 keys, any inner node of 3.
type cutter func(n api.Node) int

// middle: the cutter after which the longer one of both parts is as short as can be.
func middle(n api.Node) int {
	best, least := 0, node.Size(n)
	for i := 1; i+1 < len(n.Keys); i++ {
		left, _, right := halves(n, i)
		if longer := max(node.Size(left), node.Size(right)); longer < least {
			best, least = i, longer
		}
	}
	return best
}

// fullest: the cutter after which the first part is as long as can be.
func fullest(n api.Node) int {
	i := 1
	for i+2 < len(n.Keys) {
		if left, _, _ := halves(n, i+1); !fits(left) {
			break
		}
		i++
	}
	return i
}

// lay lays a node that fits on no page, in parts, on new ones; the node above them.
func lay(p api.Pages, n api.Node, where cutter) (api.Node, api.Errno) {
	up := api.Node{}
	for !fits(n) {
		left, between, right := halves(n, where(n))
		at, e := fresh(p, left)
		if e != api.OK {
			return api.Node{}, e
		}
		up.Kids = append(up.Kids, at)
		up.Keys = append(up.Keys, between)
		n = right
	}
	at, e := fresh(p, n)
	if e != api.OK {
		return api.Node{}, e
	}
	up.Kids = append(up.Kids, at)
	return up, api.OK
}
