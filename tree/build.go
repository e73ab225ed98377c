package tree

import (
	"cahier/api"
	"cahier/chain"
)

// checkPairs: ErrArg, if a tree can't hold these keys; ErrLong, if it can't hold the values.
func checkPairs(pairs []api.Pair) api.Errno {
	for i, x := range pairs {
		if len(x.Key) > api.MaxKey || i > 0 && x.Key <= pairs[i-1].Key {
			return api.ErrArg
		}
	}
	for _, x := range pairs {
		if len(x.Val) > api.MaxSize {
			return api.ErrLong
		}
	}
	return api.OK
}

// leafOf: all pairs as one leaf, be it as long as it may; the chains of long values are laid.
func leafOf(p api.Pages, pairs []api.Pair) (api.Node, api.Errno) {
	n := api.Node{Leaf: true}
	for _, x := range pairs {
		c, e := chain.Cell(p, x.Val)
		if e != api.OK {
			return api.Node{}, e
		}
		n.Keys = append(n.Keys, x.Key)
		n.Cells = append(n.Cells, c)
	}
	return n, api.OK
}
