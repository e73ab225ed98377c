package tree

import (
	"cahier/api"
	"cahier/chain"
	"cahier/node"
)

// load: the node on a page; ErrBad, if it is none's.
func load(p api.Pages, at int) (api.Node, api.Errno) {
	page, e := p.Get(at)
	if e != api.OK {
		return api.Node{}, e
	}
	n, e := node.Decode(page)
	if e != api.OK {
		return api.Node{}, api.ErrBad
	}
	return n, api.OK
}

// save lays a node on a page; ErrBad, if it can't be: that comes of a tree that isn't right.
func save(p api.Pages, at int, n api.Node) api.Errno {
	page, e := node.Encode(n)
	if e != api.OK {
		return api.ErrBad
	}
	return p.Put(at, page)
}

// fresh lays a node on a new page.
func fresh(p api.Pages, n api.Node) (int, api.Errno) {
	at, e := p.New()
	if e != api.OK {
		return 0, e
	}
	if e := save(p, at, n); e != api.OK {
		return 0, e
	}
	return at, api.OK
}

// way: which of an inner node's kids leads to a key.
func way(n api.Node, key string) int {
	i, found := node.Find(n, key)
	if found {
		return i + 1
	}
	return i
}

// list gathers the pages of a tree.
type list struct {
	p     api.Pages
	pages []int
	seen  map[int]struct{}
}

// tree gathers the pages from one on, down so many levels at most.
func (l *list) tree(at, levels int) api.Errno {
	if levels < 0 {
		return api.ErrBad
	}
	if e := l.add(at); e != api.OK {
		return e
	}
	n, e := load(l.p, at)
	if e != api.OK {
		return e
	}
	for _, c := range n.Cells {
		pages, e := chain.List(l.p, c)
		if e != api.OK {
			return e
		}
		if e := l.add(pages...); e != api.OK {
			return e
		}
	}
	for _, kid := range n.Kids {
		if e := l.tree(kid, levels-1); e != api.OK {
			return e
		}
	}
	return api.OK
}

// add gathers pages; ErrBad, if one is there already.
func (l *list) add(pages ...int) api.Errno {
	for _, n := range pages {
		if _, ok := l.seen[n]; ok {
			return api.ErrBad
		}
		l.seen[n] = struct{}{}
		l.pages = append(l.pages, n)
	}
	return api.OK
}
