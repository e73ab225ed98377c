package node

import (
	"strings"

	"cahier/api"
	"cahier/num"
)

// reader goes over a page from the beginning. Behind what can't stand there it
// reads nothing any more: what reads on may ask late whether it failed.
type reader struct {
	rest   string
	failed bool
}

// node: the one whose bytes come next; whether it is good, is still to be asked.
func (r *reader) node() api.Node {
	mark, keys := r.fixed(markBytes), r.fixed(countBytes)
	if mark != leafMark && mark != innerMark {
		r.failed = true
	}
	n := api.Node{Leaf: mark == leafMark}
	if !n.Leaf {
		n.Kids = append(n.Kids, r.fixed(pageBytes))
	}
	for range keys {
		// A page may claim many more keys than it has.
		if r.failed {
			break
		}
		n.Keys = append(n.Keys, r.bytes(r.upTo(api.MaxKey)))
		if n.Leaf {
			n.Cells = append(n.Cells, r.cell())
		} else {
			n.Kids = append(n.Kids, r.fixed(pageBytes))
		}
	}
	return n
}

// cell: the one whose bytes come next.
func (r *reader) cell() api.Cell {
	c := api.Cell{Size: r.upTo(api.MaxSize)}
	if isInline(c.Size) {
		c.Data = r.bytes(c.Size)
	} else {
		c.Page = r.fixed(pageBytes)
	}
	return c
}

// upTo: the number in as few bytes as it needs that comes next, which can't be above most.
func (r *reader) upTo(most uint64) int {
	n, size, e := num.Unvar(r.rest)
	if r.failed || e != api.OK || n > most {
		r.failed = true
		return 0
	}
	r.rest = r.rest[size:]
	return int(n)
}

// fixed: the number in so many bytes that comes next.
func (r *reader) fixed(width int) int {
	n, e := num.Unfixed(r.bytes(width))
	if e != api.OK {
		return 0
	}
	return int(n)
}

// bytes: so many, which come next.
func (r *reader) bytes(size int) string {
	if r.failed || size > len(r.rest) {
		r.failed = true
		return ""
	}
	// What is answered shares no memory with what is handed in.
	out := strings.Clone(r.rest[:size])
	r.rest = r.rest[size:]
	return out
}
