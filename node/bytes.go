package node

import (
	"strings"

	"cahier/api"
	"cahier/num"
)

const (
	leafMark   = 1 // the first byte of a leaf
	innerMark  = 2 // the first byte of an inner node
	markBytes  = 1
	countBytes = 2 // bytes of the number of keys
	pageBytes  = 4 // bytes of a page's number
)

// Size: how many bytes a node has, be they more than a page's.
func Size(n api.Node) int {
	if !Good(n) {
		return 0
	}
	return len(bytesOf(n))
}

// Encode: a node as a page; ErrArg, ErrLong.
func Encode(n api.Node) (string, api.Errno) {
	if !Good(n) {
		return "", api.ErrArg
	}
	s := bytesOf(n)
	if len(s) > api.Payload {
		return "", api.ErrLong
	}
	return s + strings.Repeat("\x00", api.Payload-len(s)), api.OK
}

// Decode: the node of a page; ErrArg, ErrForm.
func Decode(page string) (api.Node, api.Errno) {
	if len(page) != api.Payload {
		return api.Node{}, api.ErrArg
	}
	r := reader{rest: page}
	n := r.node()
	if r.failed || strings.Trim(r.rest, "\x00") != "" || !Good(n) {
		return api.Node{}, api.ErrForm
	}
	return n, api.OK
}

// bytesOf: those of a good node, without the noughts behind them.
func bytesOf(n api.Node) string {
	var out strings.Builder
	if n.Leaf {
		out.WriteString(num.Fixed(leafMark, markBytes))
	} else {
		out.WriteString(num.Fixed(innerMark, markBytes))
	}
	out.WriteString(num.Fixed(uint64(len(n.Keys)), countBytes))
	if !n.Leaf {
		out.WriteString(bytesOfPage(n.Kids[0]))
	}
	for i, key := range n.Keys {
		out.WriteString(num.Var(uint64(len(key))))
		out.WriteString(key)
		if n.Leaf {
			out.WriteString(bytesOfCell(n.Cells[i]))
		} else {
			out.WriteString(bytesOfPage(n.Kids[i+1]))
		}
	}
	return out.String()
}

// bytesOfCell: those of a good cell.
func bytesOfCell(c api.Cell) string {
	size := num.Var(uint64(c.Size))
	if isInline(c.Size) {
		return size + c.Data
	}
	return size + bytesOfPage(c.Page)
}

// bytesOfPage: those of a page's number.
func bytesOfPage(page int) string { return num.Fixed(uint64(page), pageBytes) }
