package spare

import (
	"strings"

	"cahier/api"
	"cahier/num"
)

const (
	mark       = "\x04" // what each trunk's page begins with
	pageBytes  = 4      // bytes of a page's number
	countBytes = 1      // bytes of the number of pages in a list
)

// Encode: a trunk as a page; ErrArg.
func Encode(t api.Trunk) (string, api.Errno) {
	if !isGood(t) {
		return "", api.ErrArg
	}
	var out strings.Builder
	out.WriteString(mark)
	out.WriteString(num.Fixed(uint64(t.Next), pageBytes))
	out.WriteString(num.Fixed(uint64(len(t.List)), countBytes))
	for _, n := range t.List {
		out.WriteString(num.Fixed(uint64(n), pageBytes))
	}
	out.WriteString(strings.Repeat("\x00", api.Payload-out.Len()))
	return out.String(), api.OK
}

// Decode: the trunk of a page; ErrArg, ErrForm.
func Decode(page string) (api.Trunk, api.Errno) {
	if len(page) != api.Payload {
		return api.Trunk{}, api.ErrArg
	}
	var t api.Trunk
	next, rest := number(page[len(mark):], pageBytes)
	count, rest := number(rest, countBytes)
	t.Next = next
	// A page may claim to list more pages than a trunk can, or than it has room for.
	for range min(count, api.MaxTrunk) {
		var n int
		n, rest = number(rest, pageBytes)
		t.List = append(t.List, n)
	}
	// That the mark, the number of pages and the noughts are right shows when the trunk is written anew.
	if again, e := Encode(t); e != api.OK || again != page {
		return api.Trunk{}, api.ErrForm
	}
	return t, api.OK
}

// isGood: whether a trunk can be.
func isGood(t api.Trunk) bool {
	if t.Next < 0 || t.Next >= api.MaxPages || len(t.List) > api.MaxTrunk {
		return false
	}
	for _, n := range t.List {
		if n < 1 || n >= api.MaxPages {
			return false
		}
	}
	return true
}

// number: that of the first bytes, and what is behind them; a width here is one that Unfixed takes, so its error can't be.
func number(s string, width int) (int, string) {
	n, _ := num.Unfixed(s[:width])
	return int(n), s[width:]
}
