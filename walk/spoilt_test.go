package walk_test

import (
	"math/rand/v2"
	"slices"
	"strings"
	"testing"

	"cahier/api"
	"cahier/node"
	"cahier/shelf"
	"cahier/walk"
)

// Of a tree that isn't right the answers are free, but each call and each gone-over ends.

// keysOf: how many keys stand on a shelf's pages.
func keysOf(s *shelf.Shelf) int {
	count := 0
	for at := 1; at < s.Head().Pages; at++ {
		page, _ := s.Get(at)
		if n, e := node.Decode(page); e == api.OK && n.Leaf {
			count += len(n.Keys)
		}
	}
	return count
}

// tries makes all calls over any pages.
func tries(t *testing.T, s *shelf.Shelf, root int, low, high string) {
	t.Helper()
	for what, call := range calls(root, low) {
		b := &book{Pages: s}
		x, ok, e := call(b)
		if !ok && x != (api.Pair{}) || ok && e != api.OK {
			t.Fatalf("%s: %q, %t, %d", what, x, ok, e)
		}
		if len(b.log) > 80 {
			t.Fatalf("%s: %d calls", what, len(b.log))
		}
		b.reads(t)
	}
	most := keysOf(s)
	for _, seq := range append(walks(s, root), walk.Up(s, root, low, high), walk.Down(s, root, low, high)) {
		n := 0
		for x, e := range seq {
			if e != api.OK {
				want(t, "beside an error", x, api.Pair{})
				break
			}
			if n++; n > most {
				t.Fatalf("more pairs than the %d keys there are", most)
			}
		}
	}
}

// anyNode: one whose kids and chains are any pages of some.
func anyNode(r *rand.Rand, pages int) api.Node {
	n := api.Node{Leaf: r.IntN(3) == 0}
	for range 1 + r.IntN(6) {
		n.Keys = append(n.Keys, string(rune('a'+r.IntN(8)))+strings.Repeat("k", r.IntN(2)*r.IntN(60)))
	}
	slices.Sort(n.Keys)
	n.Keys = slices.Compact(n.Keys)
	if !n.Leaf {
		n.Kids = r.Perm(max(pages, len(n.Keys)+1))[:len(n.Keys)+1]
		for i := range n.Kids {
			n.Kids[i]++
		}
		return n
	}
	if r.IntN(6) == 0 {
		n.Keys = nil
	}
	for range n.Keys {
		c := api.Cell{Size: 1, Data: "v"}
		if r.IntN(6) == 0 {
			c = api.Cell{Size: 41 + r.IntN(1000), Page: 1 + r.IntN(pages+1)}
		}
		n.Cells = append(n.Cells, c)
	}
	return n
}

func TestAnyPages(t *testing.T) {
	r := source()
	for range 12000 {
		pages := 1 + r.IntN(12)
		s := blank(t, pages)
		for at := 1; at <= pages; at++ {
			page, e := node.Encode(anyNode(r, pages))
			if r.IntN(12) == 0 || e != api.OK {
				page = "\x03\x00\x00\x00" + string([]byte{byte(r.IntN(pages + 2))}) + noughts[5:]
			}
			want(t, "Put", s.Put(at, page), api.OK)
		}
		low, high := string(rune('a'+r.IntN(8))), string(rune('a'+r.IntN(9)))+"k"
		tries(t, s, r.IntN(pages+2), low, high)
	}
}

// Right trees of which a page was changed, or is now another one's.
func TestSpoiltTrees(t *testing.T) {
	r := source()
	for i := range 1000 {
		pairs := pairsOf(r, 1+r.IntN(40))
		s := shelf.New(4096)
		root := plant(t, r, s, pairs, i%2 == 0)
		pages := s.Head().Pages - 1
		for range 1 + r.IntN(3) {
			at := 1 + r.IntN(pages)
			page, _ := s.Get(at)
			b := []byte(page)
			switch r.IntN(3) {
			case 0:
				b[r.IntN(12)] = byte(r.IntN(5))
			case 1:
				b[r.IntN(232)] ^= 1 << r.IntN(8)
			case 2:
				page, _ = s.Get(1 + r.IntN(pages))
				b = []byte(page)
			}
			want(t, "Put", s.Put(at, string(b)), api.OK)
		}
		tries(t, s, root, pairs[r.IntN(len(pairs))].Key, someKey(r))
	}
}

// Pages that lead round, and down without end.
func TestWaysWithoutEnd(t *testing.T) {
	s := blank(t, 3)
	laid(t, s, 1, api.Node{Keys: []string{"m"}, Kids: []int{2, 3}})
	laid(t, s, 2, api.Node{Keys: []string{"c"}, Kids: []int{1, 2}})
	laid(t, s, 3, api.Node{Keys: []string{"x"}, Kids: []int{3, 1}})
	for root := range 4 {
		for _, key := range []string{"", "a", "c", "m", "n", "x", "z"} {
			tries(t, s, root, key, "y")
		}
	}
	for _, levels := range []int{5, 19, 20, 21, 60} {
		s := blank(t, 8*levels+8)
		for at := 1; at <= 8*levels; at++ {
			n := api.Node{Keys: []string{"a", "b", "c", "d", "e", "f", "g"}}
			for kid := range 8 {
				n.Kids = append(n.Kids, (at-1)/8*8+9+kid)
			}
			laid(t, s, at, n)
		}
		for k := range 8 {
			laid(t, s, 8*levels+1+k, leaf([][]string{{"c"}, nil, {"a", "g"}}[k%3]...))
		}
		for _, key := range []string{"", "a", "c", "cc", "g", "z"} {
			tries(t, s, 1, key, "f")
		}
	}
}

// Leaves that hold keys of other leaves: what was met isn't met again.
func TestKeysInWrongPlaces(t *testing.T) {
	s := blank(t, 4)
	laid(t, s, 1, api.Node{Keys: []string{"d", "m"}, Kids: []int{2, 3, 4}})
	laid(t, s, 2, leaf("a", "n", "z"))
	laid(t, s, 3, leaf("a", "b", "z"))
	laid(t, s, 4, leaf("a", "d", "m"))
	for _, seq := range walks(s, 1) {
		seen := map[string]int{}
		for x := range seq {
			if seen[x.Key]++; seen[x.Key] > 1 {
				t.Fatalf("%q is met twice", x.Key)
			}
		}
	}
	tries(t, s, 1, "e", "y")
}

// A leaf without keys, which a right tree hasn't beside others, isn't taken for the tree's end.
func TestEmptyLeafIsNoEnd(t *testing.T) {
	s := blank(t, 4)
	laid(t, s, 1, api.Node{Keys: []string{"d", "m"}, Kids: []int{2, 3, 4}})
	laid(t, s, 2, leaf("a"))
	laid(t, s, 3, leaf())
	laid(t, s, 4, leaf("n"))
	x, ok, e := walk.From(s, 1, "b", false)
	fails(t, "From", x, ok, e, api.ErrBad)
	x, ok, e = walk.To(s, 1, "m", false)
	fails(t, "To", x, ok, e, api.ErrBad)
	for i, seq := range walks(s, 1) {
		got, e := met(t, seq)
		want(t, "the error", e, api.ErrBad)
		want(t, "pairs ahead of it", len(got), 1)
		want(t, "the pair ahead of it", got[0].Key, []string{"a", "n"}[i])
	}
}
