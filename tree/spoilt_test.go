package tree_test

import (
	"math/rand/v2"
	"slices"
	"strings"
	"testing"

	"cahier/api"
	"cahier/node"
	"cahier/shelf"
	"cahier/tree"
)

// An error of the pages is the answer, at once.

// story is a call on a tree, and what it must answer if the pages answer an error.
type story struct {
	what string
	call func(t *testing.T, p api.Pages, root int) api.Errno
}

// stories: calls that need many pages, on a tree that holds pairs.
func stories(pairs []api.Pair) []story {
	long := strings.Repeat("w", 700)
	out := []story{
		{"Make", func(t *testing.T, p api.Pages, root int) api.Errno {
			n, e := tree.Make(p)
			want(t, "beside an error", n == 0, e != api.OK)
			return e
		}},
		{"List", func(t *testing.T, p api.Pages, root int) api.Errno {
			l, e := tree.List(p, root)
			want(t, "beside an error", len(l) == 0, e != api.OK)
			return e
		}},
		{"Drop", func(t *testing.T, p api.Pages, root int) api.Errno { return tree.Drop(p, root) }},
		{"Build", func(t *testing.T, p api.Pages, root int) api.Errno {
			n, e := tree.Build(p, pairs)
			want(t, "beside an error", n == 0, e != api.OK)
			return e
		}},
	}
	for _, x := range pairs {
		out = append(out, story{"Put", func(t *testing.T, p api.Pages, root int) api.Errno {
			return tree.Put(p, root, x.Key, long)
		}}, story{"Put of another", func(t *testing.T, p api.Pages, root int) api.Errno {
			return tree.Put(p, root, x.Key[:len(x.Key)/2]+"m", strings.Repeat("w", 40))
		}}, story{"Del", func(t *testing.T, p api.Pages, root int) api.Errno {
			ok, e := tree.Del(p, root, x.Key)
			want(t, "beside an error", ok, e == api.OK)
			return e
		}}, story{"Get", func(t *testing.T, p api.Pages, root int) api.Errno {
			v, ok, e := tree.Get(p, root, x.Key)
			want(t, "beside an error", v == "" && !ok, e != api.OK)
			return e
		}})
	}
	return out
}

func TestErrorsOfPages(t *testing.T) {
	r := source()
	pairs := shortPairs(r, 60)
	for i := range pairs {
		if pairs[i].Val == "" {
			pairs[i].Val = "v"
		}
	}
	// Each time the same tree, of small nodes, so that many are joined and cut.
	seed := func() planter { return planter{t, rand.New(rand.NewPCG(3, 4)), shelf.New(4096), false} }
	for _, c := range stories(pairs) {
		g := seed()
		b := &book{Pages: g.s}
		want(t, c.what, c.call(t, b, g.plant(pairs)), api.OK)
		for at := 1; at <= len(b.log); at++ {
			for _, e := range []api.Errno{api.ErrIO, api.ErrRoom, api.ErrAbort} {
				g := seed()
				f := &book{Pages: g.s, fails: at, err: e}
				want(t, c.what, c.call(t, f, g.plant(pairs)), e)
				want(t, c.what+", calls behind the error", f.late, 0)
				if !slices.Equal(f.log, b.log[:at]) {
					t.Fatalf("%s: %q, not %q", c.what, f.log, b.log[:at])
				}
			}
		}
	}
}

// A shelf whose calls fail from one on: the answer is told, and behind it, for another tree, all is as it was.
func TestArmedShelf(t *testing.T) {
	r := source()
	s, other := made(t)
	pairs := pairsOf(r, 100)
	fill(t, s, other, pairs)
	root, _ := tree.Make(s)
	model := map[string]string{}
	failed := 0
	for range 400 {
		key, value := someKey(r), someValue(r)
		s.Arm(1 + r.IntN(12))
		e := tree.Put(s, root, key, value)
		s.Arm(0)
		switch e {
		case api.OK:
			model[key] = value
			look(t, s, root)
		case api.ErrIO:
			failed++
			root, e = tree.Make(s)
			want(t, "Make", e, api.OK)
			model = map[string]string{}
		default:
			t.Fatalf("Put: %d", e)
		}
		if got := look(t, s, root); len(got.keys) != len(model) {
			t.Fatalf("%d keys, not %d", len(got.keys), len(model))
		}
	}
	want(t, "some failed", failed > 50, true)
	if got := look(t, s, other); len(got.keys) != 100 {
		t.Errorf("the other tree has %d keys", len(got.keys))
	}
}

// P16.6

// guarded is pages of which each call counts, and no more than a number are made.
type guarded struct {
	*shelf.Shelf
	calls int
}

func (g *guarded) Get(n int) (string, api.Errno)    { g.calls++; return g.Shelf.Get(n) }
func (g *guarded) Put(n int, data string) api.Errno { g.calls++; return g.Shelf.Put(n, data) }
func (g *guarded) New() (int, api.Errno)            { g.calls++; return g.Shelf.New() }
func (g *guarded) Free(n int) api.Errno             { g.calls++; return g.Shelf.Free(n) }

// tries makes all calls over any pages; each ends before long, and ErrArg and ErrLong come ahead of all.
func tries(t *testing.T, s *shelf.Shelf, root int, key string) {
	t.Helper()
	p := &guarded{Shelf: s}
	want(t, "Put", tree.Put(p, root, strings.Repeat("k", 65), "v"), api.ErrArg)
	want(t, "Put", tree.Put(p, root, key, strings.Repeat("v", 5001)), api.ErrLong)
	if n, e := tree.Build(p, []api.Pair{{Key: "b"}, {Key: "a"}}); n != 0 || e != api.ErrArg {
		t.Fatalf("Build: %d, %d", n, e)
	}
	want(t, "calls", p.calls, 0)
	if v, ok, e := tree.Get(p, root, key); e != api.OK && (v != "" || ok) {
		t.Fatalf("Get: %q, %t, %d", v, ok, e)
	}
	if l, e := tree.List(p, root); e != api.OK && len(l) != 0 {
		t.Fatalf("List: %d, %d", l, e)
	}
	tree.Put(p, root, key, strings.Repeat("v", 40))
	tree.Put(p, root, key+"x", strings.Repeat("v", 500))
	if ok, e := tree.Del(p, root, key); e != api.OK && ok {
		t.Fatalf("Del: %t, %d", ok, e)
	}
	tree.Drop(p, root)
	if p.calls > 9000 {
		t.Fatalf("%d calls", p.calls)
	}
	// Whatever was done, a new tree is right.
	if n, e := tree.Build(p, []api.Pair{{Key: "a", Val: "v"}}); e == api.OK {
		gets(t, s, n, "a", "v", true, api.OK)
	}
}

// anyNode: one whose kids and chains are any pages of some.
func anyNode(r *rand.Rand, pages int) api.Node {
	n := api.Node{Leaf: r.IntN(3) == 0}
	keys := map[string]int{}
	for range 1 + r.IntN(6) {
		keys[string(rune('a'+r.IntN(8)))+strings.Repeat("k", r.IntN(2)*r.IntN(60))] = 1
	}
	for key := range keys {
		n.Keys = append(n.Keys, key)
	}
	slices.Sort(n.Keys)
	if !n.Leaf {
		n.Kids = r.Perm(max(pages, len(n.Keys)+1))[:len(n.Keys)+1]
		for i := range n.Kids {
			n.Kids[i]++
		}
		return n
	}
	for range n.Keys {
		c := api.Cell{Size: 1, Data: "v"}
		if r.IntN(4) == 0 {
			c = api.Cell{Size: 41 + r.IntN(1000), Page: 1 + r.IntN(pages+1)}
		}
		n.Cells = append(n.Cells, c)
	}
	return n
}

// anyPages: a shelf of nodes and chains that lead anywhere, and of other bytes.
func anyPages(t *testing.T, r *rand.Rand) *shelf.Shelf {
	t.Helper()
	pages := 1 + r.IntN(12)
	s := blank(t, pages)
	for at := 1; at <= pages; at++ {
		switch r.IntN(6) {
		case 0:
			b := []byte(noughts)
			for i := range b {
				b[i] = byte(r.IntN(5))
			}
			s.Put(at, string(b))
		case 1:
			b := []byte("\x03" + noughts[1:])
			b[4] = byte(r.IntN(pages + 2))
			s.Put(at, string(b))
		default:
			if page, e := node.Encode(anyNode(r, pages)); e == api.OK {
				s.Put(at, page)
			}
		}
	}
	if r.IntN(4) == 0 {
		s.Free(1 + r.IntN(pages))
	}
	return s
}

func TestAnyPages(t *testing.T) {
	r := source()
	for range 30000 {
		key := string(rune('a'+r.IntN(8))) + strings.Repeat("k", r.IntN(3))
		s := anyPages(t, r)
		tries(t, s, r.IntN(14), key)
	}
}

// Right trees of which a page was changed, or is now another one's.
func TestSpoiltTrees(t *testing.T) {
	r := source()
	for range 1500 {
		g := planter{t, r, shelf.New(4096), r.IntN(2) == 0}
		pairs := shortPairs(r, 1+r.IntN(60))
		root := g.plant(pairs)
		pages := g.s.Head().Pages - 1
		for range 1 + r.IntN(3) {
			at := 1 + r.IntN(pages)
			page, _ := g.s.Get(at)
			b := []byte(page)
			switch r.IntN(3) {
			case 0:
				b[r.IntN(12)] = byte(r.IntN(5))
			case 1:
				b[r.IntN(232)] ^= 1 << r.IntN(8)
			case 2:
				page, _ = g.s.Get(1 + r.IntN(pages))
				b = []byte(page)
			}
			g.s.Put(at, string(b))
		}
		tries(t, g.s, root, pairs[r.IntN(len(pairs))].Key)
	}
}

// Nodes that lead to one another on each of many levels: gone over by each way they would be without end.
func TestManyWays(t *testing.T) {
	for _, levels := range []int{5, 19, 20, 21, 60} {
		s := blank(t, 8*levels+8)
		for i := range levels {
			for k := range 8 {
				n := api.Node{Keys: []string{"a", "b", "c", "d", "e", "f", "g"}}
				for kid := range 8 {
					n.Kids = append(n.Kids, 1+8*(i+1)+kid)
				}
				laid(t, s, 1+8*i+k, n)
			}
		}
		for k := range 8 {
			laid(t, s, 1+8*levels+k, leaf("c"))
		}
		tries(t, s, 1, "c")
	}
	// A round of pages: List and Drop see one again.
	s := blank(t, 3)
	laid(t, s, 1, api.Node{Keys: []string{"m"}, Kids: []int{2, 3}})
	laid(t, s, 2, api.Node{Keys: []string{"c"}, Kids: []int{3, 1}})
	laid(t, s, 3, leaf("x"))
	tries(t, s, 1, "d")
	// Cells that share a chain, and chains of a node's own page.
	s = blank(t, 3)
	n := leaf("a", "b", "c")
	n.Cells = []api.Cell{{Size: 100, Page: 2}, {Size: 100, Page: 2}, {Size: 300, Page: 1}}
	laid(t, s, 1, n)
	s.Put(2, "\x03\x00\x00\x00\x00"+strings.Repeat("v", 100)+noughts[105:])
	tries(t, s, 1, "c")
}

// strange is pages that answer what no shelf does.
type strange struct {
	r    *rand.Rand
	left int
}

func (x *strange) Get(n int) (string, api.Errno) {
	x.left--
	page, e := node.Encode(anyNode(x.r, 4000))
	if x.r.IntN(30) == 0 || e != api.OK {
		return strings.Repeat("x", x.r.IntN(300)), api.OK
	}
	return page, api.OK
}
func (x *strange) Put(n int, data string) api.Errno { x.left--; return api.OK }
func (x *strange) New() (int, api.Errno) {
	x.left--
	return []int{1, 2, 4095, 4096, -1, 0, 1 << 40}[x.r.IntN(7)], api.OK
}
func (x *strange) Free(n int) api.Errno { x.left--; return api.OK }

func TestStrangePages(t *testing.T) {
	r := source()
	pairs := pairsOf(r, 300)
	for range 300 {
		x := &strange{r: r, left: 100000}
		for range 10 {
			tree.Make(x)
			tree.Get(x, 1, "c")
			tree.Put(x, 1, "c", strings.Repeat("v", r.IntN(5001)))
			tree.Del(x, 1, "c")
			tree.List(x, 1)
			tree.Drop(x, 1)
		}
		tree.Build(x, pairs[:r.IntN(300)])
		if x.left < 0 {
			t.Fatalf("%d calls too many", -x.left)
		}
	}
}
