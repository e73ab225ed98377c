package tree_test

import (
	"fmt"
	"maps"
	"math/rand/v2"
	"slices"
	"strings"
	"testing"

	"cahier/api"
	"cahier/node"
	"cahier/shelf"
	"cahier/tree"
)

// P16.3

func TestPutRefuses(t *testing.T) {
	s, root := made(t)
	k64, v5000 := strings.Repeat("k", 64), strings.Repeat("v", 5000)
	pairs := []api.Pair{{Key: k64, Val: v5000}, {Key: "", Val: ""}, {Key: "x", Val: v5000}}
	fill(t, s, root, pairs)
	before := s.Head()
	for _, c := range []struct {
		key, value string
		want       api.Errno
	}{
		{k64 + "k", "v", api.ErrArg},
		{strings.Repeat("\x00", 65), "", api.ErrArg},
		{strings.Repeat("k", 1000), v5000, api.ErrArg},
		{"", v5000 + "v", api.ErrLong},
		{"x", v5000 + v5000, api.ErrLong},
		{k64, v5000 + "v", api.ErrLong},
		{k64 + "k", v5000 + "v", api.ErrArg},
	} {
		for _, at := range []int{root, 2, 0, -1, 99999} {
			b := &book{Pages: s}
			want(t, "Put", tree.Put(b, at, c.key, c.value), c.want)
			want(t, "calls of a refused Put", len(b.log), 0)
		}
		want(t, "the head", s.Head(), before)
	}
	holds(t, s, root, mapOf(pairs), 0)
}

func TestPutAndDelByHand(t *testing.T) {
	s, root := made(t)
	model := map[string]string{}
	v := func(n int) string { return strings.Repeat("v", n) }
	for _, x := range []api.Pair{{Key: "b", Val: "x"}, {Key: "a", Val: ""}, {Key: "b", Val: v(41)}, {Key: "b", Val: v(41)}, {Key: "", Val: v(5000)}, {Key: "b", Val: v(40)}, {Key: "b", Val: v(228)}, {Key: "b", Val: v(227)}, {Key: "", Val: v(4999)}, {Key: "\x00", Val: "\x00"}, {Key: "", Val: ""}, {Key: strings.Repeat("\xff", 64), Val: v(300)}} {
		want(t, "Put", tree.Put(s, root, x.Key, x.Val), api.OK)
		model[x.Key] = x.Val
		holds(t, s, root, model, 0)
		gets(t, s, root, x.Key, x.Val, true, api.OK)
	}
	for _, key := range []string{"c", "aa", "\x00\x00", "b\x00", strings.Repeat("\xff", 65), strings.Repeat("\xff", 63), strings.Repeat("x", 9000)} {
		b := &book{Pages: s}
		dels(t, b, root, key, false, api.OK)
		want(t, "calls that write", len(b.log)-b.count("get"), 0)
		holds(t, s, root, model, 0)
	}
	for _, key := range []string{"b", "", strings.Repeat("\xff", 64), "a", "\x00"} {
		dels(t, s, root, key, true, api.OK)
		delete(model, key)
		holds(t, s, root, model, 0)
		gets(t, s, root, key, "", false, api.OK)
		dels(t, s, root, key, false, api.OK)
	}
}

// A Del of what isn't there writes nothing, however many levels there are.
func TestDelOfNothingWritesNothing(t *testing.T) {
	s, root := made(t)
	pairs := pairsOf(source(), 400)
	fill(t, s, root, pairs[:200])
	fill(t, s, root, pairs[300:])
	for _, x := range pairs[200:300] {
		b := &book{Pages: s}
		dels(t, b, root, x.Key, false, api.OK)
		want(t, "calls that write", len(b.log)-b.count("get"), 0)
	}
	holds(t, s, root, mapOf(append(pairs[:200:200], pairs[300:]...)), 0)
}

// P16.4

// orders: ways to go over so many numbers.
func orders(r *rand.Rand, count int) map[string][]int {
	up := make([]int, count)
	for i := range up {
		up[i] = i
	}
	down := slices.Clone(up)
	slices.Reverse(down)
	ends := make([]int, 0, count)
	for i := range count {
		if i%2 == 0 {
			ends = append(ends, i/2)
		} else {
			ends = append(ends, count-1-i/2)
		}
	}
	inside := slices.Clone(ends)
	slices.Reverse(inside)
	return map[string][]int{"up": up, "down": down, "ends": ends, "inside": inside, "any": r.Perm(count)}
}

func TestOrders(t *testing.T) {
	r := source()
	kinds := map[string][]api.Pair{"any": pairsOf(r, 220)}
	for _, size := range []int{2, 20, 64} {
		for i := range 220 {
			key := strings.Repeat("k", size-2) + string([]byte{byte(i / 16), byte(i)})
			kinds[fmt.Sprint(size)] = append(kinds[fmt.Sprint(size)], api.Pair{Key: key, Val: strings.Repeat("v", i*7%41)})
		}
	}
	for _, kind := range slices.Sorted(maps.Keys(kinds)) {
		pairs := kinds[kind]
		ways := orders(r, len(pairs))
		for _, in := range slices.Sorted(maps.Keys(ways)) {
			for _, out := range slices.Sorted(maps.Keys(ways)) {
				s, root := made(t)
				model := map[string]string{}
				for n, i := range ways[in] {
					want(t, "Put", tree.Put(s, root, pairs[i].Key, pairs[i].Val), api.OK)
					model[pairs[i].Key] = pairs[i].Val
					if n%20 == 0 {
						holds(t, s, root, model, 0)
					}
				}
				holds(t, s, root, model, 0)
				for n, i := range ways[out] {
					dels(t, s, root, pairs[i].Key, true, api.OK)
					delete(model, pairs[i].Key)
					if n%20 == 0 || len(model) < 10 {
						holds(t, s, root, model, 0)
					}
				}
			}
		}
	}
}

// stir puts and deletes at random, and looks at the tree behind each; more of the one or the other as time goes by.
func stir(t *testing.T, r *rand.Rand, s *shelf.Shelf, root int, model map[string]string, steps int) {
	t.Helper()
	for step := range steps {
		keys := slices.Sorted(maps.Keys(model))
		grow := r.IntN(4) > 0
		if step/120%2 == 1 {
			grow = r.IntN(5) == 0
		}
		switch {
		case grow && (len(keys) == 0 || r.IntN(4) > 0):
			key, value := someKey(r), someValue(r)
			want(t, "Put", tree.Put(s, root, key, value), api.OK)
			model[key] = value
		case grow:
			key, value := keys[r.IntN(len(keys))], someValue(r)
			want(t, "Put", tree.Put(s, root, key, value), api.OK)
			model[key] = value
		case r.IntN(8) == 0 || len(keys) == 0:
			key := someKey(r)
			_, there := model[key]
			dels(t, s, root, key, there, api.OK)
			delete(model, key)
		default:
			key := keys[r.IntN(len(keys))]
			dels(t, s, root, key, true, api.OK)
			delete(model, key)
		}
		holds(t, s, root, model, 0)
	}
	for _, key := range slices.Sorted(maps.Keys(model)) {
		gets(t, s, root, key, model[key], true, api.OK)
	}
}

func TestManyChanges(t *testing.T) {
	r := source()
	for range 12 {
		s, root := made(t)
		stir(t, r, s, root, map[string]string{}, 700)
	}
}

// planter lays right trees of any shape.
type planter struct {
	t     *testing.T
	r     *rand.Rand
	s     *shelf.Shelf
	least bool // as few keys a node as may be
}

// twig is a tree that has been laid: its page, its least and its greatest key.
type twig struct {
	page      int
	low, high string
}

// between: a key that may stand between two others, the second one or one ahead of it.
func (g planter) between(low, high string) string {
	for range g.r.IntN(4) {
		if key := low + string([]byte{byte(g.r.IntN(256))}); key > low && key <= high && len(key) <= 64 {
			return key
		}
		if key := high[:g.r.IntN(len(high)+1)]; key > low {
			return key
		}
	}
	return high
}

func (g planter) page() int {
	n, e := g.s.New()
	want(g.t, "New", e, api.OK)
	return n
}

// leaves lays pairs on leaves.
func (g planter) leaves(pairs []api.Pair) []twig {
	out := []twig{}
	for len(pairs) > 0 {
		n := api.Node{Leaf: true}
		most := 1 + g.r.IntN(6)
		for len(pairs) > 0 && len(n.Keys) < most {
			c := api.Cell{Size: len(pairs[0].Val), Data: pairs[0].Val}
			if c.Size > 40 {
				c = api.Cell{Size: c.Size, Page: 1}
			}
			m := api.Node{Leaf: true, Keys: append(slices.Clone(n.Keys), pairs[0].Key), Cells: append(slices.Clone(n.Cells), c)}
			if node.Size(m) > 232 || g.least && len(m.Keys) > 1 {
				break
			}
			if c.Size > 40 {
				m.Cells[len(n.Cells)] = g.chain(pairs[0].Val)
			}
			n, pairs = m, pairs[1:]
		}
		at := g.page()
		laid(g.t, g.s, at, n)
		out = append(out, twig{at, n.Keys[0], n.Keys[len(n.Keys)-1]})
	}
	return out
}

// chain lays a value of at most 227 bytes; of pairs that are planted none is longer.
func (g planter) chain(value string) api.Cell {
	at := g.page()
	page := "\x03\x00\x00\x00\x00" + value
	want(g.t, "Put", g.s.Put(at, page+noughts[len(page):]), api.OK)
	return api.Cell{Size: len(value), Page: at}
}

// above lays inner nodes over others.
func (g planter) above(row []twig) []twig {
	out := []twig{}
	for len(row) > 0 {
		n := api.Node{Kids: []int{row[0].page}}
		low, high := row[0].low, row[0].high
		most := 2 + g.r.IntN(5)
		if g.least {
			most = 2
		}
		row = row[1:]
		for len(row) > 0 && (len(n.Kids) < most || len(row) == 1) {
			n.Keys = append(n.Keys, g.between(high, row[0].low))
			n.Kids = append(n.Kids, row[0].page)
			high = row[0].high
			row = row[1:]
			if node.Size(n) > 90 && len(row) > 1 {
				break
			}
		}
		at := g.page()
		laid(g.t, g.s, at, n)
		out = append(out, twig{at, low, high})
	}
	return out
}

// plant lays a right tree that holds pairs; its root.
func (g planter) plant(pairs []api.Pair) int {
	row := g.leaves(pairs)
	for len(row) > 1 {
		row = g.above(row)
	}
	return row[0].page
}

// shortPairs: pairs whose values have no more than one page.
func shortPairs(r *rand.Rand, count int) []api.Pair {
	pairs := pairsOf(r, count)
	for i := range pairs {
		if len(pairs[i].Val) > 227 {
			pairs[i].Val = pairs[i].Val[:227]
		}
	}
	return pairs
}

// Right trees of any shape, laid by somebody else, are changed as those that Put made.
func TestChangesOfPlantedTrees(t *testing.T) {
	r := source()
	for i := range 60 {
		g := planter{t, r, shelf.New(4096), i%3 == 0}
		pairs := shortPairs(r, 1+r.IntN(200))
		root := g.plant(pairs)
		model := mapOf(pairs)
		holds(t, g.s, root, model, 0)
		stir(t, r, g.s, root, model, 100)
		for _, n := range r.Perm(len(pairs)) {
			_, there := model[pairs[n].Key]
			dels(t, g.s, root, pairs[n].Key, there, api.OK)
			delete(model, pairs[n].Key)
			holds(t, g.s, root, model, 0)
		}
	}
}

// The highest tree that there can be: each page is in use, each node has as few keys as may be.
func TestHighestTree(t *testing.T) {
	r := source()
	for _, ways := range []string{"up", "down", "any"} {
		g := planter{t, r, shelf.New(4096), true}
		pairs := []api.Pair{}
		for i := range 2048 {
			pairs = append(pairs, api.Pair{Key: fmt.Sprintf("%04d%s", i, strings.Repeat("k", r.IntN(61)))})
		}
		root := g.plant(pairs)
		model := mapOf(pairs)
		h := holds(t, g.s, root, model, 0)
		want(t, "levels below the root", h.levels, 11)
		want(t, "pages", g.s.Head().Pages, 4096)
		// No page is free, but each leaf has room.
		for i := range 2048 {
			key := fmt.Sprintf("%04d~", i)
			want(t, "Put", tree.Put(g.s, root, key, "v"), api.OK)
			model[key] = "v"
		}
		holds(t, g.s, root, model, 0)
		keys := slices.Sorted(maps.Keys(model))
		for n, i := range orders(r, len(keys))[ways] {
			dels(t, g.s, root, keys[i], true, api.OK)
			delete(model, keys[i])
			if n%256 == 0 || len(model) < 5 {
				holds(t, g.s, root, model, 0)
			}
		}
	}
}

// A value that takes the place of one as long needs no more pages.
func TestPutInPlaceWithoutRoom(t *testing.T) {
	s := shelf.New(2 + 23)
	root, _ := tree.Make(s)
	for i := range 3 {
		value := strings.Repeat(string(rune('a'+i)), 5000)
		want(t, "Put", tree.Put(s, root, "k", value), api.OK)
		holds(t, s, root, map[string]string{"k": value}, 0)
	}
	want(t, "Put without room", tree.Put(s, root, "l", strings.Repeat("v", 41)), api.ErrRoom)
}

// What is put in and taken out over and over needs no more pages in the long run,
// and pages aren't near to empty.
func TestPagesStayFull(t *testing.T) {
	r := source()
	s, root := made(t)
	model := map[string]string{}
	for range 30000 {
		key := fmt.Sprintf("%03d%s", r.IntN(400), strings.Repeat("k", 30))
		if r.IntN(2) == 0 {
			want(t, "Put", tree.Put(s, root, key, "v"), api.OK)
			model[key] = "v"
		} else {
			_, there := model[key]
			dels(t, s, root, key, there, api.OK)
			delete(model, key)
		}
	}
	h := holds(t, s, root, model, 0)
	bytes := len(model) * (1 + 33 + 2)
	if len(h.pages)*80 > bytes || s.Head().Pages > 200 {
		t.Errorf("%d bytes stand on %d pages, of %+v", bytes, len(h.pages), s.Head())
	}
}

// lopsided: a tree whose one inner node has just two leaves, beside one that is full; its keys, rising.
func lopsided(t *testing.T, mirrored bool) (*shelf.Shelf, []string) {
	t.Helper()
	s := blank(t, 9)
	keys := []string{}
	for i := range 6 {
		keys = append(keys, string(rune('a'+i))+strings.Repeat("k", 62))
		laid(t, s, 4+i, leaf(keys[i]))
	}
	cut := 4
	if mirrored {
		cut = 2
	}
	laid(t, s, 1, api.Node{Keys: keys[cut : cut+1], Kids: []int{2, 3}})
	laid(t, s, 2, api.Node{Keys: keys[1:cut], Kids: []int{4, 5, 6, 7, 8, 9}[:cut]})
	laid(t, s, 3, api.Node{Keys: keys[cut+1:], Kids: []int{4, 5, 6, 7, 8, 9}[cut:]})
	return s, keys
}

// An inner node that has lost its last key takes of one beside it that is full.
func TestShare(t *testing.T) {
	for _, mirrored := range []bool{false, true} {
		gone := 5
		if mirrored {
			gone = 0
		}
		s, keys := lopsided(t, mirrored)
		model := map[string]string{}
		for _, key := range keys {
			model[key] = "v"
		}
		holds(t, s, 1, model, 0)
		b := &book{Pages: s}
		dels(t, b, 1, keys[gone], true, api.OK)
		delete(model, keys[gone])
		h := holds(t, s, 1, model, 0)
		want(t, "levels below the root", h.levels, 2)
		for at := 1; at <= len(b.log); at++ {
			s, keys := lopsided(t, mirrored)
			f := &book{Pages: s, fails: at, err: api.ErrIO}
			dels(t, f, 1, keys[gone], false, api.ErrIO)
			want(t, "calls behind the error", f.late, 0)
		}
	}
}
