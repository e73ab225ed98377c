package walk_test

import (
	"iter"
	"maps"
	"math/rand/v2"
	"slices"
	"strconv"
	"strings"
	"testing"

	"cahier/api"
	"cahier/chain"
	"cahier/node"
	"cahier/shelf"
	"cahier/tree"
	"cahier/walk"
)

var (
	noughts  = strings.Repeat("\x00", 232)
	greatest = strings.Repeat("\xff", 64)
)

// source: the same numbers in each run.
func source() *rand.Rand { return rand.New(rand.NewPCG(17, 71)) }

// want fails if what is got isn't what is wanted.
func want[T comparable](t *testing.T, what string, got, want T) {
	t.Helper()
	if got != want {
		t.Fatalf("%s: %#v, not %#v", what, got, want)
	}
}

// book is pages that take down how they are asked; the call of the number fails
// answers err, and so do all behind it, unless it is to fail once.
type book struct {
	api.Pages
	log   []string
	fails int
	once  bool
	err   api.Errno
}

func (b *book) call(what string) api.Errno {
	b.log = append(b.log, what)
	if len(b.log) == b.fails || b.fails > 0 && len(b.log) > b.fails && !b.once {
		return b.err
	}
	return api.OK
}

func (b *book) Get(n int) (string, api.Errno) {
	if e := b.call("get"); e != api.OK {
		return "", e
	}
	return b.Pages.Get(n)
}

func (b *book) Put(n int, data string) api.Errno {
	b.call("put")
	return b.Pages.Put(n, data)
}

func (b *book) New() (int, api.Errno) {
	b.call("new")
	return b.Pages.New()
}

func (b *book) Free(n int) api.Errno {
	b.call("free")
	return b.Pages.Free(n)
}

// reads asks that pages were read alone.
func (b *book) reads(t *testing.T) {
	t.Helper()
	for _, what := range b.log {
		want(t, "a call", what, "get")
	}
}

// someKey: one of which many are alike at the beginning, of many lengths.
func someKey(r *rand.Rand) string {
	b := make([]byte, []int{r.IntN(65), 64, 63, r.IntN(9), 2, 3}[r.IntN(6)])
	for i := range b {
		b[i] = "\x00a\xff"[r.IntN(3)]
		if i < 2 {
			b[i] = byte(r.Uint32())
		}
	}
	return string(b)
}

// someValue: one of any length, most of them short.
func someValue(r *rand.Rand) string {
	size := []int{0, 40, 41, r.IntN(300), r.IntN(10), r.IntN(10)}[r.IntN(6)]
	if r.IntN(60) == 0 {
		size = []int{227, 228, 455, 5000}[r.IntN(4)]
	}
	b := make([]byte, size)
	for i := range b {
		b[i] = byte(r.Uint32())
	}
	return string(b)
}

// pairsOf: so many pairs, rising.
func pairsOf(r *rand.Rand, count int) []api.Pair {
	held := map[string]string{}
	for len(held) < count {
		held[someKey(r)] = someValue(r)
	}
	return rising(held)
}

// rising: what a map holds, as pairs that rise.
func rising(held map[string]string) []api.Pair {
	out := []api.Pair{}
	for _, key := range slices.Sorted(maps.Keys(held)) {
		out = append(out, api.Pair{Key: key, Val: held[key]})
	}
	return out
}

// heldBy: pairs as a map.
func heldBy(pairs []api.Pair) map[string]string {
	out := map[string]string{}
	for _, x := range pairs {
		out[x.Key] = x.Val
	}
	return out
}

// made: a shelf with a tree that holds pairs, put in any order.
func made(t *testing.T, r *rand.Rand, pairs []api.Pair) (*shelf.Shelf, int) {
	t.Helper()
	s := shelf.New(4096)
	root, e := tree.Make(s)
	want(t, "Make", e, api.OK)
	for _, i := range r.Perm(len(pairs)) {
		puts(t, s, root, pairs[i].Key, pairs[i].Val)
	}
	return s, root
}

func puts(t *testing.T, p api.Pages, root int, key, value string) {
	t.Helper()
	want(t, "Put of "+strconv.Quote(key), tree.Put(p, root, key, value), api.OK)
}

func dels(t *testing.T, p api.Pages, root int, key string) {
	t.Helper()
	_, e := tree.Del(p, root, key)
	want(t, "Del of "+strconv.Quote(key), e, api.OK)
}

// laid lays a good node on a page.
func laid(t *testing.T, p api.Pages, at int, n api.Node) {
	t.Helper()
	page, e := node.Encode(n)
	want(t, "Encode", e, api.OK)
	want(t, "Put", p.Put(at, page), api.OK)
}

// blank: a shelf with so many pages of noughts.
func blank(t *testing.T, pages int) *shelf.Shelf {
	t.Helper()
	s := shelf.New(4096)
	for range pages {
		_, e := s.New()
		want(t, "New", e, api.OK)
	}
	return s
}

// leaf: one with these keys, whose values are the keys and a mark.
func leaf(keys ...string) api.Node {
	n := api.Node{Leaf: true, Keys: keys}
	for _, key := range keys {
		n.Cells = append(n.Cells, api.Cell{Size: len(key) + 1, Data: key + "!"})
	}
	return n
}

// twig is a right tree that has been laid: its page, its least and its greatest key.
type twig struct {
	page      int
	low, high string
}

// plant lays a right tree of any shape that holds pairs; its root. Slim: with as few keys a node as may be.
func plant(t *testing.T, r *rand.Rand, s *shelf.Shelf, pairs []api.Pair, slim bool) int {
	t.Helper()
	row := []twig{}
	for len(pairs) > 0 {
		most := 1 + r.IntN(6)
		if slim {
			most = 1
		}
		var w twig
		w, pairs = plantLeaf(t, s, pairs, most)
		row = append(row, w)
	}
	for len(row) > 1 {
		next := []twig{}
		for len(row) > 0 {
			kids := min(2+r.IntN(3), len(row))
			if slim {
				kids = 2
			}
			if len(row)-kids == 1 {
				kids = []int{0, 2, 3, 4, 3}[kids]
			}
			next = append(next, plantInner(t, r, s, row[:kids]))
			row = row[kids:]
		}
		row = next
	}
	return row[0].page
}

// plantLeaf lays as many of the first pairs as go on a leaf, or most; and which are left.
func plantLeaf(t *testing.T, s *shelf.Shelf, pairs []api.Pair, most int) (twig, []api.Pair) {
	t.Helper()
	n := api.Node{Leaf: true}
	for i := 0; i < min(most, len(pairs)); i++ {
		room := api.Node{Leaf: true, Keys: append(slices.Clone(n.Keys), pairs[i].Key)}
		room.Cells = append(slices.Clone(n.Cells), api.Cell{Size: 40, Data: noughts[:40]})
		if node.Size(room) > 232 {
			break
		}
		c, e := chain.Cell(s, pairs[i].Val)
		want(t, "Cell", e, api.OK)
		n.Keys, n.Cells = append(n.Keys, pairs[i].Key), append(n.Cells, c)
	}
	at, e := s.New()
	want(t, "New", e, api.OK)
	laid(t, s, at, n)
	return twig{at, n.Keys[0], n.Keys[len(n.Keys)-1]}, pairs[len(n.Keys):]
}

// plantInner lays a node over others; its keys are any that part them.
func plantInner(t *testing.T, r *rand.Rand, s *shelf.Shelf, row []twig) twig {
	t.Helper()
	n := api.Node{Kids: []int{row[0].page}}
	for i := 1; i < len(row); i++ {
		n.Keys = append(n.Keys, between(r, row[i-1].high, row[i].low))
		n.Kids = append(n.Kids, row[i].page)
	}
	at, e := s.New()
	want(t, "New", e, api.OK)
	laid(t, s, at, n)
	return twig{at, row[0].low, row[len(row)-1].high}
}

// between: any key above low that isn't above high.
func between(r *rand.Rand, low, high string) string {
	key := high[:r.IntN(len(high)+1)]
	if r.IntN(3) == 0 {
		key = low + "\x00"
	}
	if key > low && key <= high && len(key) <= 64 {
		return key
	}
	return high
}

// first: the pair that From is to answer, of pairs that rise.
func first(pairs []api.Pair, key string, past bool) (api.Pair, bool) {
	for _, x := range pairs {
		if x.Key > key || x.Key == key && !past {
			return x, true
		}
	}
	return api.Pair{}, false
}

// final: the pair that To is to answer.
func final(pairs []api.Pair, key string, past bool) (api.Pair, bool) {
	for _, x := range slices.Backward(pairs) {
		if x.Key < key || x.Key == key && !past {
			return x, true
		}
	}
	return api.Pair{}, false
}

// finds asks what From, To or Last answered.
func finds(t *testing.T, what string, x api.Pair, ok bool, e api.Errno, wantX api.Pair, wantOk bool) {
	t.Helper()
	if x != wantX || ok != wantOk || e != api.OK {
		t.Fatalf("%s: %q, %t, %d, not %q, %t", what, x, ok, e, wantX, wantOk)
	}
}

// fails asks that From, To or Last answered an error.
func fails(t *testing.T, what string, x api.Pair, ok bool, e, wantE api.Errno) {
	t.Helper()
	if x != (api.Pair{}) || ok || e != wantE {
		t.Fatalf("%s: %q, %t, %d, not the error %d", what, x, ok, e, wantE)
	}
}

// met: the pairs of what is gone over, and the error that ended it.
func met(t *testing.T, seq iter.Seq2[api.Pair, api.Errno]) ([]api.Pair, api.Errno) {
	t.Helper()
	out, ended := []api.Pair{}, api.OK
	for x, e := range seq {
		if ended != api.OK {
			t.Fatalf("%q behind the error %d", x, ended)
		}
		if e != api.OK {
			want(t, "beside an error", x, api.Pair{})
			ended = e
			continue
		}
		out = append(out, x)
	}
	return out, ended
}

// meets asks that what is gone over is just these pairs.
func meets(t *testing.T, what string, seq iter.Seq2[api.Pair, api.Errno], pairs []api.Pair) {
	t.Helper()
	got, e := met(t, seq)
	want(t, what, e, api.OK)
	if !slices.Equal(got, pairs) {
		t.Fatalf("%s: %q, not %q", what, got, pairs)
	}
}

// inside: the pairs whose keys are at or above low and below high, rising; or falling.
func inside(pairs []api.Pair, low, high string, down bool) []api.Pair {
	out := []api.Pair{}
	for _, x := range pairs {
		if x.Key >= low && (high == "" || x.Key < high) {
			out = append(out, x)
		}
	}
	if down {
		slices.Reverse(out)
	}
	return out
}

// both asks of Up and Down between two keys.
func both(t *testing.T, p api.Pages, root int, low, high string, pairs []api.Pair) {
	t.Helper()
	what := strconv.Quote(low) + " to " + strconv.Quote(high)
	meets(t, "Up from "+what, walk.Up(p, root, low, high), inside(pairs, low, high, false))
	meets(t, "Down from "+what, walk.Down(p, root, low, high), inside(pairs, low, high, true))
}
