package tree_test

import (
	"math/rand/v2"
	"slices"
	"strconv"
	"strings"
	"testing"

	"cahier/api"
	"cahier/node"
	"cahier/shelf"
	"cahier/tree"
)

var noughts = strings.Repeat("\x00", 232)

// source: the same numbers in each run.
func source() *rand.Rand { return rand.New(rand.NewPCG(16, 61)) }

// want fails if what is got isn't what is wanted.
func want[T comparable](t *testing.T, what string, got, want T) {
	t.Helper()
	if got != want {
		t.Fatalf("%s: %v, not %v", what, got, want)
	}
}

// book is pages that take down how they are asked; its calls from the one number
// fails on answer err, and those that come behind an error are counted.
type book struct {
	api.Pages
	log   []string
	fails int
	err   api.Errno
	late  int
	ended bool
}

func (b *book) call(what string) api.Errno {
	if b.ended {
		b.late++
	}
	b.log = append(b.log, what)
	if b.fails > 0 && len(b.log) >= b.fails {
		b.ended = true
		return b.err
	}
	return api.OK
}

func (b *book) Get(n int) (string, api.Errno) {
	if e := b.call("get " + strconv.Itoa(n)); e != api.OK {
		return "", e
	}
	return b.Pages.Get(n)
}

func (b *book) Put(n int, data string) api.Errno {
	if e := b.call("put " + strconv.Itoa(n)); e != api.OK {
		return e
	}
	return b.Pages.Put(n, data)
}

func (b *book) New() (int, api.Errno) {
	if e := b.call("new"); e != api.OK {
		return 0, e
	}
	return b.Pages.New()
}

func (b *book) Free(n int) api.Errno {
	if e := b.call("free " + strconv.Itoa(n)); e != api.OK {
		return e
	}
	return b.Pages.Free(n)
}

// count: how many calls of a kind were made.
func (b *book) count(kind string) int {
	n := 0
	for _, line := range b.log {
		if strings.HasPrefix(line, kind) {
			n++
		}
	}
	return n
}

// held is what a tree turned out to be.
type held struct {
	keys   []string
	values map[string]string
	pages  []int
	levels int // below the root
	leaves int
}

// look goes over a right tree as the chapter words it, page by page; it fails if it isn't right.
func look(t *testing.T, p api.Pages, root int) held {
	t.Helper()
	h := held{values: map[string]string{}, levels: -1}
	h.node(t, p, root, 0, "", nil)
	if !slices.IsSorted(h.keys) || len(h.values) != len(h.keys) {
		t.Fatalf("the keys don't rise: %q", h.keys)
	}
	sorted := slices.Sorted(slices.Values(h.pages))
	if len(slices.Compact(sorted)) != len(h.pages) {
		t.Fatalf("a page is there twice: %d", h.pages)
	}
	if h.levels > 20 {
		t.Fatalf("%d levels", h.levels)
	}
	return h
}

// node goes over a node, whose keys are at or above low and below high.
func (h *held) node(t *testing.T, p api.Pages, at, level int, low string, high *string) {
	t.Helper()
	h.pages = append(h.pages, at)
	page, e := p.Get(at)
	n, f := node.Decode(page)
	if e != api.OK || f != api.OK {
		t.Fatalf("page %d: %d, %d", at, e, f)
	}
	if !n.Leaf {
		for i, kid := range n.Kids {
			from, to := low, high
			if i > 0 {
				from = max(low, n.Keys[i-1])
			}
			if i < len(n.Keys) && (high == nil || n.Keys[i] < *high) {
				to = &n.Keys[i]
			}
			h.node(t, p, kid, level+1, from, to)
		}
		return
	}
	if h.levels == -1 {
		h.levels = level
	}
	if h.levels != level {
		t.Fatalf("leaves are %d and %d levels below the root", h.levels, level)
	}
	if level > 0 && len(n.Keys) == 0 {
		t.Fatalf("the leaf %d is empty", at)
	}
	h.leaves++
	for i, key := range n.Keys {
		if key < low || high != nil && key >= *high {
			t.Fatalf("the key %q doesn't belong into the leaf %d", key, at)
		}
		h.keys = append(h.keys, key)
		h.values[key] = h.value(t, p, n.Cells[i])
	}
}

// value: what a cell stands for.
func (h *held) value(t *testing.T, p api.Pages, c api.Cell) string {
	t.Helper()
	if c.Size <= 40 {
		return c.Data
	}
	out, at := "", c.Page
	for len(out) < c.Size {
		page, e := p.Get(at)
		if e != api.OK || page[0] != 3 {
			t.Fatalf("page %d is no chain's: %d", at, e)
		}
		h.pages = append(h.pages, at)
		part := min(227, c.Size-len(out))
		out += page[5 : 5+part]
		at = int(page[1])<<24 | int(page[2])<<16 | int(page[3])<<8 | int(page[4])
	}
	if at != 0 {
		t.Fatalf("a chain goes on at %d", at)
	}
	return out
}

// holds asks that a tree is right, holds just these pairs, and is all that stands on a shelf but for so many pages.
func holds(t *testing.T, s *shelf.Shelf, root int, pairs map[string]string, others int) held {
	t.Helper()
	got := look(t, s, root)
	if len(got.values) != len(pairs) {
		t.Fatalf("%d keys, not %d", len(got.values), len(pairs))
	}
	for key, value := range pairs {
		if v, ok := got.values[key]; v != value || !ok {
			t.Fatalf("%q: %q, %t, not %q", key, v, ok, value)
		}
	}
	if used := inUse(s); used != len(got.pages)+others {
		t.Fatalf("%d pages are in use, %d are the tree's, %d others'", used, len(got.pages), others)
	}
	if len(pairs) == 0 && len(got.pages) != 1 {
		t.Fatalf("an empty tree on the pages %d", got.pages)
	}
	return got
}

// inUse: how many pages of a shelf are neither its head nor free.
func inUse(s *shelf.Shelf) int {
	h := s.Head()
	return h.Pages - 1 - h.Spare
}

// made: a shelf with an empty tree.
func made(t *testing.T) (*shelf.Shelf, int) {
	t.Helper()
	s := shelf.New(4096)
	root, e := tree.Make(s)
	want(t, "Make", e, api.OK)
	return s, root
}

// fill puts pairs into a tree, in the order in which they are.
func fill(t *testing.T, p api.Pages, root int, pairs []api.Pair) {
	t.Helper()
	for _, x := range pairs {
		want(t, "Put of "+strconv.Quote(x.Key), tree.Put(p, root, x.Key, x.Val), api.OK)
	}
}

// mapOf: pairs as a map.
func mapOf(pairs []api.Pair) map[string]string {
	out := map[string]string{}
	for _, x := range pairs {
		out[x.Key] = x.Val
	}
	return out
}

// pairsOf: so many pairs, rising, with keys and values of all lengths, to the longest that may be.
func pairsOf(r *rand.Rand, count int) []api.Pair {
	seen := map[string]int{}
	out := []api.Pair{}
	for len(out) < count {
		key := someKey(r)
		if _, ok := seen[key]; !ok {
			seen[key] = 1
			out = append(out, api.Pair{Key: key, Val: someValue(r)})
		}
	}
	slices.SortFunc(out, func(a, b api.Pair) int { return strings.Compare(a.Key, b.Key) })
	return out
}

// someKey: one of which many are alike at the beginning, of many lengths.
func someKey(r *rand.Rand) string {
	size := []int{r.IntN(65), 64, 63, r.IntN(9), 2, 3}[r.IntN(6)]
	b := make([]byte, size)
	for i := range b {
		b[i] = "\x00a\xff"[r.IntN(3)]
		if i < 2 {
			b[i] = byte(r.Uint32())
		}
	}
	return string(b)
}

// someValue: one of any length, most of them short.
func someValue(r *rand.Rand) string {
	size := []int{0, r.IntN(41), 40, 41, r.IntN(300), r.IntN(10)}[r.IntN(6)]
	if r.IntN(60) == 0 {
		size = []int{226, 227, 228, 454, 455, 4999, 5000}[r.IntN(7)]
	}
	b := make([]byte, size)
	for i := range b {
		b[i] = byte(r.Uint32())
	}
	return string(b)
}

// laid lays a good node on a page.
func laid(t *testing.T, p api.Pages, at int, n api.Node) {
	t.Helper()
	page, e := node.Encode(n)
	if f := p.Put(at, page); e != api.OK || f != api.OK {
		t.Fatalf("page %d, %v: %d, %d", at, n, e, f)
	}
}

// blank: a shelf with so many pages of noughts.
func blank(t *testing.T, pages int) *shelf.Shelf {
	t.Helper()
	s := shelf.New(4096)
	for range pages {
		_, e := s.New()
		want(t, "New", e, api.OK)
	}
	return s
}

// leaf: one with these keys, and values of a byte.
func leaf(keys ...string) api.Node {
	n := api.Node{Leaf: true, Keys: keys}
	for range keys {
		n.Cells = append(n.Cells, api.Cell{Size: 1, Data: "v"})
	}
	return n
}

// gets asks what Get answers.
func gets(t *testing.T, p api.Pages, root int, key, value string, there bool, e api.Errno) {
	t.Helper()
	if v, ok, f := tree.Get(p, root, key); v != value || ok != there || f != e {
		t.Fatalf("Get of %q: %q, %t, %d, not %q, %t, %d", key, v, ok, f, value, there, e)
	}
}

// dels asks what Del answers.
func dels(t *testing.T, p api.Pages, root int, key string, there bool, e api.Errno) {
	t.Helper()
	if ok, f := tree.Del(p, root, key); ok != there || f != e {
		t.Fatalf("Del of %q: %t, %d, not %t, %d", key, ok, f, there, e)
	}
}
