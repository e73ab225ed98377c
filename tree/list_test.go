package tree_test

import (
	"slices"
	"strings"
	"testing"

	"cahier/api"
	"cahier/shelf"
	"cahier/tree"
)

// lists asks that List tells all pages of a right tree, the root first.
func lists(t *testing.T, p api.Pages, root int) []int {
	t.Helper()
	got, e := tree.List(p, root)
	want(t, "List", e, api.OK)
	h := look(t, p, root)
	if len(got) == 0 || got[0] != root || !slices.Equal(slices.Sorted(slices.Values(got)), slices.Sorted(slices.Values(h.pages))) {
		t.Fatalf("List: %d, not %d", got, h.pages)
	}
	return got
}

// P16.5

func TestList(t *testing.T) {
	r := source()
	s, root := made(t)
	if got := lists(t, s, root); !slices.Equal(got, []int{1}) {
		t.Errorf("List of an empty tree: %d", got)
	}
	pairs := pairsOf(r, 300)
	for i, x := range pairs {
		want(t, "Put", tree.Put(s, root, x.Key, x.Val), api.OK)
		if i%10 == 0 {
			lists(t, s, root)
		}
	}
	b := &book{Pages: s}
	first := lists(t, b, root)
	want(t, "calls that write", len(b.log)-b.count("get"), 0)
	again := lists(t, s, root)
	for i := range first {
		first[i] = -1
	}
	if got := lists(t, s, root); !slices.Equal(got, again) {
		t.Errorf("List again: %d, not %d", got, again)
	}
	for i, x := range pairs {
		dels(t, s, root, x.Key, true, api.OK)
		if i%10 == 0 {
			lists(t, s, root)
		}
	}
	if got := lists(t, s, root); !slices.Equal(got, []int{1}) {
		t.Errorf("List of an empty tree: %d", got)
	}
}

func TestListOfPlantedTrees(t *testing.T) {
	r := source()
	for i := range 100 {
		g := planter{t, r, shelf.New(4096), i%2 == 0}
		lists(t, g.s, g.plant(shortPairs(r, 1+r.IntN(300))))
	}
}

func TestDrop(t *testing.T) {
	r := source()
	s := blank(t, 3)
	for _, count := range []int{0, 1, 2, 5, 40, 300} {
		root, e := tree.Make(s)
		want(t, "Make", e, api.OK)
		pairs := pairsOf(r, count)
		fill(t, s, root, pairs)
		holds(t, s, root, mapOf(pairs), 3)
		want(t, "Drop", tree.Drop(s, root), api.OK)
		want(t, "pages in use", inUse(s), 3)
		// What is free can be taken again.
		root, e = tree.Build(s, pairs)
		want(t, "Build", e, api.OK)
		holds(t, s, root, mapOf(pairs), 3)
		want(t, "Drop", tree.Drop(s, root), api.OK)
		want(t, "pages in use", inUse(s), 3)
	}
}

func TestListAndDropOfNoPage(t *testing.T) {
	s := blank(t, 3)
	for _, root := range []int{0, -1, 4, 4096, 1<<63 - 1, -1 << 63} {
		got, e := tree.List(s, root)
		want(t, "List", e, api.ErrPage)
		want(t, "List", len(got), 0)
		want(t, "Drop", tree.Drop(s, root), api.ErrPage)
	}
	want(t, "pages in use", inUse(s), 3)
}

// P16.7

// builds asks what Build makes of pairs that a tree can hold.
func builds(t *testing.T, s *shelf.Shelf, pairs []api.Pair) int {
	t.Helper()
	others := inUse(s)
	given := slices.Clone(pairs)
	b := &book{Pages: s}
	root, e := tree.Build(b, pairs)
	want(t, "Build", e, api.OK)
	want(t, "pages freed", b.count("free"), 0)
	want(t, "pages read", b.count("get"), 0)
	h := holds(t, s, root, mapOf(pairs), others)
	want(t, "pages made", b.count("new"), len(h.pages))
	want(t, "pages written", b.count("put"), len(h.pages))
	if !slices.Equal(given, pairs) {
		t.Fatalf("the pairs were changed")
	}
	return root
}

func TestBuild(t *testing.T) {
	r := source()
	for count := range 80 {
		builds(t, shelf.New(4096), pairsOf(r, count))
	}
	for range 30 {
		builds(t, blank(t, r.IntN(9)), pairsOf(r, r.IntN(900)))
	}
	root := builds(t, shelf.New(4096), nil)
	want(t, "the root of nothing", root, 1)
	builds(t, shelf.New(4096), []api.Pair{})
	v5000 := strings.Repeat("v", 5000)
	builds(t, shelf.New(4096), []api.Pair{{Key: "", Val: v5000}, {Key: strings.Repeat("k", 64), Val: v5000}})
}

// Keys and values of one length each: the ends of pages fall everywhere.
func TestBuildOfEachLength(t *testing.T) {
	for _, size := range []int{2, 3, 5, 9, 20, 30, 33, 50, 63, 64} {
		for _, value := range []int{0, 1, 10, 39, 40, 41, 228} {
			for _, count := range []int{1, 2, 3, 4, 5, 7, 11, 30, 31, 64, 200, 257} {
				pairs := []api.Pair{}
				for i := range count {
					key := strings.Repeat("k", size-2) + string([]byte{byte(i >> 8), byte(i)})
					pairs = append(pairs, api.Pair{Key: key, Val: strings.Repeat("v", value)})
				}
				builds(t, shelf.New(4096), pairs)
			}
		}
	}
}

// Each count of leaves up to many, under nodes of few kids and of many.
func TestBuildOfEachCount(t *testing.T) {
	for _, size := range []int{3, 12, 64} {
		pairs := []api.Pair{}
		for i := range 330 {
			pairs = append(pairs, api.Pair{Key: strings.Repeat("k", size-2) + string([]byte{byte(i >> 8), byte(i)}), Val: strings.Repeat("v", 40)})
			builds(t, shelf.New(4096), pairs)
		}
	}
}

func TestBuildRefuses(t *testing.T) {
	k64, v5000 := strings.Repeat("k", 64), strings.Repeat("v", 5000)
	for _, c := range []struct {
		what  string
		pairs []api.Pair
		want  api.Errno
	}{
		{"two keys alike", []api.Pair{{Key: "a"}, {Key: "a"}}, api.ErrArg},
		{"falling keys", []api.Pair{{Key: "b"}, {Key: "a"}}, api.ErrArg},
		{"empty keys", []api.Pair{{}, {}}, api.ErrArg},
		{"the last key falls", []api.Pair{{Key: "a"}, {Key: "b"}, {Key: "c"}, {Key: "bb"}}, api.ErrArg},
		{"a shorter one behind", []api.Pair{{Key: "aa"}, {Key: "a"}}, api.ErrArg},
		{"bytes as they are", []api.Pair{{Key: "\xff"}, {Key: "\x01"}}, api.ErrArg},
		{"a long key", []api.Pair{{Key: k64 + "k"}}, api.ErrArg},
		{"a long key at the end", []api.Pair{{Key: "a"}, {Key: k64 + "k"}}, api.ErrArg},
		{"a long value", []api.Pair{{Key: "a", Val: v5000 + "v"}}, api.ErrLong},
		{"a long value at the end", []api.Pair{{Key: "a"}, {Key: "b", Val: v5000 + "v"}}, api.ErrLong},
		{"a long value, then a long key", []api.Pair{{Key: "a", Val: v5000 + "v"}, {Key: k64 + "k"}}, api.ErrArg},
		{"a long value, then a falling key", []api.Pair{{Key: "b", Val: v5000 + "v"}, {Key: "a"}}, api.ErrArg},
		{"a long chain ahead", []api.Pair{{Key: "a", Val: v5000}, {Key: "b", Val: v5000 + "v"}}, api.ErrLong},
	} {
		b := &book{Pages: shelf.New(4096)}
		root, e := tree.Build(b, c.pairs)
		want(t, c.what, root, 0)
		want(t, c.what, e, c.want)
		want(t, c.what+", calls", len(b.log), 0)
	}
}

func TestBuildWithoutRoom(t *testing.T) {
	pairs := pairsOf(source(), 100)
	s := shelf.New(4096)
	builds(t, s, pairs)
	need := s.Head().Pages
	for limit := 1; limit < need; limit++ {
		small := shelf.New(limit)
		root, e := tree.Build(small, pairs)
		want(t, "Build without room", root, 0)
		want(t, "Build without room", e, api.ErrRoom)
		want(t, "its pages", small.Head().Pages, limit)
	}
	builds(t, shelf.New(need), pairs)
}

// What Build laid is changed as what Put did.
func TestChangesOfBuiltTrees(t *testing.T) {
	r := source()
	for range 40 {
		s := shelf.New(4096)
		pairs := pairsOf(r, r.IntN(250))
		root := builds(t, s, pairs)
		model := mapOf(pairs)
		stir(t, r, s, root, model, 60)
		for _, n := range r.Perm(len(pairs)) {
			_, there := model[pairs[n].Key]
			dels(t, s, root, pairs[n].Key, there, api.OK)
			delete(model, pairs[n].Key)
		}
		holds(t, s, root, model, 0)
	}
}

// Build uses no more pages than it must.
func TestBuildFillsPages(t *testing.T) {
	// A leaf of ten keys has 3 + 9 * 23 + 22 bytes: all that a page has.
	pairs := []api.Pair{}
	for i := range 10 {
		pairs = append(pairs, api.Pair{Key: strings.Repeat("k", 19) + string(rune('a'+i)), Val: "v"})
	}
	pairs[9].Val = ""
	s := shelf.New(4096)
	builds(t, s, pairs)
	want(t, "pages of a leaf that is full", inUse(s), 1)
	pairs[0].Val = "vv"
	s = shelf.New(4096)
	builds(t, s, pairs)
	want(t, "pages of a leaf that is too long", inUse(s), 3)

	pairs = nil
	for i := range 1000 {
		pairs = append(pairs, api.Pair{Key: strings.Repeat("k", 18) + string([]byte{byte(i >> 8), byte(i)}), Val: "v"})
	}
	s = shelf.New(4096)
	builds(t, s, pairs)
	// 112 leaves of nine keys at most, under inner nodes of ten kids at most.
	want(t, "pages of 1000 keys", inUse(s), 112+12+2+1)
}
