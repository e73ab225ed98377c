package tree_test

import (
	"strconv"
	"strings"
	"testing"

	"cahier/api"
	"cahier/shelf"
	"cahier/tree"
)

// P16.1

func TestMake(t *testing.T) {
	s := shelf.New(4)
	for root := 1; root < 4; root++ {
		b := &book{Pages: s}
		n, e := tree.Make(b)
		want(t, "Make", n, root)
		want(t, "Make", e, api.OK)
		want(t, "New of Make", b.count("new"), 1)
		want(t, "calls of Make", len(b.log), 2)
		page, _ := s.Get(root)
		want(t, "its page", page, "\x01"+noughts[1:])
		holds(t, s, root, nil, root-1)
		gets(t, s, root, "", "", false, api.OK)
	}
	n, e := tree.Make(s)
	want(t, "Make without room", n, 0)
	want(t, "Make without room", e, api.ErrRoom)
	s.Free(2)
	n, e = tree.Make(s)
	want(t, "Make on a free page", n, 2)
	want(t, "Make on a free page", e, api.OK)
	holds(t, s, 2, nil, 2)
}

func TestTreesOfOneShelf(t *testing.T) {
	s, a := made(t)
	b, e := tree.Make(s)
	want(t, "Make", e, api.OK)
	pairs := pairsOf(source(), 200)
	fill(t, s, a, pairs[:100])
	fill(t, s, b, pairs[100:])
	used := look(t, s, a)
	holds(t, s, b, mapOf(pairs[100:]), len(used.pages))
	want(t, "Drop", tree.Drop(s, b), api.OK)
	holds(t, s, a, mapOf(pairs[:100]), 0)
}

// P16.2

func TestGetGoesDown(t *testing.T) {
	s := blank(t, 6)
	laid(t, s, 1, api.Node{Keys: []string{"d", "m"}, Kids: []int{2, 3, 4}})
	laid(t, s, 2, leaf("", "a", "c\xff"))
	laid(t, s, 3, leaf("d", "l"))
	laid(t, s, 4, leaf("n", "z"))
	for _, key := range []string{"", "a", "c\xff", "d", "l", "n", "z"} {
		gets(t, s, 1, key, "v", true, api.OK)
	}
	for _, key := range []string{"\x00", "b", "c", "d\x00", "m", "m\x00", "zz", strings.Repeat("a", 64), strings.Repeat("a", 65), strings.Repeat("l", 5000)} {
		gets(t, s, 1, key, "", false, api.OK)
	}
	// A key that stands where its way doesn't lead isn't found.
	laid(t, s, 2, leaf("a", "d", "m", "x"))
	laid(t, s, 3, leaf("a", "l", "m"))
	laid(t, s, 4, leaf("a", "d", "z"))
	for key, ok := range map[string]bool{"a": true, "d": false, "l": true, "m": false, "x": false, "z": true} {
		v := ""
		if ok {
			v = "v"
		}
		gets(t, s, 1, key, v, ok, api.OK)
	}
	// The other leaves aren't asked.
	b := &book{Pages: s}
	gets(t, b, 1, "l", "v", true, api.OK)
	want(t, "its calls", strings.Join(b.log, ", "), "get 1, get 3")
}

func TestGetOfNoNode(t *testing.T) {
	s := blank(t, 5)
	laid(t, s, 1, api.Node{Keys: []string{"d", "m"}, Kids: []int{2, 3, 4095}})
	laid(t, s, 3, leaf("d"))
	gets(t, s, 1, "a", "", false, api.ErrBad)
	gets(t, s, 1, "d", "v", true, api.OK)
	gets(t, s, 1, "m", "", false, api.ErrPage)
	for _, page := range []string{noughts, "\x03" + noughts[1:], "\x01\x00\x01" + noughts[3:220] + "x" + noughts[221:], strings.Repeat("\xff", 232)} {
		want(t, "Put", s.Put(2, page), api.OK)
		gets(t, s, 1, "a", "", false, api.ErrBad)
		gets(t, s, 2, "a", "", false, api.ErrBad)
	}
	for _, root := range []int{0, -1, 6, 4096, -1 << 63, 1<<63 - 1} {
		gets(t, s, root, "a", "", false, api.ErrPage)
	}
}

// ladder lays inner nodes, one below the other, and a leaf below them, so many levels below page 1.
func ladder(t *testing.T, levels int) *shelf.Shelf {
	t.Helper()
	s := blank(t, levels+2)
	for i := 1; i <= levels; i++ {
		laid(t, s, i, api.Node{Keys: []string{"k"}, Kids: []int{levels + 2, i + 1}})
	}
	laid(t, s, levels+1, leaf("k"))
	laid(t, s, levels+2, leaf("a"))
	return s
}

func TestGetOfLevels(t *testing.T) {
	for levels := range 20 {
		s := ladder(t, levels)
		gets(t, s, 1, "k", "v", true, api.OK)
		gets(t, s, 1, "l", "", false, api.OK)
	}
	for levels := 20; levels < 50; levels++ {
		s := ladder(t, levels)
		gets(t, s, 1, "k", "", false, api.ErrBad)
		gets(t, s, levels-18, "k", "v", true, api.OK)
		gets(t, s, 1, "a", "v", true, api.OK)
	}
	s := blank(t, 2)
	laid(t, s, 1, api.Node{Keys: []string{"k"}, Kids: []int{1, 2}})
	laid(t, s, 2, api.Node{Keys: []string{"k"}, Kids: []int{2, 1}})
	for _, key := range []string{"", "j", "k", "l"} {
		gets(t, s, 1, key, "", false, api.ErrBad)
		gets(t, s, 2, key, "", false, api.ErrBad)
	}
}

func TestGetOfChains(t *testing.T) {
	s := blank(t, 4)
	n := leaf("a", "b", "c", "d", "e")
	n.Cells[0] = api.Cell{Size: 228, Page: 2}
	n.Cells[1] = api.Cell{Size: 41, Page: 4}
	n.Cells[2] = api.Cell{Size: 41, Page: 4095}
	n.Cells[3] = api.Cell{Size: 5000, Page: 2}
	laid(t, s, 1, n)
	s.Put(2, "\x03\x00\x00\x00\x03"+strings.Repeat("x", 227))
	s.Put(3, "\x03\x00\x00\x00\x00y"+noughts[6:])
	gets(t, s, 1, "a", strings.Repeat("x", 227)+"y", true, api.OK)
	gets(t, s, 1, "b", "", false, api.ErrBad)
	gets(t, s, 1, "c", "", false, api.ErrPage)
	gets(t, s, 1, "d", "", false, api.ErrBad)
	gets(t, s, 1, "e", "v", true, api.OK)
}

// Get reads as many pages as it must, and writes none.
func TestGetReadsAlone(t *testing.T) {
	s, root := made(t)
	pairs := pairsOf(source(), 300)
	fill(t, s, root, pairs)
	levels := look(t, s, root).levels
	for _, x := range pairs {
		b := &book{Pages: s}
		gets(t, b, root, x.Key, x.Val, true, api.OK)
		parts := 0
		if len(x.Val) > 40 {
			parts = (len(x.Val) + 226) / 227
		}
		want(t, "pages read", b.count("get"), levels+1+parts)
		want(t, "calls", len(b.log), levels+1+parts)
		for at := 1; at <= len(b.log); at++ {
			for _, e := range []api.Errno{api.ErrIO, api.ErrBad, api.ErrDown, api.ErrPage} {
				f := &book{Pages: s, fails: at, err: e}
				gets(t, f, root, x.Key, "", false, e)
				want(t, "calls behind the error", f.late, 0)
			}
		}
	}
}

// The chapter's example.
func TestExample(t *testing.T) {
	s, root := made(t)
	want(t, "Make", root, 1)
	fill(t, s, 1, []api.Pair{{Key: "b", Val: "x"}, {Key: "a", Val: "y"}, {Key: "b", Val: "z"}})
	gets(t, s, 1, "b", "z", true, api.OK)
	dels(t, s, 1, "c", false, api.OK)
	model := map[string]string{"a": "y", "b": "z"}
	for i := range 198 {
		key := "k" + strconv.Itoa(i)
		want(t, "Put", tree.Put(s, 1, key, "v"), api.OK)
		model[key] = "v"
	}
	h := holds(t, s, 1, model, 0)
	if h.levels == 0 || h.pages[0] != 1 {
		t.Errorf("%d levels below the root", h.levels)
	}
}
