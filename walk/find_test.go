package walk_test

import (
	"fmt"
	"slices"
	"strings"
	"testing"

	"cahier/api"
	"cahier/shelf"
	"cahier/tree"
	"cahier/walk"
)

// P17.1

// asks asks From and To of a key, in both ways.
func asks(t *testing.T, p api.Pages, root int, key string, pairs []api.Pair) {
	t.Helper()
	for _, past := range []bool{false, true} {
		x, ok, e := walk.From(p, root, key, past)
		wantX, wantOk := first(pairs, key, past)
		finds(t, fmt.Sprintf("From(%q, %t)", key, past), x, ok, e, wantX, wantOk)
		x, ok, e = walk.To(p, root, key, past)
		wantX, wantOk = final(pairs, key, past)
		finds(t, fmt.Sprintf("To(%q, %t)", key, past), x, ok, e, wantX, wantOk)
	}
}

// asksAll asks of each key that a tree holds, of those right beside it, and of the ends.
func asksAll(t *testing.T, p api.Pages, root int, pairs []api.Pair) {
	t.Helper()
	b := &book{Pages: p}
	for _, x := range pairs {
		asks(t, b, root, x.Key, pairs)
		asks(t, b, root, x.Key+"\x00", pairs)
		if n := len(x.Key); n > 0 {
			asks(t, b, root, x.Key[:n-1], pairs)
			asks(t, b, root, x.Key[:n-1]+string([]byte{x.Key[n-1] - 1})+"\xff", pairs)
		}
	}
	for _, key := range []string{"", "\x00", "m", greatest[:63], greatest, greatest + "\x00", strings.Repeat("a", 65), strings.Repeat("\xff", 5000)} {
		asks(t, b, root, key, pairs)
	}
	x, ok, e := walk.Last(b, root)
	wantX, wantOk := final(pairs, greatest, false)
	finds(t, "Last", x, ok, e, wantX, wantOk)
	b.reads(t)
}

func TestFindInNothing(t *testing.T) {
	s, root := made(t, source(), nil)
	asksAll(t, s, root, nil)
	puts(t, s, root, "k", "v")
	asksAll(t, s, root, []api.Pair{{Key: "k", Val: "v"}})
	dels(t, s, root, "k")
	asksAll(t, s, root, nil)
}

func TestFindByHand(t *testing.T) {
	s := blank(t, 8)
	laid(t, s, 1, api.Node{Keys: []string{"m"}, Kids: []int{2, 3}})
	laid(t, s, 2, api.Node{Keys: []string{"d", "g"}, Kids: []int{4, 5, 6}})
	laid(t, s, 3, api.Node{Keys: []string{"r"}, Kids: []int{7, 8}})
	laid(t, s, 4, leaf("", "c"))
	laid(t, s, 5, leaf("e"))
	laid(t, s, 6, leaf("g", "k"))
	laid(t, s, 7, leaf("p"))
	laid(t, s, 8, leaf("s", "\xff"))
	for _, c := range []struct{ key, from, fromPast, to, toPast string }{
		{"", "", "c", "", "-"},
		{"\x00", "c", "c", "", ""},
		{"c", "c", "e", "c", ""},
		{"d", "e", "e", "c", "c"},
		{"f", "g", "g", "e", "e"},
		{"g", "g", "k", "g", "e"},
		{"k", "k", "p", "k", "g"},
		{"l", "p", "p", "k", "k"},
		{"m", "p", "p", "k", "k"},
		{"n", "p", "p", "k", "k"},
		{"p", "p", "s", "p", "k"},
		{"r", "s", "s", "p", "p"},
		{"s", "s", "\xff", "s", "p"},
		{"\xff", "\xff", "-", "\xff", "s"},
		{"\xff\x00", "-", "-", "\xff", "\xff"},
	} {
		for i, key := range []string{c.from, c.fromPast, c.to, c.toPast} {
			ask := []func(api.Pages, int, string, bool) (api.Pair, bool, api.Errno){walk.From, walk.To}[i/2]
			x, ok, e := ask(s, 1, c.key, i%2 == 1)
			pair := api.Pair{Key: key, Val: key + "!"}
			if key == "-" {
				pair = api.Pair{}
			}
			finds(t, fmt.Sprintf("%q, call %d", c.key, i), x, ok, e, pair, key != "-")
		}
	}
	x, ok, e := walk.Last(s, 1)
	finds(t, "Last", x, ok, e, api.Pair{Key: "\xff", Val: "\xff!"}, true)
	// A root may be any page.
	x, ok, e = walk.Last(s, 2)
	finds(t, "Last below page 2", x, ok, e, api.Pair{Key: "k", Val: "k!"}, true)
	x, ok, e = walk.From(s, 3, "", false)
	finds(t, "From below page 3", x, ok, e, api.Pair{Key: "p", Val: "p!"}, true)
}

func TestFindInTreesThatWerePut(t *testing.T) {
	r := source()
	for _, count := range []int{1, 2, 5, 20, 100, 300} {
		pairs := pairsOf(r, count)
		s, root := made(t, r, pairs)
		asksAll(t, s, root, pairs)
		held := heldBy(pairs)
		for _, i := range r.Perm(count)[:count/2] {
			dels(t, s, root, pairs[i].Key)
			delete(held, pairs[i].Key)
		}
		asksAll(t, s, root, rising(held))
	}
}

func TestFindInTreesOfAnyShape(t *testing.T) {
	r := source()
	for i := range 60 {
		pairs := pairsOf(r, 1+r.IntN(60))
		s := shelf.New(4096)
		asksAll(t, s, plant(t, r, s, pairs, i%3 == 0), pairs)
	}
	pairs := pairsOf(r, 200)
	s := shelf.New(4096)
	root, e := tree.Build(s, pairs)
	want(t, "Build", e, api.OK)
	asksAll(t, s, root, pairs)
}

// The ends of what a key and a value can be.
func TestFindAtTheEnds(t *testing.T) {
	pairs := []api.Pair{}
	for i, key := range []string{"", "\x00", strings.Repeat("\x00", 64), "\x01", greatest[:63], greatest} {
		pairs = append(pairs, api.Pair{Key: key, Val: strings.Repeat(string(rune('a'+i)), []int{0, 5000, 41, 40, 227, 228}[i])})
	}
	slices.SortFunc(pairs, func(a, b api.Pair) int { return strings.Compare(a.Key, b.Key) })
	s, root := made(t, source(), pairs)
	asksAll(t, s, root, pairs)
	both(t, s, root, "", "", pairs)
}

// The highest tree that there can be, with a key a node.
func TestFindInTheHighestTree(t *testing.T) {
	r := source()
	pairs := []api.Pair{}
	for i := range 2048 {
		key := fmt.Sprintf("%04d%s", 2*i, strings.Repeat("k", r.IntN(61)))
		pairs = append(pairs, api.Pair{Key: key, Val: "v"})
	}
	s := shelf.New(4096)
	root := plant(t, r, s, pairs, true)
	want(t, "pages", s.Head().Pages, 4096)
	for range 100 {
		i := r.IntN(len(pairs))
		asks(t, s, root, pairs[i].Key, pairs)
		asks(t, s, root, fmt.Sprintf("%04d", 2*i+1), pairs)
	}
	x, ok, e := walk.Last(s, root)
	finds(t, "Last", x, ok, e, pairs[2047], true)
	both(t, s, root, "", "", pairs)
}

// calls: From, To and Last of a tree, as one way of asking each.
func calls(root int, key string) map[string]func(p api.Pages) (api.Pair, bool, api.Errno) {
	return map[string]func(p api.Pages) (api.Pair, bool, api.Errno){
		"From":      func(p api.Pages) (api.Pair, bool, api.Errno) { return walk.From(p, root, key, false) },
		"From past": func(p api.Pages) (api.Pair, bool, api.Errno) { return walk.From(p, root, key, true) },
		"To":        func(p api.Pages) (api.Pair, bool, api.Errno) { return walk.To(p, root, key, false) },
		"To past":   func(p api.Pages) (api.Pair, bool, api.Errno) { return walk.To(p, root, key, true) },
		"Last":      func(p api.Pages) (api.Pair, bool, api.Errno) { return walk.Last(p, root) },
	}
}

func TestFindTellsErrorsOfPages(t *testing.T) {
	r := source()
	pairs := pairsOf(r, 40)
	s := shelf.New(4096)
	root := plant(t, r, s, pairs, true)
	for _, x := range pairs {
		for what, call := range calls(root, x.Key) {
			whole := &book{Pages: s}
			call(whole)
			for at := 1; at <= len(whole.log); at++ {
				for _, err := range []api.Errno{api.ErrIO, api.ErrBad, api.ErrDown, api.ErrPage} {
					for _, once := range []bool{false, true} {
						b := &book{Pages: s, fails: at, once: once, err: err}
						got, ok, e := call(b)
						fails(t, what, got, ok, e, err)
						want(t, "calls", len(b.log), at)
					}
				}
			}
		}
	}
}

// A page that isn't what it must be is ErrBad, one that there isn't what the pages say.
func TestFindTellsBadPages(t *testing.T) {
	bad := []string{noughts, "\x03" + noughts[1:], "\x01\x00\x01" + noughts[3:220] + "x" + noughts[221:], strings.Repeat("\xff", 232)}
	for _, page := range bad {
		s := blank(t, 4)
		laid(t, s, 1, api.Node{Keys: []string{"d", "m"}, Kids: []int{2, 3, 4}})
		laid(t, s, 2, leaf("a"))
		laid(t, s, 3, leaf("d"))
		laid(t, s, 4, leaf("n"))
		want(t, "Put", s.Put(3, page), api.OK)
		for what, call := range calls(1, "d") {
			x, ok, e := call(s)
			if what == "Last" {
				finds(t, what, x, ok, e, api.Pair{Key: "n", Val: "n!"}, true)
			} else if what == "To past" {
				finds(t, what, x, ok, e, api.Pair{Key: "a", Val: "a!"}, true)
			} else {
				fails(t, what, x, ok, e, api.ErrBad)
			}
		}
		x, ok, e := walk.From(s, 1, "a", true)
		fails(t, "From, turned", x, ok, e, api.ErrBad)
		x, ok, e = walk.To(s, 1, "m", true)
		fails(t, "To", x, ok, e, api.ErrBad)
		for what, call := range calls(3, "d") {
			x, ok, e := call(s)
			fails(t, what, x, ok, e, api.ErrBad)
		}
	}
	s := blank(t, 2)
	n := leaf("a", "b")
	n.Cells[0] = api.Cell{Size: 41, Page: 2}
	n.Cells[1] = api.Cell{Size: 41, Page: 3}
	laid(t, s, 1, n)
	x, ok, e := walk.From(s, 1, "", false)
	fails(t, "a chain that isn't one", x, ok, e, api.ErrBad)
	x, ok, e = walk.Last(s, 1)
	fails(t, "a chain that isn't there", x, ok, e, api.ErrPage)
	for _, root := range []int{0, -1, 3, 4095, 4096, -1 << 63, 1<<63 - 1} {
		for what, call := range calls(root, "a") {
			x, ok, e := call(s)
			fails(t, what, x, ok, e, api.ErrPage)
		}
		for _, seq := range walks(s, root) {
			got, e := met(t, seq)
			want(t, "pairs", len(got), 0)
			want(t, "the error", e, api.ErrPage)
		}
	}
}
