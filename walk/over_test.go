package walk_test

import (
	"iter"
	"slices"
	"strings"
	"testing"

	"cahier/api"
	"cahier/shelf"
	"cahier/walk"
)

// walks: all of a tree, up and down.
func walks(p api.Pages, root int) []iter.Seq2[api.Pair, api.Errno] {
	return []iter.Seq2[api.Pair, api.Errno]{walk.Up(p, root, "", ""), walk.Down(p, root, "", "")}
}

// whole: what these meet in a tree that stays as it is.
func whole(pairs []api.Pair) [][]api.Pair {
	return [][]api.Pair{pairs, inside(pairs, "", "", true)}
}

// P17.2

func TestBounds(t *testing.T) {
	r := source()
	for i, count := range []int{0, 1, 2, 9, 40, 150} {
		pairs := pairsOf(r, count)
		s, root := made(t, r, pairs)
		if i%2 == 1 {
			s = shelf.New(4096)
			root = plant(t, r, s, pairs, false)
		}
		b := &book{Pages: s}
		ends := []string{"", "\x00", greatest, greatest + "\xff", strings.Repeat("\x7f", 300)}
		for range 25 {
			ends = append(ends, someKey(r))
			if count > 0 {
				key := pairs[r.IntN(count)].Key
				ends = append(ends, key, key+"\x00", key[:len(key)/2])
			}
		}
		for _, low := range ends {
			both(t, b, root, low, "", pairs)
			both(t, b, root, "", low, pairs)
			both(t, b, root, low, ends[r.IntN(len(ends))], pairs)
			both(t, b, root, low, low, pairs)
			both(t, b, root, low, low+"\x00", pairs)
		}
		b.reads(t)
	}
}

// A pair that isn't met is none whose value counts.
func TestValuesOutsideArentRead(t *testing.T) {
	s := blank(t, 4)
	n := leaf("a", "b", "c")
	n.Cells[0] = api.Cell{Size: 41, Page: 4}
	n.Cells[2] = api.Cell{Size: 41, Page: 4}
	laid(t, s, 1, n)
	both(t, s, 1, "b", "c", []api.Pair{{Key: "b", Val: "b!"}})
	got, e := met(t, walk.Up(s, 1, "b", ""))
	want(t, "Up", len(got), 1)
	want(t, "Up", e, api.ErrBad)
	got, e = met(t, walk.Down(s, 1, "", "c"))
	want(t, "Down", len(got), 1)
	want(t, "Down", e, api.ErrBad)
}

// Nothing is asked ahead of the first pair, behind the one at which it is stopped, or while a pair is at hand.
func TestLookedForWhenAskedFor(t *testing.T) {
	r := source()
	pairs := pairsOf(r, 30)
	s, root := made(t, r, pairs)
	for stop := range pairs {
		b := &book{Pages: s}
		for i, seq := range walks(b, root) {
			before := len(b.log)
			n := 0
			for x, e := range seq {
				want(t, "the error", e, api.OK)
				want(t, "the pair", x, whole(pairs)[i][n])
				if len(b.log) == before {
					t.Fatal("nothing was asked for a pair")
				}
				before = len(b.log)
				if n == stop {
					break
				}
				n++
			}
			want(t, "pairs ahead of the stop", n, stop)
			want(t, "calls behind the stop", len(b.log), before)
		}
	}
	// Pages that fail for the pair behind the one at which it is stopped aren't asked.
	b := &book{Pages: s}
	n := 0
	for x, e := range walk.Up(b, root, "", "") {
		want(t, "the pair", x, pairs[n])
		want(t, "the error", e, api.OK)
		if n++; n == 5 {
			b.fails, b.err = len(b.log)+1, api.ErrIO
			break
		}
	}
}

func TestAnErrorEndsIt(t *testing.T) {
	r := source()
	pairs := pairsOf(r, 25)
	s := shelf.New(4096)
	root := plant(t, r, s, pairs, true)
	for i := range 2 {
		b := &book{Pages: s}
		meets(t, "all", walks(b, root)[i], whole(pairs)[i])
		for at := 1; at <= len(b.log); at++ {
			for _, once := range []bool{false, true} {
				for _, err := range []api.Errno{api.ErrIO, api.ErrBad, api.ErrDown} {
					f := &book{Pages: s, fails: at, once: once, err: err}
					got, e := met(t, walks(f, root)[i])
					want(t, "the error", e, err)
					want(t, "calls", len(f.log), at)
					if !slices.Equal(got, whole(pairs)[i][:len(got)]) {
						t.Fatalf("%q ahead of the error", got)
					}
				}
			}
		}
	}
}

// As many pairs are met ahead of an error as are told before its page is needed.
func TestPairsAheadOfAnError(t *testing.T) {
	s := blank(t, 4)
	laid(t, s, 1, api.Node{Keys: []string{"d", "m"}, Kids: []int{2, 3, 4}})
	laid(t, s, 2, leaf("a", "b"))
	laid(t, s, 4, leaf("m"))
	for i, keys := range []string{"ab", "m"} {
		n := 0
		for x, e := range walks(s, 1)[i] {
			if n == len(keys) {
				want(t, "the last pair", x, api.Pair{})
				want(t, "its error", e, api.ErrBad)
			} else {
				want(t, "a pair", x.Key, keys[n:n+1])
				want(t, "its error", e, api.OK)
			}
			n++
		}
		want(t, "pairs", n, len(keys)+1)
	}
	// What is stopped at the error ends as well.
	for _, e := range walk.Up(s, 3, "", "") {
		want(t, "the error", e, api.ErrBad)
		break
	}
}

// P17.4

func TestGoneOverAgain(t *testing.T) {
	r := source()
	pairs := pairsOf(r, 40)
	s, root := made(t, r, pairs)
	for i, seq := range walks(s, root) {
		for stop := range len(pairs) {
			n := 0
			for x, e := range seq {
				want(t, "the error", e, api.OK)
				want(t, "the pair", x, whole(pairs)[i][n])
				if n++; n > stop {
					break
				}
			}
		}
		meets(t, "again", seq, whole(pairs)[i])
		meets(t, "once more", seq, whole(pairs)[i])
		// Behind a change all is gone over as it is then.
		puts(t, s, root, "new", "v")
		held := heldBy(pairs)
		held["new"] = "v"
		meets(t, "behind a change", seq, whole(rising(held))[i])
		dels(t, s, root, "new")
		// So it is behind an error.
		s.Arm(3)
		_, e := met(t, seq)
		want(t, "the error", e, api.ErrIO)
		s.Arm(0)
		meets(t, "behind an error", seq, whole(pairs)[i])
	}
}

func TestGoneOverWithinItself(t *testing.T) {
	r := source()
	pairs := pairsOf(r, 15)
	s, root := made(t, r, pairs)
	up, down := walk.Up(s, root, pairs[2].Key, pairs[12].Key), walk.Down(s, root, pairs[2].Key, pairs[12].Key)
	some := pairs[2:12]
	n := 0
	for x := range up {
		want(t, "outside", x, some[n])
		meets(t, "inside", up, some)
		meets(t, "the other way", down, inside(some, "", "", true))
		m := 0
		for y := range up {
			want(t, "inside", y, some[m])
			if m == n {
				break
			}
			for z := range down {
				want(t, "innermost", z, some[9])
				break
			}
			m++
		}
		n++
	}
	want(t, "pairs", n, 10)
	for x := range down {
		n--
		want(t, "outside", x, some[n])
		meets(t, "inside", down, inside(some, "", "", true))
	}
	want(t, "pairs left", n, 0)
}

// Two trees, or two ways over one, don't meet each other's pairs.
func TestManyAtOnce(t *testing.T) {
	r := source()
	pairs := pairsOf(r, 80)
	s := shelf.New(4096)
	a, b := plant(t, r, s, pairs[:40], false), plant(t, r, s, pairs[40:], false)
	nextA, stopA := iter.Pull2(walk.Up(s, a, "", ""))
	nextB, stopB := iter.Pull2(walk.Down(s, b, "", ""))
	nextC, stopC := iter.Pull2(walk.Up(s, a, pairs[10].Key, ""))
	defer stopA()
	defer stopB()
	defer stopC()
	for i := range 40 {
		x, _, _ := nextA()
		want(t, "the one tree", x, pairs[i])
		x, _, _ = nextB()
		want(t, "the other tree", x, pairs[79-i])
		if i < 30 {
			x, _, _ = nextC()
			want(t, "the one tree from a key on", x, pairs[10+i])
		}
	}
	_, _, okA := nextA()
	_, _, okB := nextB()
	_, _, okC := nextC()
	want(t, "more", okA || okB || okC, false)
}

// The chapter's example.
func TestExample(t *testing.T) {
	s, root := made(t, source(), []api.Pair{{Key: "a"}, {Key: "b"}, {Key: "c"}})
	meets(t, "Up", walk.Up(s, root, "b", ""), []api.Pair{{Key: "b"}, {Key: "c"}})
	meets(t, "Down", walk.Down(s, root, "", "c"), []api.Pair{{Key: "b"}, {Key: "a"}})
	keys := ""
	for x := range walk.Up(s, root, "b", "") {
		if keys += x.Key + " "; x.Key == "b" {
			puts(t, s, root, "bb", "")
		}
	}
	want(t, "Up while bb is put", keys, "b bb c ")
}
