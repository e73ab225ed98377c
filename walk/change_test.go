package walk_test

import (
	"fmt"
	"math/rand/v2"
	"slices"
	"strings"
	"testing"

	"cahier/api"
	"cahier/shelf"
	"cahier/walk"
)

// P17.3, and P17.2's "in the tree as it is then"

// ride is a tree that is gone over while it changes.
type ride struct {
	t         *testing.T
	s         *shelf.Shelf
	root      int
	low, high string
	down      bool
	held      map[string]string
}

func (g *ride) put(key, value string) {
	g.t.Helper()
	puts(g.t, g.s, g.root, key, value)
	g.held[key] = value
}

func (g *ride) del(key string) {
	g.t.Helper()
	dels(g.t, g.s, g.root, key)
	delete(g.held, key)
}

// next: the pair that is to come behind one, of what the tree holds now.
func (g *ride) next(last *api.Pair) (api.Pair, bool) {
	for _, x := range inside(rising(g.held), g.low, g.high, g.down) {
		if last == nil || g.down && x.Key < last.Key || !g.down && x.Key > last.Key {
			return x, true
		}
	}
	return api.Pair{}, false
}

// go over calls change at each pair; which keys were met.
func (g *ride) over(change func(x api.Pair)) []string {
	g.t.Helper()
	seq := walk.Up(g.s, g.root, g.low, g.high)
	if g.down {
		seq = walk.Down(g.s, g.root, g.low, g.high)
	}
	keys := []string{}
	var last *api.Pair
	for x, e := range seq {
		want(g.t, "the error", e, api.OK)
		due, ok := g.next(last)
		if !ok || x != due {
			g.t.Fatalf("%q is met, not %q, %t", x, due, ok)
		}
		change(x)
		last = &x
		keys = append(keys, x.Key)
	}
	if due, ok := g.next(last); ok {
		g.t.Fatalf("%q isn't met", due)
	}
	return keys
}

// rideOf: a tree with pairs, to be gone over whole.
func rideOf(t *testing.T, r *rand.Rand, pairs []api.Pair, down bool) *ride {
	t.Helper()
	s, root := made(t, r, pairs)
	return &ride{t: t, s: s, root: root, down: down, held: heldBy(pairs)}
}

// stir makes some changes anywhere; what is held by keep stays.
func (g *ride) stir(r *rand.Rand, keep map[string]string, grow bool) {
	for range r.IntN(5) {
		all := rising(g.held)
		key := someKey(r)
		if r.IntN(2) == 0 && len(all) > 0 {
			key = all[r.IntN(len(all))].Key
		}
		if _, stays := keep[key]; stays {
			continue
		}
		if grow == (r.IntN(4) > 0) {
			g.put(key, someValue(r))
		} else {
			g.del(key)
		}
	}
}

func TestChangesAtRandom(t *testing.T) {
	r := source()
	for i := range 80 {
		pairs := pairsOf(r, r.IntN(80))
		g := rideOf(t, r, pairs, i%2 == 1)
		if i%3 == 0 {
			g.low, g.high = "\x30", "\xc0"
		}
		keep := map[string]string{}
		for _, x := range pairs {
			if r.IntN(3) == 0 {
				keep[x.Key] = x.Val
			}
		}
		n := 0
		keys := g.over(func(api.Pair) {
			// It is let grow for a while, and then shrinks, so that it ends.
			g.stir(r, keep, n < 60)
			n++
		})
		if slices.Sort(keys); len(slices.Compact(slices.Clone(keys))) != len(keys) {
			t.Fatalf("a key is met twice: %q", keys)
		}
		for _, x := range inside(rising(keep), g.low, g.high, false) {
			if !slices.Contains(keys, x.Key) {
				t.Fatalf("%q stays, and isn't met", x.Key)
			}
		}
	}
}

// number: a key that stands in the order of numbers.
func number(n int) string { return fmt.Sprintf("%05d%s", n, strings.Repeat("k", 20)) }

// numbers: so many pairs with keys of every second number.
func numbers(count int) []api.Pair {
	out := []api.Pair{}
	for i := range count {
		out = append(out, api.Pair{Key: number(2 * i), Val: "v"})
	}
	return out
}

// What goes behind is the pair at hand, all that was met, all that wasn't, or all.
func TestTakenOut(t *testing.T) {
	r := source()
	for _, down := range []bool{false, true} {
		g := rideOf(t, r, numbers(120), down)
		keys := g.over(func(x api.Pair) { g.del(x.Key) })
		want(t, "met", len(keys), 120)
		want(t, "left", len(g.held), 0)

		for at := range 60 {
			g = rideOf(t, r, numbers(60), down)
			n := 0
			keys = g.over(func(x api.Pair) {
				if n == at {
					for _, y := range rising(g.held) {
						if y.Key != x.Key && (y.Key > x.Key) != down {
							g.del(y.Key)
						}
					}
				}
				n++
			})
			want(t, "met", len(keys), at+1)

			g = rideOf(t, r, numbers(60), down)
			keys = g.over(func(x api.Pair) {
				if len(g.held) == 60-at {
					for _, y := range rising(g.held) {
						g.del(y.Key)
					}
				} else if len(g.held) > 0 {
					g.del(x.Key)
				}
			})
			want(t, "met till all goes", len(keys), at+1)
		}
	}
}

// What is put ahead is met, what is put behind isn't; one leaf may become many.
func TestPutIn(t *testing.T) {
	r := source()
	for _, down := range []bool{false, true} {
		g := rideOf(t, r, numbers(50), down)
		turn := 1
		if down {
			turn = -1
		}
		n := 0
		keys := g.over(func(x api.Pair) {
			at := 2 * n
			if down {
				at = 2 * (49 - n)
			}
			if x.Key == number(at) {
				g.put(number(at+turn), "ahead")
				if at > 0 {
					g.put(number(at-turn)+"b", "behind")
				}
				n++
			}
		})
		want(t, "met", len(keys) >= 99, true)

		g = rideOf(t, r, []api.Pair{{Key: number(300), Val: "v"}}, down)
		g.low = number(100)
		keys = g.over(func(x api.Pair) {
			if x.Val != "v" {
				return
			}
			for i := range 600 {
				if i != 300 {
					g.put(number(i), strings.Repeat("w", i))
				}
			}
		})
		if down {
			want(t, "met", len(keys), 201)
		} else {
			want(t, "met", len(keys), 300)
		}
	}
}

// A value is what it is when its pair is met.
func TestValuesChange(t *testing.T) {
	r := source()
	for _, down := range []bool{false, true} {
		g := rideOf(t, r, numbers(40), down)
		n := 0
		keys := g.over(func(x api.Pair) {
			n++
			for _, y := range rising(g.held) {
				if r.IntN(4) == 0 {
					g.put(y.Key, strings.Repeat("w", n*7))
				}
			}
		})
		want(t, "met", len(keys), 40)
	}
}

// Each pair leads to one more, right behind it, as long as there is a key there.
func TestPutRightBehind(t *testing.T) {
	g := rideOf(t, source(), []api.Pair{{Key: "k"}, {Key: "l"}}, false)
	keys := g.over(func(x api.Pair) {
		if len(x.Key) < 64 {
			g.put(x.Key+"\x00", "")
		}
	})
	want(t, "met", len(keys), 128)
	g = rideOf(t, source(), []api.Pair{{Key: strings.Repeat("\x00", 64)}}, true)
	keys = g.over(func(x api.Pair) {
		if len(x.Key) > 0 {
			g.put(x.Key[1:], "")
		}
	})
	want(t, "met", len(keys), 65)
}

// What is put at the bounds while it is gone over is met as they say.
func TestPutAtBounds(t *testing.T) {
	for _, down := range []bool{false, true} {
		g := rideOf(t, source(), []api.Pair{{Key: "f"}}, down)
		g.low, g.high = "c", "m"
		keys := g.over(func(api.Pair) {
			for _, key := range []string{"b\xff", "c", "c\x00", "l\xff", "m", "m\x00"} {
				g.put(key, "")
			}
		})
		met := "f l\xff"
		if down {
			met = "f c\x00 c"
		}
		want(t, "met", strings.Join(keys, " "), met)
	}
}

// Within one another: the inner one takes out what the outer one would meet.
func TestChangesWithin(t *testing.T) {
	g := rideOf(t, source(), numbers(60), false)
	keys := g.over(func(x api.Pair) {
		for y := range walk.Down(g.s, g.root, x.Key, "") {
			if y.Key != x.Key {
				g.del(y.Key)
			}
			break
		}
	})
	want(t, "met", len(keys), 30)
}
