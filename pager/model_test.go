package pager_test

import (
	"math"
	"math/rand/v2"
	"testing"

	"cahier/api"
)

// anyNumber: mostly a page that there is, or nearly, sometimes an end of numbers.
func anyNumber(r *rand.Rand, pages int) int {
	ends := []int{math.MinInt, -1, 0, 4095, 4096, math.MaxInt, 1 << 32}
	if r.IntN(12) == 0 {
		return ends[r.IntN(len(ends))]
	}
	return r.IntN(pages+2) - 1 + r.IntN(2)
}

// anyOp: in a transaction mostly changes, without one mostly its beginning.
func anyOp(r *rand.Rand, m *model) op {
	inside := []string{"get", "put", "put", "put", "new", "new", "free", "root", "save", "back", "release"}
	outside := []string{"get", "begin", "begin", "begin", "mode", "checkpoint"}
	rare := []string{"ready", "commit", "commit", "commit", "rollback", "reset", "begin", "mode", "checkpoint", "put", "new", "free", "root", "save", "back", "release"}
	list := outside
	if m.busy {
		list = inside
	}
	if r.IntN(6) == 0 {
		list = rare
	}
	o := op{what: list[r.IntN(len(list))], n: anyNumber(r, m.head.Pages), letter: byte(r.IntN(256))}
	switch o.what {
	case "back", "release":
		o.n = len(m.saves) + 1 - r.IntN(4)
	case "mode":
		o.n = r.IntN(4)
	}
	return o
}

// With any size all answers are the model's, and the disk has what was committed, behind each step.
func TestModel(t *testing.T) {
	for seed := range uint64(60) {
		r := rand.New(rand.NewPCG(15, seed))
		w := newWorld(t, []int{1, 2, 5, 256}[seed%4])
		most := 0
		for i := range 400 {
			if i%40 == 39 {
				switch r.IntN(3) {
				case 0:
					w.reopen()
				case 1:
					w.again(r.IntN(3), r.IntN(3))
				}
			}
			w.play(anyOp(r, w.m))
			w.whole()
			most = max(most, w.m.head.Pages)
		}
		if most < 5 {
			t.Error("at most", most, "pages")
		}
	}
}

// All that there can be, over and over.
func TestManyPages(t *testing.T) {
	w := newWorld(t, 7)
	w.plays("begin")
	for range api.MaxPages - 1 {
		w.play(op{what: "new"})
	}
	w.plays("new put:4095:z put:4096:z save free:4095 new new free:1 commit")
	if w.m.head.Pages != 4096 {
		t.Fatal(w.m.head)
	}
	w.whole()
	w.plays("mode:2 begin")
	for n := range 4096 {
		w.play(op{what: "put", n: n, letter: byte(n)})
	}
	w.plays("commit checkpoint")
	w.whole()
	w.again()
	w.plays("begin reset new commit mode:1")
	w.whole()
}
