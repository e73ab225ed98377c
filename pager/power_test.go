package pager_test

import (
	"math/rand/v2"
	"testing"

	"cahier/api"
)

// P15.7

// goes plays a story, whose power goes in the operation number at of it. It tells whether it did.
func (w *risky) goes(story []op, at int) bool {
	w.t.Helper()
	w.arms(at, api.FaultPower, 0)
	for _, o := range story {
		w.risks(o)
		if w.d.Down() {
			return true
		}
	}
	return false
}

// everyLoss plays each story till the power goes in each of its operations.
func everyLoss(t *testing.T, sizes []int, then func(w *risky)) {
	t.Helper()
	for _, words := range stories {
		for _, mode := range []int{1, 2} {
			for _, size := range sizes {
				for at := 1; ; at++ {
					w := begun(t, mode, size, nil)
					if !w.goes(ops(words), at) {
						if at < 12 {
							t.Error("the power went in", at-1, "operations")
						}
						break
					}
					then(w)
				}
			}
		}
	}
}

// In whichever operation the power goes, whatever becomes of what waits; then it goes on.
func TestPower(t *testing.T) {
	for n := range 5 {
		for _, fates := range lists(n) {
			everyLoss(t, []int{1 + n}, func(w *risky) {
				w.wakes(nil, fates)
				w.plays("begin new root:1 put:1:z commit get:1 checkpoint")
				w.again()
			})
		}
	}
}

// All is kept: what waited in a Commit that was cut off is undone just so.
func TestPowerWithManyFates(t *testing.T) {
	r := rand.New(rand.NewPCG(15, 7))
	for range 30 {
		everyLoss(t, []int{2}, func(w *risky) {
			var fates []int
			for range 12 {
				fates = append(fates, r.IntN(3))
			}
			w.wakes(nil, fates)
		})
	}
}

// And in whichever operation of Open, again and again.
func TestPowerInOpen(t *testing.T) {
	for _, fates := range append(lists(1), []int{0, 1}, []int{1, 2, 0}, []int{2, 0, 0, 1}) {
		for cut := range 12 {
			everyLoss(t, []int{2}, func(w *risky) {
				w.wakes([]int{cut + 1, 12 - cut, cut + 1}, fates)
			})
		}
	}
}

// The first transaction of all, and the first one of a mode, have little on the disk to go back to.
func TestPowerInAFirstTransaction(t *testing.T) {
	for _, words := range []string{"begin new put:1:a commit", "mode:2", "mode:2 begin new put:1:a commit", "begin reset commit", "mode:2 mode:1 mode:2"} {
		for _, fates := range lists(4) {
			for at := 1; ; at++ {
				w := newWorld(t, 3).risky()
				if !w.goes(ops(words), at) {
					break
				}
				w.wakes([]int{1, 2, 1}, fates)
				w.plays("begin new put:1:b commit")
				w.again(fates...)
			}
		}
	}
}

// What was answered OK is there, though nothing that waits is.
func TestCommittedIsThere(t *testing.T) {
	for _, words := range stories {
		for _, mode := range []int{1, 2} {
			w := begun(t, mode, 1, nil)
			for _, o := range ops(words) {
				w.play(o)
				if !w.m.busy {
					w.again([][]int{nil, {api.FateTorn}, {api.FateKept}}[len(o.what)%3]...)
				}
			}
		}
	}
}

// Lives one behind the other, of any calls, with any faults.
func TestAnyLives(t *testing.T) {
	losses, maybes := 0, 0
	for seed := range uint64(300) {
		r := rand.New(rand.NewPCG(157, seed))
		w := newWorld(t, 1+r.IntN(6)).risky()
		for range 12 {
			w.lives(r)
			if w.maybe != nil {
				maybes++
			}
			if w.d.Down() {
				losses++
			}
			if !w.d.Down() && r.IntN(3) == 0 {
				w.opens()
				continue
			}
			var cuts, fates []int
			for range r.IntN(3) {
				cuts = append(cuts, 1+r.IntN(15))
			}
			for range r.IntN(7) {
				fates = append(fates, r.IntN(3))
			}
			w.wakes(cuts, fates)
		}
	}
	if losses < 500 || maybes < 500 {
		t.Error(losses, maybes)
	}
}

// lives does any calls, till the power goes, or some more.
func (w *risky) lives(r *rand.Rand) {
	w.t.Helper()
	for range 10 + r.IntN(40) {
		switch r.IntN(16) {
		case 0, 1:
			w.arms(1+r.IntN(10), api.FaultIO, r.IntN(2)*r.IntN(12))
		case 2, 3:
			w.arms(1+r.IntN(15), api.FaultPower, 0)
		}
		if w.maybe == nil {
			w.risks(anyOp(r, w.m))
		} else {
			w.looks()
		}
		if w.d.Down() {
			return
		}
	}
}

// looks for what there is, which may fail again.
func (w *risky) looks() {
	w.t.Helper()
	ahead := w.d.Ops()
	e := w.p.Ready()
	met := w.from <= w.d.Ops() && w.to > ahead
	switch {
	case e == api.OK:
		w.calms()
		w.settles()
	case !met || e != api.ErrMaybe && (e != api.ErrDown || !w.d.Down()):
		w.t.Fatalf("Ready: %d, a fault: %t", e, met)
	}
}
