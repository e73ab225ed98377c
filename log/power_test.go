package log_test

import (
	"math/rand/v2"
	"testing"

	"cahier/api"
	"cahier/disk"
	"cahier/log"
)

// P14.5

// world is a log, and beside it what is told of it: the frames that were laid and are there, and how many of them are
// committed for good.
type world struct {
	t    *testing.T
	d    *disk.Disk
	l    *log.Log
	laid []laid
	good int
}

func newWorld(t *testing.T) *world {
	t.Helper()
	w := &world{t: t, d: disk.New(100)}
	w.l = open(t, w.d)
	return w
}

// ended: how many of the first n frames there are up to the last commit among them.
func (w *world) ended(n int) int {
	for n > 0 && !w.laid[n-1].commit {
		n--
	}
	return n
}

// did tells whether a call was OK; otherwise the power must have gone in it.
func (w *world) did(e api.Errno) bool {
	if e != api.OK && (e != api.ErrDown || !w.d.Down()) {
		w.t.Fatalf("the error %d", e)
	}
	return e == api.OK
}

// step is a call of a log.
type step func(w *world)

func adding(f laid) step {
	return func(w *world) {
		if w.did(w.l.Add(f.n, page(f.letter), f.commit)) {
			w.laid = append(w.laid, f)
		}
	}
}

func syncing(w *world) {
	if w.did(w.l.Sync()) {
		w.good = w.ended(len(w.laid))
	}
}

// backing goes back to a part, from 0 to 99 hundredths, of the frames.
func backing(part int) step {
	return func(w *world) {
		n := (len(w.laid) + 1) * part / 100
		if w.did(w.l.Back(n)) {
			w.laid = w.laid[:n]
			w.good = w.ended(min(w.good, n))
		}
	}
}

func ending(w *world) {
	if w.did(w.l.End()) {
		w.laid, w.good = nil, 0
	}
}

func opening(w *world) {
	l, e := log.Open(w.d)
	if w.did(e) {
		w.l = l
		w.laid = w.laid[:w.ended(len(w.laid))]
		if l.Len() != len(w.laid) {
			w.t.Fatalf("opened with power: %d frames, not %d", l.Len(), len(w.laid))
		}
	}
}

// holds asks that the log has the first n frames.
func (w *world) holds(n int) {
	w.t.Helper()
	tells(w.t, "a world", w.l, w.laid[:n]...)
	if w.t.Failed() {
		w.t.FailNow()
	}
}

// goes: the steps are gone, the power in the operation number at of them (from 1) with these fates, and at once in those
// of an Open that cuts names. It tells whether the power went.
func (w *world) goes(steps []step, at int, cuts, fates []int) bool {
	w.t.Helper()
	w.d.Arm(at, api.FaultPower, 0)
	for _, s := range steps {
		s(w)
		if w.d.Down() {
			break
		}
	}
	went := w.d.Down()
	w.d.Off()
	w.d.On(fates)
	for _, cut := range cuts {
		w.d.Arm(cut, api.FaultPower, 0)
		if l, e := log.Open(w.d); w.did(e) == (l == nil) {
			w.t.Fatalf("Open: %v, %d", l, e)
		}
		w.d.Off()
		w.d.On(fates)
	}
	w.l = open(w.t, w.d)
	n := w.l.Len()
	if n < w.good || n > len(w.laid) || n != w.ended(n) {
		w.t.Fatalf("power at %d, fates %d: %d frames of %v, of which %d are safe", at, fates, n, w.laid, w.good)
	}
	if len(fates) == 1 && fates[0] == api.FateKept && n != w.ended(len(w.laid)) {
		w.t.Fatalf("power at %d, all is kept: %d frames of %v", at, n, w.laid)
	}
	w.holds(n)
	w.laid, w.good = w.laid[:n], n
	return went
}

func addings(letters string) []step {
	var steps []step
	for _, f := range frames(letters) {
		steps = append(steps, adding(f))
	}
	return steps
}

// lists: all lists of so many of the three fates.
func lists(n int) [][]int {
	if n == 0 {
		return [][]int{nil}
	}
	var all [][]int
	for _, l := range lists(n - 1) {
		for _, fate := range []int{api.FateLost, api.FateKept, api.FateTorn} {
			all = append(all, append([]int{fate}, l...))
		}
	}
	return all
}

// ordinary: transactions of which some are synced, some gone back from, some not ended.
func ordinary() []step {
	steps := append(addings("abA"), syncing)
	steps = append(steps, addings("cBab")...)
	steps = append(steps, backing(70))
	steps = append(steps, addings("dC")...)
	steps = append(steps, syncing)
	steps = append(steps, addings("aBcA")...)
	steps = append(steps, backing(70), syncing, ending)
	return append(steps, addings("aB")...)
}

// In whichever operation the power goes, whatever becomes of what waits; and then it goes on.
func TestPower(t *testing.T) {
	at := 1
	for went := true; went; at++ {
		for n := range 6 {
			for _, fates := range lists(n) {
				w := newWorld(t)
				went = w.goes(ordinary(), at, nil, fates)
				more := append(addings("eD"), syncing)
				w.goes(append(more, addings("fE")...), 5, nil, fates)
			}
		}
	}
	if at < 23 {
		t.Error("the power went in", at-2, "operations")
	}
}

// And in whichever operation of Open, again and again.
func TestPowerInOpen(t *testing.T) {
	for at := range 24 {
		for cut := range 8 {
			for _, fates := range lists(3) {
				w := newWorld(t)
				w.goes(ordinary(), at+1, []int{cut + 1}, fates)
				w = newWorld(t)
				w.goes(ordinary(), at+1, []int{cut + 1, 8 - cut, cut + 1}, fates)
			}
		}
	}
}

// A file without its top, or with sectors ahead that nobody kept.
func TestPowerInAFirstTransaction(t *testing.T) {
	for n := range 6 {
		for _, fates := range lists(n) {
			for at := range 5 {
				newWorld(t).goes(addings("abC"), at+1, nil, fates)
				newWorld(t).goes(addings("ABC"), at+1, []int{1, 2}, fates)
			}
		}
	}
}

func anyStep(r *rand.Rand) step {
	switch k := r.IntN(40); {
	case k < 24:
		return adding(laid{n: r.IntN(8), letter: byte(r.IntN(256)), commit: r.IntN(3) == 0})
	case k < 32:
		return syncing
	case k < 36:
		return backing(r.IntN(100))
	case k < 39:
		return opening
	}
	return ending
}

// Lives one behind the other, of any steps.
func TestPowerInAnySteps(t *testing.T) {
	r := rand.New(rand.NewPCG(14, 5))
	went, most := 0, 0
	for range 1500 {
		w := newWorld(t)
		for range 8 {
			var steps []step
			for range 10 + r.IntN(20) {
				steps = append(steps, anyStep(r))
			}
			var cuts, fates []int
			for range r.IntN(3) {
				cuts = append(cuts, r.IntN(20)+1)
			}
			for range r.IntN(8) {
				fates = append(fates, r.IntN(3))
			}
			if w.goes(steps, r.IntN(60)+1, cuts, fates) {
				went++
			}
			most = max(most, len(w.laid))
		}
	}
	if went < 3000 || most < 20 {
		t.Error("the power went", went, "times; at most", most, "frames stayed")
	}
}

// What was synced is there, whatever becomes of what waits behind it.
func TestSyncedIsCommitted(t *testing.T) {
	for _, fates := range lists(5) {
		w := newWorld(t)
		for _, s := range append(addings("abAcB"), syncing) {
			s(w)
		}
		w.goes(addings("aBcdE"), 6, nil, fates)
		if len(w.laid) < 5 {
			t.Fatal("fates", fates, len(w.laid))
		}
		w.goes(nil, 0, nil, []int{api.FateTorn})
	}
}
