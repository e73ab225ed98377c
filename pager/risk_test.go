package pager_test

import (
	"cahier/api"
	"cahier/pager"
)

// risky is a world in which operations of the disk fail, or the power goes.
type risky struct {
	*world
	from, to int        // which operations, counted from the disk's first, have a fault
	maybe    []database // what there may be, if the last answer told so
}

func (w *world) risky() *risky { return &risky{world: w} }

// arms a fault in the operation so many ahead, and in more behind it.
func (w *risky) arms(at, kind, more int) {
	w.from = w.d.Ops() + at
	w.to = w.from + more
	w.d.Arm(at, kind, more)
}

// calms: no operation fails any more.
func (w *risky) calms() {
	w.from, w.to = 0, 0
	w.d.Arm(0, 0, 0)
}

// risks a call; what the code tells is what the model then is. It answers whether an operation in it had a fault.
func (w *risky) risks(o op) bool {
	w.t.Helper()
	lost := w.maybe != nil
	ahead, busy, saves := w.d.Ops(), w.p.Busy(), w.p.Saves()
	got := o.call(w.p)
	met := w.from <= w.d.Ops() && w.to > ahead
	if (got.e == api.ErrDown) != w.d.Down() {
		w.t.Fatalf("%v: %v, without power: %t", o, got, w.d.Down())
	}
	if got.e == api.ErrDown && (w.p.Busy() != busy || w.p.Saves() != saves) {
		w.t.Fatalf("%v: ErrDown has changed something", o)
	}
	behind := w.m.copied()
	if want := behind.call(o); got == want && !lost {
		w.m = behind
		return met
	}
	if !met || got != (answer{e: got.e}) {
		w.t.Fatalf("%v: %v, a fault: %t", o, got, met)
	}
	switch got.e {
	case api.ErrIO, api.ErrFull:
		if lost || o.what != "get" && o.what != "checkpoint" {
			w.t.Fatalf("%v: %v", o, got)
		}
	case api.ErrAbort:
		if lost || o.what == "get" || o.what == "checkpoint" || o.what == "ready" || o.what == "rollback" {
			w.t.Fatalf("%v: %v", o, got)
		}
		w.m.ends(w.m.safe)
	case api.ErrMaybe, api.ErrDown:
		w.risked(o, got.e, behind)
	default:
		w.t.Fatalf("%v: %v", o, got)
	}
	return met
}

// risked: it isn't told what has become of a transaction.
func (w *risky) risked(o op, e api.Errno, behind *model) {
	w.t.Helper()
	if w.maybe != nil {
		return
	}
	w.maybe = []database{w.m.safe}
	if o.what == "commit" || o.what == "mode" {
		w.maybe = append(w.maybe, behind.safe)
	} else if e == api.ErrMaybe {
		w.t.Fatalf("%v: %d", o, e)
	}
	w.m.ends(w.m.safe)
}

// settles what there may be by what the pager tells.
func (w *risky) settles() {
	w.t.Helper()
	if w.maybe == nil {
		return
	}
	b := seen(w.t, w.p)
	for _, c := range w.maybe {
		if b.is(c) {
			w.m = modelOf(b)
			w.maybe = nil
			return
		}
	}
	w.t.Fatalf("there is %s, not one of %s", b, w.maybe)
}

// wakes: the power goes, if it hasn't, and comes with these fates; Opens are cut off by it at cuts; one isn't.
func (w *risky) wakes(cuts []int, fates []int) {
	w.t.Helper()
	w.d.Off()
	w.d.On(fates)
	for _, cut := range cuts {
		w.d.Arm(cut, api.FaultPower, 0)
		p, e := pager.Open(w.d, w.size)
		if e != api.OK && (e != api.ErrDown || !w.d.Down() || p != nil) {
			w.t.Fatalf("Open: %v, %d", p, e)
		}
		w.d.Off()
		w.d.On(fates)
	}
	w.opens()
}

// opens another pager, and asks all of what it finds.
func (w *risky) opens() {
	w.t.Helper()
	w.calms()
	w.p = open(w.t, w.d, w.size)
	w.m.ends(w.m.safe)
	w.settles()
	w.whole()
}

// lists: all lists of so many of the three fates.
func lists(n int) [][]int {
	if n == 0 {
		return [][]int{nil}
	}
	var all [][]int
	for _, l := range lists(n - 1) {
		for _, fate := range []int{api.FateLost, api.FateKept, api.FateTorn} {
			all = append(all, append([]int{fate}, l...))
		}
	}
	return all
}

// stories: calls that do all that can be done, in each of both modes.
var stories = []string{
	"begin new new new put:1:a put:3:c root:2 commit begin save put:1:b free:2 save new back:2 put:3:x commit get:1 get:3 begin new new commit",
	"begin new new new new put:1:a put:4:d commit begin free:1 free:3 commit begin new put:3:y reset new put:1:z commit begin new new commit",
	"begin new put:1:a commit mode:2 begin put:1:b new commit checkpoint begin put:2:c commit mode:1 begin put:1:d commit mode:2",
	"begin new new new put:2:b commit begin put:1:x put:2:y rollback begin put:3:z commit begin reset commit checkpoint begin new commit",
}
