package pager_test

import (
	"strconv"
	"testing"

	"cahier/api"
	"cahier/disk"
	"cahier/pager"
)

// P15.6

// begun: a world in which a story has gone so far.
func begun(t *testing.T, mode, size int, story []op) *risky {
	t.Helper()
	w := newWorld(t, size)
	w.play(op{what: "mode", n: mode})
	for _, o := range story {
		w.play(o)
	}
	return w.risky()
}

// trial is a call of a story, of whose operations one fails, with some behind it.
type trial struct {
	story      []op
	call       int
	mode, size int
	at, more   int
}

// meets plays a story up to its call, and risks that. It answers whether an operation failed in it.
func (x trial) meets(t *testing.T) (*risky, bool) {
	t.Helper()
	w := begun(t, x.mode, x.size, x.story[:x.call])
	if x.size == 1 && w.m.head.Pages > 1 {
		// What the call asks isn't at hand.
		w.play(op{what: "get", n: 1 + x.call%(w.m.head.Pages-1)})
	}
	w.arms(x.at, api.FaultIO, x.more)
	met := w.risks(x.story[x.call])
	w.calms()
	return w, met
}

// trials: each call of the stories, each of its operations; those alone of which it isn't told what has become, if so asked.
func trials(t *testing.T, maybe bool, more ...int) []trial {
	t.Helper()
	var list []trial
	for _, words := range stories {
		x := trial{story: ops(words)}
		for x.call = range x.story {
			for _, x.mode = range []int{1, 2} {
				for _, x.size = range []int{1, 20} {
					for _, x.more = range more {
						for x.at = 1; ; x.at++ {
							w, met := x.meets(t)
							if !met {
								break
							}
							if !maybe || w.maybe != nil {
								list = append(list, x)
							}
						}
					}
				}
			}
		}
	}
	return list
}

// The code says what has become of the transaction, and that is so; the calls behind it agree again.
func TestEveryFault(t *testing.T) {
	aborts, maybes := 0, 0
	for _, x := range trials(t, false, 0, 1, 2, 3, 7, 50) {
		w, _ := x.meets(t)
		if w.maybe != nil {
			maybes++
		}
		if !w.m.busy {
			aborts++
		}
		w.settles()
		w.whole()
		for _, o := range x.story[x.call+1:] {
			w.play(o)
		}
		w.whole()
		w.again()
	}
	if aborts < 1000 || maybes < 100 {
		t.Error(aborts, maybes)
	}
}

// One fault alone is never one of which nothing can be told.
func TestOneFaultIsTold(t *testing.T) {
	if list := trials(t, true, 0); len(list) > 0 {
		t.Error(list[0])
	}
}

// What is told holds for good, whatever then becomes of what waits; for another pager too.
func TestEveryFaultThenPower(t *testing.T) {
	for _, x := range trials(t, false, 0, 1, 50) {
		for _, fates := range append(lists(1), []int{0, 2, 1}) {
			w, _ := x.meets(t)
			w.settles()
			w.wakes(nil, fates)
		}
		w, _ := x.meets(t)
		w.opens()
		w.again(api.FateLost)
	}
}

// Whatever is left, the power may go ahead of any look for it, or in it; or in the Open of another pager.
func TestPowerBehindEveryFault(t *testing.T) {
	for _, x := range trials(t, true, 1, 50) {
		if x.size == 1 {
			continue
		}
		for _, fates := range append(lists(1), []int{0, 1, 2}, []int{1, 2, 0}, []int{0, 2, 2, 2, 2, 2}) {
			for at := 1; ; at++ {
				w, _ := x.meets(t)
				w.arms(at, api.FaultPower, 0)
				e := w.p.Ready()
				went := w.d.Down()
				if went != (e == api.ErrDown) {
					t.Fatal("Ready", e)
				}
				w.wakes(nil, fates)
				if !went {
					break
				}
				w, _ = x.meets(t)
				w.arms(at, api.FaultPower, 0)
				if p, e := pager.Open(w.d, 1); p != nil || e != api.ErrDown {
					t.Fatal("Open", e)
				}
				w.wakes([]int{at, 1}, fates)
			}
		}
	}
}

// As the look fails each call is ErrMaybe; then each is what it is.
func TestLost(t *testing.T) {
	for _, mode := range []int{1, 2} {
		w := lost(t, mode)
		ahead := w.d.Ops()
		want(t, "Ready", w.p.Ready(), api.OK)
		look := w.d.Ops() - ahead
		for _, o := range calls {
			w := lost(t, mode)
			for at := 1; at <= look; at++ {
				w.arms(at, api.FaultIO, 0)
				if got := o.call(w.p); got != (answer{e: api.ErrMaybe}) || w.p.Busy() || w.p.Saves() != 0 {
					t.Fatalf("%s, mode %d, at %d: %v", o.what, mode, at, got)
				}
			}
			w.calms()
			again := lost(t, mode)
			again.settles()
			if got, want := o.call(w.p), again.m.call(o); got != want {
				t.Errorf("%s, mode %d: %v, not %v", o.what, mode, got, want)
			}
		}
		// What the head is is looked for, too.
		w, again := lost(t, mode), lost(t, mode)
		want(t, "Ready", again.p.Ready(), api.OK)
		if h := w.p.Head(); h != again.p.Head() || w.d.Ops() != again.d.Ops() {
			t.Errorf("%+v, not %+v", h, again.p.Head())
		}
	}
}

// lost: a world in which undoing a Commit has failed.
func lost(t *testing.T, mode int) *risky {
	t.Helper()
	for at := 1; at < 50; at++ {
		w := begun(t, mode, 2, ops("begin new new put:1:a commit begin put:1:b save new"))
		w.arms(at, api.FaultIO, 1000)
		w.risks(op{what: "commit"})
		w.calms()
		if w.maybe != nil {
			return w
		}
	}
	t.Fatal("no Commit is ErrMaybe")
	return nil
}

func TestReady(t *testing.T) {
	for _, mode := range []int{1, 2} {
		w := begun(t, mode, 2, nil)
		n := w.d.Ops()
		w.plays("ready begin ready new ready")
		if w.d.Ops() != n {
			t.Error("operations were made")
		}
		w = lost(t, mode)
		w.arms(1, api.FaultIO, 1)
		want(t, "Ready", w.p.Ready(), api.ErrMaybe)
		want(t, "Ready", w.p.Ready(), api.ErrMaybe)
		w.calms()
		want(t, "Ready", w.p.Ready(), api.OK)
		n = w.d.Ops()
		want(t, "Ready", w.p.Ready(), api.OK)
		if w.d.Ops() != n {
			t.Error("what was found is looked for again")
		}
		w.settles()
		w.plays("begin put:1:z new commit")
		w.whole()
		w.again()
	}
}

// From the power's going on each call is ErrDown, whatever it is called with, with power too; what it tells stays.
func TestDown(t *testing.T) {
	wrong := ops("get:0 put:0:x free:99 root:-1 back:0 back:9 release:0 mode:0 mode:1")
	for _, mode := range []int{1, 2} {
		for _, words := range []string{"", "begin new", "begin new put:1:a commit", "begin new commit begin put:1:b save reset"} {
			w := begun(t, mode, 2, ops(words))
			b, busy, saves := w.p.Head(), w.p.Busy(), w.p.Saves()
			w.d.Off()
			for range 2 {
				n := w.d.Ops()
				for _, o := range append(wrong, calls...) {
					if got := o.call(w.p); got != (answer{e: api.ErrDown}) {
						t.Errorf("%s: %v", o.what, got)
					}
				}
				want(t, "Put", w.p.Put(1, "x"), api.ErrDown)
				if w.d.Ops() != n || w.p.Head() != b || w.p.Busy() != busy || w.p.Saves() != saves {
					t.Error("ErrDown has changed something")
				}
				w.d.On([]int{api.FateKept})
			}
			w.wakes(nil, nil)
		}
		w := lost(t, mode)
		w.d.Off()
		w.d.On(nil)
		want(t, "Ready", w.p.Ready(), api.ErrDown)
		want(t, "Begin", w.p.Begin(), api.ErrDown)
	}
}

// The power goes in a look: it is ErrDown, not ErrMaybe.
func TestDownInALook(t *testing.T) {
	for _, mode := range []int{1, 2} {
		for at := 1; ; at++ {
			w := lost(t, mode)
			w.arms(at, api.FaultPower, 0)
			_, e := w.p.Get(1)
			if e != api.ErrDown {
				want(t, "Get", e, api.OK)
				break
			}
			want(t, "Commit", w.p.Commit(), api.ErrDown)
			w.wakes(nil, nil)
		}
	}
}

// filled: a world whose disk has room for just so many sectors more.
func filled(t *testing.T, mode, more int) *risky {
	t.Helper()
	w := begun(t, mode, 1, ops("begin new new new put:1:a put:2:b put:3:c commit begin put:1:d new commit"))
	used := 0
	for _, name := range w.d.Names() {
		used += w.d.Size(name)
	}
	w.d.Room(used + more)
	return w
}

// Without room a Commit is ErrAbort; with it the same is OK.
func TestNoRoom(t *testing.T) {
	for _, mode := range []int{1, 2} {
		aborted := 0
		for more := range 16 {
			w := filled(t, mode, more)
			w.plays("begin put:1:x put:2:y new put:5:z")
			got := w.p.Commit()
			if got == api.OK {
				w.m.call(op{what: "commit"})
				w.whole()
				continue
			}
			aborted++
			want(t, "Commit", got, api.ErrAbort)
			w.m.ends(w.m.safe)
			w.whole()
			// Nothing of it takes room.
			w.plays("begin commit")
			again := filled(t, mode, more)
			again.plays("begin root:1")
			e := again.p.Commit()
			w.plays("begin root:1")
			want(t, "a small Commit", w.p.Commit(), e)
			w.m.ends(onDisk(t, w.d))
			w.d.Room(api.MaxRoom)
			w.plays("begin put:1:x put:2:y new put:5:z commit")
			w.whole()
			w.again()
		}
		if aborted < 4 || aborted > 10 {
			t.Error("the mode", mode, "has no room", aborted, "times")
		}
	}
}

// A Checkpoint without room is ErrFull, and takes none.
func TestNoRoomForACheckpoint(t *testing.T) {
	for more := range 4 {
		for _, mode := range []int{1, 2} {
			w := filled(t, 2, more)
			if mode == 2 {
				want(t, "Checkpoint", w.p.Checkpoint(), api.ErrFull)
			} else {
				want(t, "Mode", w.p.Mode(1), api.ErrAbort)
			}
			w.whole()
			twin := filled(t, 2, more)
			for _, words := range []string{"begin root:1", "begin put:1:x"} {
				w.plays(words)
				twin.plays(words)
				e := twin.p.Commit()
				want(t, "Commit", w.p.Commit(), e)
				w.m.ends(onDisk(t, w.d))
				twin.m.ends(onDisk(t, twin.d))
			}
			w.d.Room(api.MaxRoom)
			w.plays("checkpoint mode:1")
			w.whole()
			w.again()
		}
	}
}

// No file more can be made.
func TestNoFileMore(t *testing.T) {
	d := disk.New(100)
	for i := range 7 {
		want(t, "Load", d.Load("f"+strconv.Itoa(i), ""), api.OK)
	}
	w := &world{t: t, d: d, p: open(t, d, 2), size: 2, m: newModel()}
	for range 2 {
		w.plays("begin new put:1:a")
		want(t, "Commit", w.p.Commit(), api.ErrAbort)
		w.m.ends(w.m.safe)
		want(t, "Mode", w.p.Mode(2), api.ErrAbort)
		w.whole()
	}
	d.Drop("f1")
	w.plays("begin new put:1:a commit mode:2 begin new commit")
	w.whole()
	w.again()
}

// A Get in a transaction that fails leaves it as it is.
func TestGetFails(t *testing.T) {
	for _, mode := range []int{1, 2} {
		w := begun(t, mode, 1, ops("begin new new put:1:a put:2:b commit begin put:1:x save get:2"))
		w.again()
		w.plays("get:1 begin put:1:x save")
		for range 3 {
			w.arms(1, api.FaultIO, 0)
			if data, e := w.p.Get(2); data != "" || e != api.ErrIO {
				t.Fatal(data, e)
			}
			w.calms()
			w.same()
		}
		w.plays("get:1 get:2 put:2:y back:1 get:2 commit")
		w.whole()
	}
}

// New and Free end a transaction if they can't read the list of free pages.
func TestNewFails(t *testing.T) {
	for _, mode := range []int{1, 2} {
		for _, o := range ops("new free:1") {
			w := begun(t, mode, 1, ops("begin new new new free:2 free:3 commit get:1"))
			w.again()
			w.plays("get:1 begin put:1:x save")
			w.arms(1, api.FaultIO, 0)
			if got := o.call(w.p); got != (answer{e: api.ErrAbort}) {
				t.Errorf("%s: %v", o.what, got)
			}
			w.calms()
			w.m.ends(w.m.safe)
			w.whole()
			want(t, "Commit", w.p.Commit(), api.ErrState)
			w.plays("begin new free:1 commit")
			w.whole()
		}
	}
}
