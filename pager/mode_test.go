package pager_test

import (
	"math"
	"math/rand/v2"
	"strings"
	"testing"

	"cahier/api"
	"cahier/disk"
)

// P15.5

func TestMode(t *testing.T) {
	w := newWorld(t, 2)
	for _, mode := range []int{1, 2, 1, 2, 2, 1} {
		n, h := w.d.Ops(), w.p.Head()
		for _, m := range []int{math.MinInt, -1, 0, 3, 1 << 32, 1<<32 + 1, math.MaxInt, h.Mode} {
			e := api.ErrArg
			if m == h.Mode {
				e = api.OK
			}
			want(t, "Mode", w.p.Mode(m), e)
		}
		if w.d.Ops() != n || w.p.Head() != h {
			t.Error("a mode that is none, or is there: ", w.d.Ops()-n, w.p.Head())
		}
		w.play(op{what: "mode", n: mode})
		w.whole()
		w.again()
		if mode != h.Mode && w.p.Head().Change != h.Change+1 {
			t.Error(w.p.Head(), h)
		}
		w.plays("begin new put:1:m commit begin root:1 commit")
		w.whole()
		w.again()
	}
}

// Behind a change of the mode, or a checkpoint, the main file alone is the database.
func TestModeWithPages(t *testing.T) {
	for _, size := range []int{1, 3, 50} {
		w := newWorld(t, size)
		w.plays("begin new new new put:1:a put:2:b put:3:c commit")
		for _, words := range []string{"mode:2", "mode:1", "begin reset new put:1:x commit mode:2", "begin new new put:2:y commit mode:1 begin put:3:w free:1 commit", "mode:2 begin put:3:z commit begin reset commit begin new commit mode:1", "mode:2 mode:1"} {
			w.plays(words)
			w.whole()
			if w.d.Size("log") != -1 || w.d.Size("data") != w.m.head.Pages {
				t.Error(words, w.d.Names(), w.d.Size("data"), w.m.head)
			}
			w.again()
		}
	}
}

func TestCheckpoint(t *testing.T) {
	w := newWorld(t, 2)
	w.plays("begin new new put:1:a commit")
	n := w.d.Ops()
	w.plays("checkpoint checkpoint")
	if w.d.Ops() != n {
		t.Error("operations with the journal's mode")
	}
	w.plays("mode:2")
	for _, words := range []string{"", "begin new put:3:c put:1:x commit begin put:1:y commit", "begin reset commit", "begin new new commit begin reset new commit", "begin new new new free:2 commit"} {
		w.plays(words)
		w.whole()
		w.plays("checkpoint")
		w.whole()
		if w.d.Size("log") != -1 || w.d.Size("data") != w.m.head.Pages || w.p.Head().Mode != 2 {
			t.Error(words, w.d.Names(), w.d.Size("data"), w.m.head)
		}
		w.again()
		w.plays("begin put:1:z commit")
		w.again()
	}
}

// What a log says that played no part plays none in its mode, either.
func TestModeWithAForeignLog(t *testing.T) {
	b := some(1)
	h := some(2).head
	h.Change = 99
	for _, sectors := range [][]string{
		nil,
		{"junk"},
		logFile(t),
		logFile(t, frame{1, page('!'), true}),
		logFile(t, frame{1, page('!'), false}, frame{0, first(t, h), true}),
	} {
		d := load(t, map[string][]string{"data": mainFile(t, b), "log": sectors})
		w := &world{t: t, d: d, p: open(t, d, 2), size: 2, m: modelOf(b)}
		w.plays("begin put:2:x commit")
		d.Arm(1, api.FaultIO, 0)
		want(t, "Mode", w.p.Mode(2), api.ErrAbort)
		w.whole()
		w.plays("mode:2")
		w.whole()
		w.again()
		w.plays("begin put:3:y commit")
		w.again()
	}
}

// Sectors behind the pages, be they whose they may, are cut off.
func TestSectorsBehind(t *testing.T) {
	for _, mode := range []int{1, 2} {
		b := some(mode)
		files := append(mainFile(t, b), "junk"+strings.Repeat(".", 252), sector(t, 1, 5, 0, page('!')))
		d := load(t, map[string][]string{"data": files})
		w := &world{t: t, d: d, p: open(t, d, 2), size: 2, m: modelOf(b)}
		w.plays("begin put:2:x commit checkpoint")
		w.whole()
		if d.Size("data") != 4 {
			t.Error(d.Size("data"))
		}
		w.plays("begin new new get:4 get:5 commit checkpoint")
		w.again()
		w.whole()
	}
}

// More sectors than a database has pages can stand there.
func TestManySectorsBehind(t *testing.T) {
	for _, mode := range []int{1, 2} {
		b := some(mode)
		d := load(t, map[string][]string{"data": append(mainFile(t, b), strings.Repeat("junk", 64*4092))})
		for n := range 3 {
			want(t, "Write", d.Write("data", 4096+n, sector(t, 1, 4096+n, 0, page('!'))), api.OK)
		}
		w := &world{t: t, d: d, p: open(t, d, 2), size: 2, m: modelOf(b)}
		w.plays("begin put:2:x commit checkpoint")
		w.whole()
		if d.Size("data") != 4 {
			t.Error(d.Size("data"))
		}
	}
}

// twin is a pager to which nothing is done that no answer hangs on.
func (w *world) twin() *world {
	d := disk.New(api.MaxRoom)
	return &world{t: w.t, d: d, p: open(w.t, d, 200), size: 200, m: w.m}
}

// No answer hangs on the mode, on checkpoints, on how many pages are at hand.
func TestNoAnswerHangsOnIt(t *testing.T) {
	for seed := range uint64(40) {
		r := rand.New(rand.NewPCG(5, seed))
		w := newWorld(t, 1+int(seed)%5)
		other := w.twin()
		for i := range 200 {
			o := anyOp(r, w.m)
			if !w.m.busy && r.IntN(2) == 0 {
				w.plays([]string{"mode:1", "mode:2", "checkpoint", "checkpoint mode:2 checkpoint"}[r.IntN(4)])
			}
			if o.what == "mode" {
				continue
			}
			got := o.call(other.p)
			if a := w.m.copied().call(o); a != got {
				t.Fatalf("step %d, %v: %v, not %v", i, o, got, a)
			}
			w.play(o)
			b, c := seen(t, w.p), seen(t, other.p)
			// The changes of the mode are counted in one of both.
			b.head.Mode, b.head.Change = c.head.Mode, c.head.Change
			if !b.is(c) {
				t.Fatalf("step %d, %v: %s, not %s", i, o, b, c)
			}
		}
	}
}
