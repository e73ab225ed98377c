package pager_test

import (
	"math"
	"math/rand/v2"
	"strings"
	"testing"

	"cahier/api"
	"cahier/disk"
	"cahier/pager"
	"cahier/shelf"
)

// calls: one of each that answers an error.
var calls = ops("ready get:1 put:1:x new free:1 root:0 reset begin commit rollback save back:1 release:1 mode:2 checkpoint")

// changes: those that change a database, each as it may be.
var changes = ops("put:1:x new free:1 root:1 reset")

func TestNilPager(t *testing.T) {
	var p *pager.Pager
	for _, o := range calls {
		if got := o.call(p); got != (answer{e: api.ErrNil}) {
			t.Errorf("%s: %v", o.what, got)
		}
	}
	if p.Head() != (api.Head{}) || p.Busy() || p.Saves() != 0 {
		t.Error(p.Head(), p.Busy(), p.Saves())
	}
}

// P15.2

func TestWithoutATransaction(t *testing.T) {
	ends := ops("rollback commit")
	for _, mode := range []int{1, 2} {
		w := newWorld(t, 3)
		for i := range 3 {
			ahead := w.d.Ops()
			// What is wrong besides plays no part.
			for _, o := range ops("put:1:x put:0:x new free:1 free:-1 root:0 root:9 reset commit rollback save back:1 back:0 release:1 release:-7") {
				if got := o.call(w.p); got != (answer{e: api.ErrState}) {
					t.Errorf("%v: %v", o, got)
				}
			}
			want(t, "Put of no page's bytes", w.p.Put(1, "x"), api.ErrState)
			if w.d.Ops() != ahead {
				t.Error("operations were made")
			}
			w.whole()
			w.play(op{what: "mode", n: mode})
			w.plays("begin new root:1 save")
			w.play(ends[i%2])
		}
	}
}

func TestInATransaction(t *testing.T) {
	w := newWorld(t, 3)
	for _, mode := range []int{1, 2} {
		w.play(op{what: "mode", n: mode})
		w.plays("begin")
		for _, ahead := range []string{"save", "new", "put:1:a", "save", "back:1", "release:1"} {
			w.plays(ahead)
			n := w.d.Ops()
			for _, o := range ops("begin mode:1 mode:2 mode:3 checkpoint") {
				if got := o.call(w.p); got.e != api.ErrState {
					t.Errorf("%v: %v", o, got)
				}
			}
			if w.d.Ops() != n {
				t.Error("operations were made")
			}
			w.whole()
		}
		w.plays("commit")
	}
}

// P15.3

// A pager's calls in a transaction are a shelf's.
func TestAsAShelf(t *testing.T) {
	for seed := range uint64(20) {
		r := rand.New(rand.NewPCG(3, seed))
		p, s := open(t, disk.New(100), 1), shelf.New(api.MaxPages)
		want(t, "Begin", p.Begin(), api.OK)
		for range 300 {
			n := anyNumber(r, s.Head().Pages)
			switch r.IntN(6) {
			case 0:
				got, e := p.Get(n)
				if data, f := s.Get(n); got != data || e != f {
					t.Fatalf("Get(%d): %d, not %d", n, e, f)
				}
			case 1:
				data := page(byte(r.IntN(256)))[r.IntN(8)/7:]
				want(t, "Put", p.Put(n, data), s.Put(n, data))
			case 2, 3:
				got, e := p.New()
				if k, f := s.New(); got != k || e != f {
					t.Fatalf("New: %d, %d, not %d, %d", got, e, k, f)
				}
			case 4:
				want(t, "Free", p.Free(n), s.Free(n))
			case 5:
				want(t, "Root", p.Root(n), s.Root(n))
			}
			if p.Head() != s.Head() {
				t.Fatalf("Head: %+v, not %+v", p.Head(), s.Head())
			}
		}
	}
}

func TestWrongPages(t *testing.T) {
	for _, mode := range []string{"mode:1", "mode:2"} {
		w := newWorld(t, 3)
		w.plays(mode)
		w.plays("begin new new put:1:a root:2 commit begin new put:2:b")
		for _, n := range []int{math.MinInt, -1, 0, 4, 5, 4095, 4096, 1<<32 + 1, math.MaxInt} {
			for _, what := range []string{"get", "put", "free"} {
				if got := (op{what, n, 'x'}).call(w.p); got != (answer{e: api.ErrPage}) {
					t.Errorf("%s of %d: %v", what, n, got)
				}
			}
			// The wrong number is named ahead of wrong bytes.
			want(t, "Put", w.p.Put(n, "x"), api.ErrPage)
			if n != 0 {
				want(t, "Root", w.p.Root(n), api.ErrPage)
			}
		}
		for _, size := range []int{0, 1, 231, 233, 256, 464} {
			want(t, "Put of other bytes", w.p.Put(1, strings.Repeat("x", size)), api.ErrArg)
		}
		w.whole()
		w.plays("root:0 root:3 commit get:0 get:3 get:4 get:-1")
		w.whole()
	}
}

// Free pages are read and written too; trunks that were spoilt so are told, and the transaction goes on.
func TestSpoiltTrunk(t *testing.T) {
	for _, mode := range []string{"mode:1", "mode:2"} {
		w := newWorld(t, 2)
		w.plays(mode)
		w.plays("begin new new new free:2 free:3 get:2 get:3 commit begin put:3:x new put:2:y")
		for _, o := range ops("new free:1") {
			if got := o.call(w.p); got != (answer{e: api.ErrBad}) {
				t.Errorf("%v: %v", o, got)
			}
			w.whole()
		}
		w.plays("put:1:z save commit")
		w.whole()
	}
}

// All that can be freed is free; there is nothing more to free.
func TestAllFree(t *testing.T) {
	w := newWorld(t, 1)
	w.plays("begin new new free:1 free:2 free:1")
	if w.m.head.Spare != 2 {
		t.Error(w.m.head)
	}
	w.plays("new new new commit")
	w.whole()
}

func TestReset(t *testing.T) {
	for _, mode := range []string{"mode:1", "mode:2"} {
		for _, size := range []int{1, 20} {
			w := newWorld(t, size)
			w.plays(mode)
			w.plays("begin reset new new new new new put:1:a put:2:b put:3:c put:5:e free:4 root:3 commit")
			ahead := w.p.Head()
			w.plays("begin save reset get:1 get:5 root:1")
			if h := w.p.Head(); h != (api.Head{Mode: ahead.Mode, Pages: 1, Change: ahead.Change}) {
				t.Errorf("%+v", h)
			}
			w.plays("new get:1 put:1:x reset new new get:1 get:2 get:3 save put:2:y back:1 get:1 get:2 get:4 rollback")
			w.whole()
			w.plays("begin reset new commit")
			w.whole()
			w.again()
			w.plays("begin new new get:2 get:3 put:3:z commit")
			w.whole()
			w.plays("begin reset commit")
			w.whole()
			w.again()
		}
	}
}

// Of pages that are gone nothing is written.
func TestResetWritesNothing(t *testing.T) {
	w := newWorld(t, 2)
	w.plays("mode:2 begin new new new put:3:x save reset commit")
	if w.d.Size("log") != 2 {
		t.Error(w.d.Size("log"))
	}
	w.whole()
}

// P15.4

func TestChange(t *testing.T) {
	for _, mode := range []string{"mode:1", "mode:2"} {
		for _, o := range changes {
			for _, more := range []string{"", "put:1:y", "save reset back:1", "rollback begin"} {
				w := newWorld(t, 2)
				w.plays(mode)
				w.plays("begin new commit begin")
				ahead := w.p.Head().Change
				w.play(o)
				if w.p.Head().Change != ahead {
					t.Error(o.what, "the change is counted ahead of the Commit")
				}
				w.plays(more)
				w.plays("commit")
				counts := uint64(1)
				if strings.HasPrefix(more, "rollback") {
					counts = 0
				}
				if got := w.p.Head().Change; got != ahead+counts {
					t.Error(o.what, more, got, ahead)
				}
				w.whole()
			}
		}
	}
}

// A change that is taken back was a change; one that is refused was none.
func TestWhatIsAChange(t *testing.T) {
	for _, mode := range []string{"mode:1", "mode:2"} {
		w := newWorld(t, 2)
		w.plays(mode)
		w.plays("begin new commit")
		h := w.p.Head()
		for range 2 {
			w.plays("begin save put:0:x put:2:x free:2 root:2 get:1 get:2 save back:2 release:1 back:1")
			want(t, "Put", w.p.Put(1, "x"), api.ErrArg)
			n := w.d.Ops()
			w.plays("commit")
			if w.p.Head() != h || w.d.Ops() != n {
				t.Error(w.p.Head(), w.d.Ops()-n)
			}
		}
		w.plays("begin save put:1:x back:1 commit")
		if w.p.Head().Change != h.Change+1 {
			t.Error(w.p.Head())
		}
		w.plays("begin root:0 commit")
		if w.p.Head().Change != h.Change+2 {
			t.Error(w.p.Head())
		}
		w.whole()
	}
}

// Nobody sees a transaction ahead of its Commit, nor behind its Rollback.
func TestOthersSeeCommits(t *testing.T) {
	for _, mode := range []string{"mode:1", "mode:2"} {
		w := newWorld(t, 1)
		w.plays(mode)
		w.plays("begin new new put:1:a put:2:b commit")
		for _, end := range []string{"rollback", "commit"} {
			w.plays("begin")
			for _, o := range ops("put:1:x new put:3:c free:2 root:1 save put:1:y get:1 get:2 get:3") {
				w.play(o)
				w.whole()
			}
			w.plays(end)
			w.whole()
			w.again()
		}
	}
}

func TestSavepoints(t *testing.T) {
	w := newWorld(t, 1)
	w.plays("begin new")
	for k := range 16 {
		w.play(op{what: "put", n: 1, letter: byte('a' + k)})
		w.plays("save")
	}
	want(t, "Save", w.p.Save(), api.ErrMany)
	w.plays("save put:1:z")
	for _, k := range []int{math.MinInt, -1, 0, 17, 18, math.MaxInt} {
		want(t, "Back", w.p.Back(k), api.ErrArg)
		want(t, "Release", w.p.Release(k), api.ErrArg)
	}
	w.whole()
	// Back goes to a savepoint over and over; Release lets what there is stay.
	w.plays("back:16 get:1 put:1:y back:16 get:1 back:12 get:1 back:13 release:12 get:1 back:12 back:11 new put:1:x release:11 get:1 get:2 save put:1:w back:11 get:1 release:5 get:1")
	w.whole()
	w.plays("back:4 get:1 get:2 release:1 get:1 back:1 save save save")
	w.plays("commit begin back:1 release:1 save rollback begin release:1 commit")
	w.whole()
}

// What a savepoint holds isn't touched by what is done behind it, nor behind going back to it.
func TestSavepointsAreApart(t *testing.T) {
	for _, mode := range []string{"mode:1", "mode:2"} {
		w := newWorld(t, 2)
		w.plays(mode)
		w.plays("begin new new new put:1:a put:2:b put:3:c commit begin free:3 save put:1:A save free:2 save reset new put:1:B save new new put:3:C root:2")
		for _, k := range []int{4, 4, 3, 3, 2, 2, 1, 1} {
			w.play(op{what: "back", n: k})
			w.whole()
			w.plays("put:1:x new put:3:y root:1 reset new save")
		}
		w.plays("back:1 commit")
		w.whole()
	}
}

func TestExamples(t *testing.T) {
	a, b, c := page('a'), page('b'), page('c')
	d := disk.New(100)
	p := open(t, d, 5)
	want(t, "Begin", p.Begin(), api.OK)
	if n, e := p.New(); n != 1 || e != api.OK {
		t.Error(n, e)
	}
	want(t, "Put", p.Put(1, a), api.OK)
	want(t, "Commit", p.Commit(), api.OK)
	want(t, "Begin", p.Begin(), api.OK)
	want(t, "Put", p.Put(1, b), api.OK)
	want(t, "Save", p.Save(), api.OK)
	want(t, "Put", p.Put(1, c), api.OK)
	want(t, "Back", p.Back(1), api.OK)
	if data, e := p.Get(1); data != b || e != api.OK {
		t.Error(data, e)
	}
	d.Off()
	d.On(nil)
	p = open(t, d, 5)
	if data, e := p.Get(1); data != a || e != api.OK {
		t.Error(data, e)
	}
	p = open(t, disk.New(100), 5)
	if data, e := p.Get(1); data != "" || e != api.ErrPage {
		t.Error(data, e)
	}
	want(t, "Commit", p.Commit(), api.ErrState)
}

// P15.8

// Bytes that were handed in as a part of others, and pages that were answered, stay what they are.
func TestMemory(t *testing.T) {
	w := newWorld(t, 1)
	bytes := []byte(page('a') + page('b'))
	both := string(bytes)
	w.plays("begin new new")
	want(t, "Put", w.p.Put(1, both[:232]), api.OK)
	want(t, "Put", w.p.Put(2, both[232:]), api.OK)
	clear(bytes)
	one, _ := w.p.Get(1)
	h := w.p.Head()
	w.p.Save()
	want(t, "Put", w.p.Put(1, page('c')), api.OK)
	want(t, "Root", w.p.Root(1), api.OK)
	if one != page('a') || h.Root != 0 || both != page('a')+page('b') {
		t.Error("what was answered has changed")
	}
	w.p.Back(1)
	want(t, "Commit", w.p.Commit(), api.OK)
	two, _ := w.p.Get(2)
	one, _ = w.p.Get(1)
	if one != page('a') || two != page('b') {
		t.Error("what was put has changed")
	}
}

// Pages at hand are asked of the disk once.
func TestAtHand(t *testing.T) {
	for _, mode := range []string{"mode:1", "mode:2"} {
		w := newWorld(t, 2)
		w.plays(mode)
		w.plays("begin new new new put:1:a put:2:b put:3:c commit")
		w.again()
		for _, words := range []string{"get:1", "get:2", "get:1 get:2", "get:3", "get:3 begin get:3 put:2:x get:2 rollback"} {
			n := w.d.Ops()
			w.plays(words)
			w.plays(words)
			if made := w.d.Ops() - n; made > 1 {
				t.Errorf("%s: %d operations", words, made)
			}
		}
	}
}

// Sizes are any numbers.
func TestSizes(t *testing.T) {
	for _, size := range []int{math.MinInt, -1, 0, 1, 256, 257, math.MaxInt} {
		w := newWorld(t, size)
		w.plays("begin new new new put:1:a put:2:b commit mode:2 begin put:3:c commit")
		w.whole()
		w.again()
	}
}
