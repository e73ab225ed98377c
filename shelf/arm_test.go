package shelf_test

import (
	"math"
	"testing"

	"cahier/api"
	"cahier/shelf"
)

// calls: the four that Arm counts, as they are right, and as they are refused, on the shelf of armed.
func calls() map[string]func(s *shelf.Shelf) api.Errno {
	get := func(n int) func(s *shelf.Shelf) api.Errno {
		return func(s *shelf.Shelf) api.Errno {
			_, e := s.Get(n)
			return e
		}
	}
	put := func(n int, data string) func(s *shelf.Shelf) api.Errno {
		return func(s *shelf.Shelf) api.Errno { return s.Put(n, data) }
	}
	free := func(n int) func(s *shelf.Shelf) api.Errno {
		return func(s *shelf.Shelf) api.Errno { return s.Free(n) }
	}
	return map[string]func(s *shelf.Shelf) api.Errno{
		"Get":                 get(1),
		"Get of no page":      get(0),
		"Put":                 put(1, full("y")),
		"Put of no page":      put(-1, full("y")),
		"Put of another size": put(1, "y"),
		"New": func(s *shelf.Shelf) api.Errno {
			_, e := s.New()
			return e
		},
		"Free":            free(1),
		"Free of no page": free(math.MaxInt),
	}
}

// armed: a shelf with pages that are free and pages that aren't.
func armed(t *testing.T, at int) (*shelf.Shelf, state) {
	s := shelfOf(t, full("a"), full("b"), full("c"), full("d"))
	frees(t, s, 2, 3, 4)
	before := stateOf(t, s)
	s.Arm(at)
	return s, before
}

// P10.5

func TestArmedFromTheFirstOn(t *testing.T) {
	for what, call := range calls() {
		s, before := armed(t, 1)
		for i := range 5 {
			if e := call(s); e != api.ErrIO {
				t.Errorf("%s, call %d: %d", what, i, e)
			}
		}
		s.Arm(0)
		holds(t, s, before)
	}
}

// Each call counts once, also one that is refused, and one that asks for trunks.
func TestEachCallCounts(t *testing.T) {
	for first, ahead := range calls() {
		for at := 2; at < 7; at++ {
			s, _ := armed(t, at)
			for i := 1; i < at; i++ {
				if e := ahead(s); e == api.ErrIO {
					t.Fatalf("%s, call %d of %d", first, i, at)
				}
			}
			for second, call := range calls() {
				if e := call(s); e != api.ErrIO {
					t.Fatalf("%s behind %d of %s: %d", second, at-1, first, e)
				}
			}
		}
	}
}

func TestArmFailsAheadOfAllElse(t *testing.T) {
	// No room.
	s := shelf.New(1)
	s.Arm(1)
	makes(t, s, 0, api.ErrIO)
	s.Arm(0)
	makes(t, s, 0, api.ErrRoom)
	// A trunk that is none, and pages that are all free.
	s = shelfOf(t, full("a"), full("b"))
	frees(t, s, 1, 2)
	puts(t, s, 1, full("x"))
	s.Arm(1)
	makes(t, s, 0, api.ErrIO)
	if e := s.Free(2); e != api.ErrIO {
		t.Errorf("Free: %d", e)
	}
	s.Arm(0)
	makes(t, s, 0, api.ErrBad)
	if e := s.Free(2); e != api.ErrBad {
		t.Errorf("Free: %d", e)
	}
}

func TestNothingIsArmed(t *testing.T) {
	for _, at := range []int{math.MinInt, -1 << 32, -2, -1, 0} {
		for _, ahead := range []int{0, 1, 3} {
			s, _ := armed(t, ahead)
			s.Arm(at)
			for range 50 {
				gets(t, s, 1, full("a"), api.OK)
			}
			makes(t, s, 4, api.OK)
		}
	}
	s, before := armed(t, math.MaxInt)
	for range 50 {
		holds(t, s, before)
	}
}

// What is armed holds from the call of Arm on, whatever was armed ahead of it.
func TestArmedAnew(t *testing.T) {
	for _, ahead := range []int{0, 1, 2, 3, 100} {
		for _, at := range []int{1, 2, 3, 5} {
			s, _ := armed(t, ahead)
			for range 2 {
				s.Get(1)
			}
			s.Arm(at)
			for i := 1; i < 10; i++ {
				want, err := full("a"), api.OK
				if i >= at {
					want, err = "", api.ErrIO
				}
				gets(t, s, 1, want, err)
			}
		}
	}
}

// Head and Root neither count nor fail.
func TestHeadAndRootAreNotCounted(t *testing.T) {
	s, before := armed(t, 2)
	for range 3 {
		for root := range 5 {
			if h := s.Head(); h.Pages != 5 {
				t.Fatalf("Head: %+v", h)
			}
			if e := s.Root(root); e != api.OK {
				t.Fatalf("Root(%d): %d", root, e)
			}
			if e := s.Root(5); e != api.ErrPage {
				t.Fatalf("Root(5): %d", e)
			}
		}
	}
	gets(t, s, 1, full("a"), api.OK)
	gets(t, s, 1, "", api.ErrIO)
	if e := s.Root(3); e != api.OK || s.Head().Root != 3 {
		t.Fatalf("Root, calls fail: %d, %+v", e, s.Head())
	}
	s.Arm(0)
	before.head.Root = 3
	holds(t, s, before)
}
