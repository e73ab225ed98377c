package shelf_test

import (
	"encoding/binary"
	"math"
	"slices"
	"strings"
	"testing"
	"unsafe"

	"cahier/api"
	"cahier/shelf"
)

// Trees and chains are laid on a shelf as these.
var _ api.Pages = (*shelf.Shelf)(nil)

var noughts = strings.Repeat("\x00", 232)

// full: a page of one byte.
func full(b string) string { return strings.Repeat(b, 232) }

// trunk: a trunk's page, as chapter 9 words it.
func trunk(next uint32, list ...uint32) string {
	out := binary.BigEndian.AppendUint32([]byte{4}, next)
	out = append(out, byte(len(list)))
	for _, n := range list {
		out = binary.BigEndian.AppendUint32(out, n)
	}
	return string(append(out, make([]byte, 232-len(out))...))
}

// beyond: numbers that are no page's of a shelf of so many.
func beyond(pages int) []int {
	return []int{math.MinInt, -1 << 32, 1 - 1<<32, -pages, -1, 0, pages, pages + 1, 4096, 4097, 1<<32 + 1, math.MaxInt}
}

// shelfOf: a shelf with room for 100 pages, on which these are from 1 on.
func shelfOf(t *testing.T, data ...string) *shelf.Shelf {
	t.Helper()
	s := shelf.New(100)
	for i, page := range data {
		n, e := s.New()
		if n != i+1 || e != api.OK {
			t.Fatalf("New: %d, %d", n, e)
		}
		puts(t, s, n, page)
	}
	return s
}

// state: all that can be told of a shelf on which nothing is armed.
type state struct {
	head  api.Head
	pages []string
}

func stateOf(t *testing.T, s *shelf.Shelf) state {
	t.Helper()
	now := state{head: s.Head()}
	for n := 1; n < now.head.Pages; n++ {
		data, e := s.Get(n)
		if e != api.OK || len(data) != 232 {
			t.Fatalf("Get(%d): %x, %d", n, data, e)
		}
		now.pages = append(now.pages, data)
	}
	return now
}

// holds asks that a shelf is in a state.
func holds(t *testing.T, s *shelf.Shelf, want state) {
	t.Helper()
	now := stateOf(t, s)
	if now.head != want.head || !slices.Equal(now.pages, want.pages) {
		t.Fatalf("the shelf holds %+v, %x, not %+v, %x", now.head, now.pages, want.head, want.pages)
	}
}

// headOf: a shelf's head.
func headOf(pages, trunk, free, root int) api.Head {
	return api.Head{Mode: 1, Pages: pages, Trunk: trunk, Spare: free, Root: root}
}

func gets(t *testing.T, s *shelf.Shelf, n int, want string, err api.Errno) {
	t.Helper()
	if data, e := s.Get(n); data != want || e != err {
		t.Fatalf("Get(%d): %x, %d, not %x, %d", n, data, e, want, err)
	}
}

func puts(t *testing.T, s *shelf.Shelf, n int, data string) {
	t.Helper()
	if e := s.Put(n, data); e != api.OK {
		t.Fatalf("Put(%d): %d", n, e)
	}
}

// makes asks what New answers.
func makes(t *testing.T, s *shelf.Shelf, want int, err api.Errno) {
	t.Helper()
	if n, e := s.New(); n != want || e != err {
		t.Fatalf("New: %d, %d, not %d, %d", n, e, want, err)
	}
}

func frees(t *testing.T, s *shelf.Shelf, list ...int) {
	t.Helper()
	for _, n := range list {
		if e := s.Free(n); e != api.OK {
			t.Fatalf("Free(%d): %d", n, e)
		}
	}
}

func TestExample(t *testing.T) {
	s := shelf.New(3)
	makes(t, s, 1, api.OK)
	makes(t, s, 2, api.OK)
	makes(t, s, 0, api.ErrRoom)
	puts(t, s, 1, full("a"))
	frees(t, s, 1)
	makes(t, s, 1, api.OK)
	gets(t, s, 1, noughts, api.OK)
	gets(t, s, 0, "", api.ErrPage)
	gets(t, s, 3, "", api.ErrPage)
}

// P10.1

func TestLimits(t *testing.T) {
	for _, c := range []struct{ limit, room int }{
		{math.MinInt, 1}, {-1 << 32, 1}, {-5, 1}, {-1, 1}, {0, 1}, {1, 1}, {2, 2}, {3, 3}, {52, 52}, {4095, 4095},
		{4096, 4096}, {4097, 4096}, {1 << 32, 4096}, {1<<32 + 5, 4096}, {math.MaxInt, 4096},
	} {
		s := shelf.New(c.limit)
		if h := s.Head(); h != headOf(1, 0, 0, 0) {
			t.Fatalf("New(%d): %+v", c.limit, h)
		}
		for n := 1; n < c.room; n++ {
			makes(t, s, n, api.OK)
		}
		for range 3 {
			makes(t, s, 0, api.ErrRoom)
		}
		if h := s.Head(); h != headOf(c.room, 0, 0, 0) {
			t.Fatalf("New(%d), all pages made: %+v", c.limit, h)
		}
	}
}

func TestShelvesAreApart(t *testing.T) {
	a, b := shelfOf(t, full("a")), shelfOf(t, full("b"), full("c"))
	a.Root(1)
	frees(t, b, 1)
	a.Arm(3)
	holds(t, b, state{headOf(3, 1, 1, 0), []string{trunk(0), full("c")}})
	holds(t, a, state{headOf(2, 0, 0, 1), []string{full("a")}})
}

// P10.2

func TestGetAndPut(t *testing.T) {
	s := shelfOf(t, noughts, noughts, noughts)
	spread := ""
	for b := range 232 {
		spread += string([]byte{byte(b + 24)})
	}
	for _, page := range []string{full("p"), noughts, full("\xff"), spread, trunk(0), full("p")} {
		for n := 1; n <= 3; n++ {
			before := stateOf(t, s)
			puts(t, s, n, page)
			before.pages[n-1] = page
			holds(t, s, before)
		}
	}
}

func TestNumbersOfNoPages(t *testing.T) {
	for pages := 1; pages < 5; pages++ {
		s := shelfOf(t, slices.Repeat([]string{full("a")}, pages-1)...)
		before := stateOf(t, s)
		for _, n := range beyond(pages) {
			gets(t, s, n, "", api.ErrPage)
			// Where the bytes are wrong too, the page is told.
			for _, data := range []string{full("b"), "", "x"} {
				if e := s.Put(n, data); e != api.ErrPage {
					t.Fatalf("Put(%d) of %d bytes: %d", n, len(data), e)
				}
			}
			if e := s.Free(n); e != api.ErrPage {
				t.Fatalf("Free(%d): %d", n, e)
			}
		}
		holds(t, s, before)
	}
}

func TestPutOfOtherLengths(t *testing.T) {
	s := shelfOf(t, full("a"), full("b"))
	before := stateOf(t, s)
	for _, size := range []int{0, 1, 116, 231, 233, 255, 256, 464, 232 + 1<<16} {
		for n := 1; n <= 2; n++ {
			if e := s.Put(n, strings.Repeat("x", size)); e != api.ErrArg {
				t.Fatalf("Put(%d) of %d bytes: %d", n, size, e)
			}
		}
	}
	holds(t, s, before)
}

// What stands on free pages can be read and written: trunks as chapter 9 has them, on the others what stood there.
func TestFreePages(t *testing.T) {
	s := shelfOf(t, full("a"), full("b"), full("c"), full("d"))
	frees(t, s, 2, 4, 1)
	holds(t, s, state{headOf(5, 2, 3, 0), []string{full("a"), trunk(0, 4, 1), full("c"), full("d")}})
	puts(t, s, 4, full("x"))
	gets(t, s, 4, full("x"), api.OK)
	puts(t, s, 2, trunk(0, 1, 4))
	makes(t, s, 4, api.OK)
	gets(t, s, 4, noughts, api.OK)
	gets(t, s, 2, trunk(0, 1), api.OK)
}

// P10.3

func TestNewIsNoughts(t *testing.T) {
	s := shelfOf(t, full("a"), full("b"), full("c"))
	makes(t, s, 4, api.OK)
	gets(t, s, 4, noughts, api.OK)
	puts(t, s, 4, full("d"))
	frees(t, s, 3, 1, 4)
	// The pages of the list, then the trunk's own.
	for _, n := range []int{4, 1, 3} {
		makes(t, s, n, api.OK)
		gets(t, s, n, noughts, api.OK)
	}
	holds(t, s, state{headOf(5, 0, 0, 0), []string{noughts, full("b"), noughts, noughts}})
	makes(t, s, 5, api.OK)
	gets(t, s, 5, noughts, api.OK)
}

func TestNewAtTheLimit(t *testing.T) {
	for _, limit := range []int{2, 3, 60, 200, 4096} {
		s := shelf.New(limit)
		for n := 1; n < limit; n++ {
			makes(t, s, n, api.OK)
			puts(t, s, n, full("z"))
		}
		before := stateOf(t, s)
		makes(t, s, 0, api.ErrRoom)
		holds(t, s, before)
		// Pages that are free are there at the limit too.
		for n := limit - 1; n > 0; n-- {
			frees(t, s, n)
		}
		if h := s.Head(); h.Pages != limit || h.Spare != limit-1 {
			t.Fatalf("all of %d free: %+v", limit, h)
		}
		for n := 1; n < limit; n++ {
			makes(t, s, n, api.OK)
		}
		makes(t, s, 0, api.ErrRoom)
		holds(t, s, state{headOf(limit, 0, 0, 0), slices.Repeat([]string{noughts}, limit-1)})
	}
}

// The 51st page given is a trunk ahead of the first one, and the 102nd ahead of that.
func TestTrunksBehindTrunks(t *testing.T) {
	s := shelf.New(4096)
	for n := 1; n <= 110; n++ {
		makes(t, s, n, api.OK)
	}
	var list []uint32
	for n := 1; n <= 110; n++ {
		frees(t, s, n)
		if n%51 == 1 {
			list = nil
		} else {
			list = append(list, uint32(n))
		}
		first := n - (n-1)%51
		if h := s.Head(); h != headOf(111, first, n, 0) {
			t.Fatalf("%d pages given: %+v", n, h)
		}
		gets(t, s, first, trunk(uint32(max(first-51, 0)), list...), api.OK)
	}
	for n := 110; n > 0; n-- {
		makes(t, s, n, api.OK)
		gets(t, s, n, noughts, api.OK)
	}
	makes(t, s, 111, api.OK)
}

func TestFreeWhenAllAreFree(t *testing.T) {
	s := shelfOf(t, full("a"), full("b"))
	frees(t, s, 2, 1)
	before := stateOf(t, s)
	for n := 1; n <= 2; n++ {
		if e := s.Free(n); e != api.ErrBad {
			t.Fatalf("Free(%d): %d", n, e)
		}
	}
	for _, n := range beyond(3) {
		if e := s.Free(n); e != api.ErrPage {
			t.Fatalf("Free(%d): %d", n, e)
		}
	}
	holds(t, s, before)
}

// Where something else than a right trunk was put on the trunk's page, calls that need it say so, and change nothing.
func TestBadTrunks(t *testing.T) {
	for _, c := range []struct {
		page      string
		new, free api.Errno
	}{
		{full("x"), api.ErrBad, api.ErrBad},
		{noughts, api.ErrBad, api.ErrBad},
		{trunk(0, 3)[:231] + "\x01", api.ErrBad, api.ErrBad},
		{trunk(4096), api.ErrBad, api.ErrBad},
		// Chapter 9's Give doesn't look where a trunk leads to.
		{trunk(6, 3), api.ErrBad, api.OK},
		{trunk(0, 3, 6), api.ErrBad, api.OK},
		{trunk(0, 4095), api.ErrBad, api.OK},
		{trunk(0), api.ErrBad, api.OK},
		{trunk(0, 6, 3), api.OK, api.OK},
		{trunk(5, 3), api.OK, api.OK},
	} {
		for _, limit := range []int{6, 100} {
			s := shelf.New(limit)
			for n := 1; n < 6; n++ {
				makes(t, s, n, api.OK)
				puts(t, s, n, full("a"))
			}
			frees(t, s, 2, 3)
			puts(t, s, 2, c.page)
			before := stateOf(t, s)
			if n, e := s.New(); e != c.new || (e == api.OK) != (n == 3) || e != api.OK && n != 0 {
				t.Fatalf("New, a trunk %x: %d, %d, not %d", c.page, n, e, c.new)
			}
			if c.new != api.OK {
				holds(t, s, before)
			}
			puts(t, s, 2, c.page)
			before = stateOf(t, s)
			if e := s.Free(5); e != c.free {
				t.Fatalf("Free, a trunk %x: %d, not %d", c.page, e, c.free)
			}
			if c.free != api.OK {
				holds(t, s, before)
			}
		}
	}
}

// A page that lists itself is taken from itself, and is noughts then.
func TestATrunkThatListsItself(t *testing.T) {
	s := shelfOf(t, full("a"), full("b"), full("c"))
	frees(t, s, 2, 2)
	holds(t, s, state{headOf(4, 2, 2, 0), []string{full("a"), trunk(0, 2), full("c")}})
	makes(t, s, 2, api.OK)
	want := state{headOf(4, 2, 1, 0), []string{full("a"), noughts, full("c")}}
	holds(t, s, want)
	makes(t, s, 0, api.ErrBad)
	if e := s.Free(1); e != api.ErrBad {
		t.Fatal(e)
	}
	holds(t, s, want)
}

// P10.4

func TestRoot(t *testing.T) {
	for pages := 1; pages < 5; pages++ {
		s := shelfOf(t, slices.Repeat([]string{full("a")}, pages-1)...)
		before := stateOf(t, s)
		for root := range pages {
			if e := s.Root(root); e != api.OK {
				t.Fatalf("Root(%d): %d", root, e)
			}
			before.head.Root = root
			holds(t, s, before)
			for _, n := range beyond(pages) {
				// That there is no catalog is said by 0.
				if n == 0 {
					continue
				}
				if e := s.Root(n); e != api.ErrPage {
					t.Fatalf("Root(%d): %d", n, e)
				}
			}
			holds(t, s, before)
		}
	}
}

func TestTheRootStays(t *testing.T) {
	s := shelfOf(t, full("a"), full("b"), full("c"))
	if e := s.Root(2); e != api.OK {
		t.Fatal(e)
	}
	makes(t, s, 4, api.OK)
	frees(t, s, 2, 1, 4)
	makes(t, s, 4, api.OK)
	puts(t, s, 2, trunk(0, 1))
	if h := s.Head(); h != headOf(5, 2, 2, 2) {
		t.Fatalf("%+v", h)
	}
}

func TestHeadIsACopy(t *testing.T) {
	s := shelfOf(t, full("a"))
	h := s.Head()
	h.Pages, h.Root = 50, 9
	if got := s.Head(); got != headOf(2, 0, 0, 0) {
		t.Fatalf("%+v", got)
	}
}

// P10.6

func TestAnswersAreNewMemory(t *testing.T) {
	s := shelfOf(t, noughts, noughts)
	page := full("p")
	puts(t, s, 1, page)
	seen := map[*byte]int{unsafe.StringData(page): 1}
	// The answers are held, so that no memory is used twice.
	var held []string
	for _, n := range []int{1, 2, 1, 2} {
		data, _ := s.Get(n)
		held = append(held, data)
		seen[unsafe.StringData(data)]++
	}
	if len(seen) != 5 || held[0] != page || held[1] != noughts {
		t.Errorf("%d memories of 5 pages", len(seen))
	}
}

func TestNoShelf(t *testing.T) {
	var s *shelf.Shelf
	for _, at := range []int{0, 1, -1, math.MaxInt} {
		s.Arm(at)
		for _, n := range []int{math.MinInt, -1, 0, 1, 7, math.MaxInt} {
			gets(t, s, n, "", api.ErrNil)
			for _, data := range []string{"", full("a")} {
				if e := s.Put(n, data); e != api.ErrNil {
					t.Errorf("Put(%d): %d", n, e)
				}
			}
			if e := s.Free(n); e != api.ErrNil {
				t.Errorf("Free(%d): %d", n, e)
			}
			if e := s.Root(n); e != api.ErrNil {
				t.Errorf("Root(%d): %d", n, e)
			}
		}
		makes(t, s, 0, api.ErrNil)
		if h := s.Head(); h != (api.Head{}) {
			t.Errorf("Head: %+v", h)
		}
	}
}
