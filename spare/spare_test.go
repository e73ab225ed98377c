package spare_test

import (
	"maps"
	"math"
	"slices"
	"strconv"
	"strings"
	"testing"

	"cahier/api"
	"cahier/spare"
)

// desk is a store in memory that tells how it was called, and whose calls can be made to fail.
type desk struct {
	pages  map[int]string
	calls  []string
	getErr api.Errno
	putErr api.Errno
}

// deskOf: a desk on which these trunks stand.
func deskOf(trunks map[int]api.Trunk) *desk {
	d := &desk{pages: map[int]string{}}
	for n, t := range trunks {
		d.pages[n] = pageOf(t)
	}
	return d
}

func (d *desk) Get(n int) (string, api.Errno) {
	d.calls = append(d.calls, "get "+strconv.Itoa(n))
	s, ok := d.pages[n]
	switch {
	case d.getErr != api.OK:
		// What stands beside an error plays no part.
		return pageOf(api.Trunk{}), d.getErr
	case !ok:
		return "", api.ErrNone
	}
	return s, api.OK
}

func (d *desk) Put(n int, data string) api.Errno {
	d.calls = append(d.calls, "put "+strconv.Itoa(n))
	if d.putErr != api.OK {
		return d.putErr
	}
	d.pages[n] = data
	return api.OK
}

// copied: a desk with the same pages, and no calls.
func (d *desk) copied() *desk { return &desk{pages: maps.Clone(d.pages)} }

// answer: what Take or Give answers, how the store was asked, and what it then holds.
type answer struct {
	page  int
	head  api.Head
	err   api.Errno
	calls []string
	pages map[int]string
}

func took(h api.Head, d *desk) answer {
	n, g, e := spare.Take(h, d)
	return answer{n, g, e, d.calls, d.pages}
}

func gave(h api.Head, d *desk, n int) answer {
	g, e := spare.Give(h, d, n)
	return answer{0, g, e, d.calls, d.pages}
}

// asks holds an answer to what is wanted.
func asks(t *testing.T, what string, got, want answer) {
	t.Helper()
	if got.page != want.page || got.head != want.head || got.err != want.err {
		t.Fatalf("%s: %d, %+v, %d, not %d, %+v, %d", what, got.page, got.head, got.err, want.page, want.head, want.err)
	}
	if !slices.Equal(got.calls, want.calls) {
		t.Fatalf("%s: the store was asked %q, not %q", what, got.calls, want.calls)
	}
	if !maps.Equal(got.pages, want.pages) {
		t.Fatalf("%s: the store holds %x, not %x", what, got.pages, want.pages)
	}
}

// with: the pages of a desk, a trunk written at one of them.
func with(d *desk, n int, t api.Trunk) map[int]string {
	pages := maps.Clone(d.pages)
	pages[n] = pageOf(t)
	return pages
}

// headOf: a head whose other fields tell whether they were kept.
func headOf(pages, trunk, free int) api.Head {
	return api.Head{Mode: 2, Pages: pages, Trunk: trunk, Spare: free, Root: 1, Change: 1<<63 + 5}
}

// P9.2

func TestTakeWithoutFreePages(t *testing.T) {
	for pages := 2; pages < 4096; pages++ {
		d := deskOf(nil)
		asks(t, "Take", took(headOf(pages, 0, 0), d), answer{page: pages, head: headOf(pages+1, 0, 0)})
	}
	for _, mode := range []int{1, 2} {
		h := api.Head{Mode: mode, Pages: 1}
		want := api.Head{Mode: mode, Pages: 2}
		if n, g, e := spare.Take(h, nil); n != 1 || g != want || e != api.OK {
			t.Errorf("the first page, no store: %d, %+v, %d", n, g, e)
		}
	}
	full := deskOf(map[int]api.Trunk{0: {}, 5: {List: []int{6}}})
	asks(t, "Take of all pages", took(headOf(4096, 0, 0), full), answer{err: api.ErrRoom, pages: full.pages})
	if n, g, e := spare.Take(headOf(4096, 0, 0), nil); n != 0 || g != (api.Head{}) || e != api.ErrRoom {
		t.Errorf("Take of all pages, no store: %d, %+v, %d", n, g, e)
	}
}

func TestTakeOfTheList(t *testing.T) {
	for _, count := range []int{1, 2, 3, 49, 50} {
		for _, next := range []int{0, 1, 7, 99} {
			trunk := api.Trunk{Next: next, List: run(20, count)}
			d := deskOf(map[int]api.Trunk{7: trunk, 99: {}, 1: {List: []int{3}}})
			rest := api.Trunk{Next: next, List: run(20, count-1)}
			want := answer{19 + count, headOf(100, 7, 59), api.OK, []string{"get 7", "put 7"}, with(d, 7, rest)}
			asks(t, "Take", took(headOf(100, 7, 60), d), want)
		}
	}
	// No page is asked for but the last one, not even whether another one is below Pages.
	d := deskOf(map[int]api.Trunk{7: {Next: 99, List: []int{4095, 7, 99}}})
	rest := api.Trunk{Next: 99, List: []int{4095, 7}}
	asks(t, "the last page", took(headOf(100, 7, 5), d), answer{99, headOf(100, 7, 4), api.OK, []string{"get 7", "put 7"}, with(d, 7, rest)})
	// Pages that were all taken are free still when there is room for no more.
	d = deskOf(map[int]api.Trunk{4095: {List: []int{4094}}})
	asks(t, "of 4096", took(headOf(4096, 4095, 2), d), answer{4094, headOf(4096, 4095, 1), api.OK, []string{"get 4095", "put 4095"}, with(d, 4095, api.Trunk{})})
}

func TestTakeOfATrunk(t *testing.T) {
	for _, c := range []struct{ next, free, left int }{{0, 1, 0}, {3, 2, 1}, {99, 60, 59}, {7, 3, 2}} {
		d := deskOf(map[int]api.Trunk{7: {Next: c.next}, 3: {List: []int{8}}})
		want := answer{7, headOf(100, c.next, c.left), api.OK, []string{"get 7"}, maps.Clone(d.pages)}
		asks(t, "Take", took(headOf(100, 7, c.free), d), want)
	}
}

func TestTakeRefusesATrunkThatDoesNotMatchSpare(t *testing.T) {
	for _, c := range []struct{ next, free int }{{0, 2}, {0, 3}, {0, 99}, {1, 1}, {7, 1}, {99, 1}} {
		d := deskOf(map[int]api.Trunk{7: {Next: c.next}})
		asks(t, "Take", took(headOf(100, 7, c.free), d), answer{err: api.ErrBad, calls: []string{"get 7"}, pages: maps.Clone(d.pages)})
	}
}

func TestTakeRefusesPagesThatAreNot(t *testing.T) {
	for _, trunk := range []api.Trunk{
		{Next: 100}, {Next: 101}, {Next: 4095}, {Next: 100, List: []int{3}},
		{List: []int{100}}, {Next: 5, List: []int{4095}}, {List: []int{3, 4, 100}}, {List: append(run(1, 49), 101)}, {Next: 100, List: []int{100}},
	} {
		d := deskOf(map[int]api.Trunk{7: trunk})
		d.putErr = api.ErrIO
		asks(t, "Take", took(headOf(100, 7, 60), d), answer{err: api.ErrBad, calls: []string{"get 7"}, pages: maps.Clone(d.pages)})
	}
}

// noTrunks: bytes that are no trunk's page.
func noTrunks() []string {
	s := pageOf(api.Trunk{Next: 2, List: []int{3}})
	return []string{"", s[:231], s + "\x00", strings.Repeat("\x00", 232), strings.Repeat("x", 232), "\x03" + s[1:], s[:231] + "\x01", page(4, 51, 0), page(4, 0, 4096), page(4, 1, 0, 0)}
}

func TestNoTrunksPage(t *testing.T) {
	for _, s := range noTrunks() {
		d := deskOf(nil)
		d.pages[7] = s
		want := answer{err: api.ErrBad, calls: []string{"get 7"}, pages: maps.Clone(d.pages)}
		asks(t, "Take", took(headOf(100, 7, 5), d.copied()), want)
		asks(t, "Give", gave(headOf(100, 7, 5), d.copied(), 9), want)
	}
}

func TestTheStoresErrors(t *testing.T) {
	for _, e := range []api.Errno{api.ErrArg, api.ErrNil, api.ErrForm, api.ErrIO, api.ErrPage, api.ErrMaybe, -1, 1000} {
		for _, trunk := range []api.Trunk{{Next: 8}, {List: []int{9}}, {Next: 4095}, {List: run(10, 50)}} {
			d := deskOf(map[int]api.Trunk{7: trunk})
			d.getErr = e
			want := answer{err: e, calls: []string{"get 7"}, pages: maps.Clone(d.pages)}
			asks(t, "Take, Get fails", took(headOf(100, 7, 60), d), want)
			d.calls = nil
			asks(t, "Give, Get fails", gave(headOf(100, 7, 60), d, 9), want)
		}
		d := deskOf(map[int]api.Trunk{7: {Next: 8, List: []int{9}}})
		d.putErr = e
		want := answer{err: e, calls: []string{"get 7", "put 7"}, pages: maps.Clone(d.pages)}
		asks(t, "Take, Put fails", took(headOf(100, 7, 60), d), want)
		d.calls = nil
		asks(t, "Give, Put fails", gave(headOf(100, 7, 60), d, 10), want)

		d = deskOf(map[int]api.Trunk{7: {List: run(10, 50)}})
		d.putErr = e
		asks(t, "Give, full, Put fails", gave(headOf(100, 7, 60), d, 9), answer{err: e, calls: []string{"get 7", "put 9"}, pages: maps.Clone(d.pages)})
		d.calls = nil
		asks(t, "Give, none, Put fails", gave(headOf(100, 0, 0), d, 9), answer{err: e, calls: []string{"put 9"}, pages: maps.Clone(d.pages)})
	}
	d := deskOf(nil)
	want := answer{err: api.ErrNone, calls: []string{"get 66"}}
	asks(t, "Take, no page there", took(headOf(100, 66, 1), d.copied()), want)
	asks(t, "Give, no page there", gave(headOf(100, 66, 1), d.copied(), 9), want)
}

func TestNoStore(t *testing.T) {
	if n, h, e := spare.Take(headOf(100, 7, 1), nil); n != 0 || h != (api.Head{}) || e != api.ErrNil {
		t.Errorf("Take: %d, %+v, %d", n, h, e)
	}
	for _, h := range []api.Head{headOf(100, 0, 0), headOf(100, 7, 1)} {
		if g, e := spare.Give(h, nil, 9); g != (api.Head{}) || e != api.ErrNil {
			t.Errorf("Give: %+v, %d", g, e)
		}
	}
}

// P9.3

func TestGiveRefusesOtherPages(t *testing.T) {
	for _, n := range []int{math.MinInt, -1 << 32, -7, -1, 0, 100, 101, 4095, 4096, 1<<32 + 9, math.MaxInt} {
		for _, h := range []api.Head{headOf(100, 0, 0), headOf(100, 7, 5), headOf(100, 7, 99)} {
			d := deskOf(map[int]api.Trunk{7: {}})
			asks(t, "Give "+strconv.Itoa(n), gave(h, d, n), answer{err: api.ErrArg, pages: maps.Clone(d.pages)})
		}
	}
	for n := -1; n <= 2; n++ {
		d := deskOf(nil)
		asks(t, "Give without pages", gave(api.Head{Mode: 1, Pages: 1}, d, n), answer{err: api.ErrArg})
	}
}

func TestGiveWhenAllAreFree(t *testing.T) {
	for _, pages := range []int{2, 3, 100, 4096} {
		d := deskOf(map[int]api.Trunk{1: {}})
		d.getErr = api.ErrIO
		h := headOf(pages, 1, pages-1)
		for _, n := range []int{1, pages - 1} {
			asks(t, "Give", gave(h, d, n), answer{err: api.ErrBad, pages: d.pages})
		}
		if pages == 2 {
			continue
		}
		d.getErr, h.Spare = api.OK, pages-2
		want := answer{head: headOf(pages, 1, pages-1), calls: []string{"get 1", "put 1"}, pages: with(d, 1, api.Trunk{List: []int{2}})}
		asks(t, "Give of the last one", gave(h, d, 2), want)
	}
}

func TestGiveWithoutATrunk(t *testing.T) {
	for _, n := range []int{1, 2, 50, 99} {
		d := deskOf(map[int]api.Trunk{0: {}, 7: {List: []int{5}}})
		d.pages[n] = "what was there"
		asks(t, "Give", gave(headOf(100, 0, 0), d, n), answer{head: headOf(100, n, 1), calls: []string{"put " + strconv.Itoa(n)}, pages: with(d, n, api.Trunk{})})
	}
	d := deskOf(nil)
	asks(t, "Give of the last page that can be", gave(headOf(4096, 0, 0), d, 4095), answer{head: headOf(4096, 4095, 1), calls: []string{"put 4095"}, pages: with(d, 4095, api.Trunk{})})
}

func TestGiveToTheList(t *testing.T) {
	for _, count := range []int{0, 1, 2, 48, 49} {
		for i := range 3 * 98 {
			next, free := [...]int{0, 3, 4095}[i%3], 1+i/3
			d := deskOf(map[int]api.Trunk{7: {Next: next, List: run(20, count)}, 99: {}})
			more := api.Trunk{Next: next, List: append(run(20, count), 99)}
			want := answer{head: headOf(100, 7, free+1), calls: []string{"get 7", "put 7"}, pages: with(d, 7, more)}
			asks(t, "Give", gave(headOf(100, 7, free), d, 99), want)
		}
	}
}

func TestGiveToAFullTrunk(t *testing.T) {
	for _, next := range []int{0, 3, 99, 4095} {
		d := deskOf(map[int]api.Trunk{7: {Next: next, List: run(20, 50)}})
		d.pages[99] = "what was there"
		want := answer{head: headOf(100, 99, 61), calls: []string{"get 7", "put 99"}, pages: with(d, 99, api.Trunk{Next: 7})}
		asks(t, "Give", gave(headOf(100, 7, 60), d, 99), want)
	}
}

// At all arguments both end, and beside an error is nothing.
func TestAnyHeads(t *testing.T) {
	ends := []int{math.MinInt, math.MinInt + 1, -1, 0, 1, 2, 7, 4095, 4096, 4097, math.MaxInt - 1, math.MaxInt}
	full := pageOf(api.Trunk{List: run(1, 50)})
	for i := range len(ends) * len(ends) * len(ends) {
		h := headOf(ends[i%12], ends[i/12%12], ends[i/144])
		for _, s := range []string{full, pageOf(api.Trunk{Next: 4095}), "x"} {
			d := deskOf(nil)
			for _, n := range ends {
				d.pages[n] = s
			}
			if n, g, e := spare.Take(h, d.copied()); e != api.OK && (n != 0 || g != (api.Head{})) {
				t.Fatalf("Take(%+v): %d, %+v, %d", h, n, g, e)
			}
			for _, n := range ends {
				if g, e := spare.Give(h, d.copied(), n); e != api.OK && g != (api.Head{}) {
					t.Fatalf("Give(%+v, %d): %+v, %d", h, n, g, e)
				}
			}
		}
	}
}

// P9.4

// wantTake: what Take answers of a fit head, and what the store then holds, as the chapter words it.
func wantTake(h api.Head, pages map[int]string) (int, api.Head, api.Errno) {
	if h.Spare == 0 {
		if h.Pages == 4096 {
			return 0, api.Head{}, api.ErrRoom
		}
		h.Pages++
		return h.Pages - 1, h, api.OK
	}
	s, ok := pages[h.Trunk]
	if !ok {
		return 0, api.Head{}, api.ErrNone
	}
	t, ok := wantTrunk(s)
	if !ok || t.Next > h.Pages-1 || len(t.List) > 0 && t.List[len(t.List)-1] > h.Pages-1 {
		return 0, api.Head{}, api.ErrBad
	}
	n := h.Trunk
	h.Spare--
	if len(t.List) > 0 {
		n = t.List[len(t.List)-1]
		pages[h.Trunk] = pageOf(api.Trunk{Next: t.Next, List: t.List[:len(t.List)-1]})
		return n, h, api.OK
	}
	h.Trunk = t.Next
	if h.Spare == 0 && h.Trunk != 0 || h.Spare != 0 && h.Trunk == 0 {
		return 0, api.Head{}, api.ErrBad
	}
	return n, h, api.OK
}

// wantGive: the same of Give.
func wantGive(h api.Head, pages map[int]string, n int) (api.Head, api.Errno) {
	if n < 1 || n > h.Pages-1 {
		return api.Head{}, api.ErrArg
	}
	if h.Spare == h.Pages-1 {
		return api.Head{}, api.ErrBad
	}
	h.Spare++
	if h.Trunk != 0 {
		s, ok := pages[h.Trunk]
		if !ok {
			return api.Head{}, api.ErrNone
		}
		t, ok := wantTrunk(s)
		if !ok {
			return api.Head{}, api.ErrBad
		}
		if len(t.List) < 50 {
			t.List = append(t.List, n)
			pages[h.Trunk] = pageOf(t)
			return h, api.OK
		}
	}
	pages[n] = pageOf(api.Trunk{Next: h.Trunk})
	h.Trunk = n
	return h, api.OK
}

// Of small numbers all fit heads are asked, over any trunks.
func TestFitHeadsOverAnyTrunks(t *testing.T) {
	r := source()
	seen := map[api.Errno]int{}
	for i := range 60000 {
		h := api.Head{Mode: 1 + i%2, Pages: 1 + r.IntN(6), Change: uint64(i)}
		h.Root = r.IntN(h.Pages)
		if h.Pages > 1 && r.IntN(8) > 0 {
			h.Trunk, h.Spare = 1+r.IntN(h.Pages-1), 1+r.IntN(h.Pages-1)
		}
		d := deskOf(nil)
		for n := range h.Pages {
			trunk := api.Trunk{Next: r.IntN(h.Pages + 1)}
			for range r.IntN(3) {
				trunk.List = append(trunk.List, 1+r.IntN(h.Pages))
			}
			if r.IntN(8) > 0 {
				d.pages[n] = pageOf(trunk)
			}
		}
		d.pages[-1] = "x"
		pages := maps.Clone(d.pages)
		n, g, e := wantTake(h, pages)
		seen[e]++
		got := took(h, d.copied())
		got.calls = nil
		asks(t, "Take", got, answer{page: n, head: g, err: e, pages: pages})

		pages = maps.Clone(d.pages)
		give := r.IntN(h.Pages+3) - 1
		g, e = wantGive(h, pages, give)
		seen[e]++
		got = gave(h, d.copied(), give)
		got.calls = nil
		asks(t, "Give", got, answer{head: g, err: e, pages: pages})
	}
	for _, e := range []api.Errno{api.OK, api.ErrArg, api.ErrBad, api.ErrNone} {
		if seen[e] < 2000 {
			t.Errorf("%d answers are %d", seen[e], e)
		}
	}
}

func TestExample(t *testing.T) {
	d := deskOf(nil)
	n, h, e := spare.Take(api.Head{Mode: 1, Pages: 5}, d)
	if n != 5 || h != (api.Head{Mode: 1, Pages: 6}) || e != api.OK {
		t.Fatal(n, h, e)
	}
	h = api.Head{Mode: 1, Pages: 5}
	for _, c := range []struct {
		give, take int
		want       api.Head
	}{
		{give: 3, want: api.Head{Mode: 1, Pages: 5, Trunk: 3, Spare: 1}},
		{give: 4, want: api.Head{Mode: 1, Pages: 5, Trunk: 3, Spare: 2}},
		{take: 4, want: api.Head{Mode: 1, Pages: 5, Trunk: 3, Spare: 1}},
		{take: 3, want: api.Head{Mode: 1, Pages: 5}},
	} {
		n := 0
		if c.give != 0 {
			h, e = spare.Give(h, d, c.give)
		} else {
			n, h, e = spare.Take(h, d)
		}
		if n != c.take || h != c.want || e != api.OK {
			t.Fatal(c, n, h, e)
		}
	}
}

// All pages that can be are made, given, and taken again: the last first, each once, and no further one.
func TestAllPages(t *testing.T) {
	d := deskOf(nil)
	h := api.Head{Mode: 1, Pages: 1}
	for n := 1; n < 4096; n++ {
		got, g, e := spare.Take(h, d)
		if got != n || g.Pages != n+1 || g.Spare != 0 || e != api.OK {
			t.Fatal(n, got, g, e)
		}
		h = g
	}
	if n, g, e := spare.Take(h, d); n != 0 || g != (api.Head{}) || e != api.ErrRoom {
		t.Fatal(n, g, e)
	}
	given := source().Perm(4096)
	given = slices.DeleteFunc(given, func(n int) bool { return n == 0 })
	for i, n := range given {
		g, e := spare.Give(h, d, n)
		// A trunk lists 50 pages, so that each one behind 51 is the next trunk.
		if g.Spare != i+1 || g.Trunk != given[i-i%51] || e != api.OK {
			t.Fatal(i, n, g, e)
		}
		h = g
	}
	if g, e := spare.Give(h, d, 1); g != (api.Head{}) || e != api.ErrBad {
		t.Fatal(g, e)
	}
	for i, want := range slices.Backward(given) {
		n, g, e := spare.Take(h, d)
		if n != want || g.Spare != i || g.Pages != 4096 || e != api.OK {
			t.Fatal(i, n, want, g, e)
		}
		h = g
	}
	if n, g, e := spare.Take(h, d); h.Trunk != 0 || n != 0 || g != (api.Head{}) || e != api.ErrRoom {
		t.Fatal(h, n, g, e)
	}
}

// Pages are taken and given as it comes: of those that were given the last first, each once.
func TestTakesAndGives(t *testing.T) {
	r := source()
	for range 20 {
		d := deskOf(nil)
		h := api.Head{Mode: 2, Pages: 1, Change: 8}
		var held, free []int
		for step := range 6000 {
			// The odds swing, so that there are many free pages at times, and none.
			if r.IntN(10) < 2+6*(step/500%2) && len(held) > 0 {
				at := r.IntN(len(held))
				g, e := spare.Give(h, d, held[at])
				if e != api.OK {
					t.Fatal(step, h, held[at], e)
				}
				free = append(free, held[at])
				held = slices.Delete(held, at, at+1)
				h = g
			} else {
				n, g, e := spare.Take(h, d)
				want := h.Pages
				if k := len(free); k > 0 {
					want = free[k-1]
					free = free[:k-1]
				}
				if n != want || e != api.OK {
					t.Fatal(step, h, n, want, e)
				}
				held = append(held, n)
				h = g
			}
			if h.Spare != len(free) || h.Pages != 1+len(free)+len(held) || (h.Trunk == 0) != (h.Spare == 0) || h.Mode != 2 || h.Root != 0 || h.Change != 8 {
				t.Fatal(step, h, len(free), len(held))
			}
		}
	}
}
