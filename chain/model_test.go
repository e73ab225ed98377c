package chain_test

import (
	"math/rand/v2"
	"slices"
	"strings"
	"testing"

	"cahier/api"
	"cahier/chain"
	"cahier/shelf"
)

// inUse: how many pages of a shelf are neither its head nor free.
func inUse(s *shelf.Shelf) int {
	h := s.Head()
	return h.Pages - 1 - h.Spare
}

// P11.4

func TestValueOfCellOfEachSize(t *testing.T) {
	r := source()
	s := shelf.New(4096)
	for size := range 5001 {
		value := someBytes(r, size)
		c, e := chain.Cell(s, value)
		if e != api.OK {
			t.Fatalf("Cell of %d bytes: %d", size, e)
		}
		if got, e := chain.Value(s, c); got != value || e != api.OK {
			t.Fatalf("Value of Cell of %d bytes: %d bytes, %d", size, len(got), e)
		}
		pages := 0
		if size > 40 {
			pages = pagesFor(size)
		}
		if inUse(s) != pages {
			t.Fatalf("%d bytes: %+v", size, s.Head())
		}
		if e := chain.Free(s, c); e != api.OK || inUse(s) != 0 {
			t.Fatalf("Free of %d bytes: %d, %+v", size, e, s.Head())
		}
	}
}

// kept is a value on a shelf.
type kept struct {
	cell  api.Cell
	value string
	pages []int
}

// stays asks that a value is on a shelf as it was laid, and tells whose its pages are.
func (k kept) stays(t *testing.T, s *shelf.Shelf, owners map[int]int, owner int) {
	t.Helper()
	got, e := chain.Value(s, k.cell)
	list, f := chain.List(s, k.cell)
	if got != k.value || e != api.OK || !slices.Equal(list, k.pages) || f != api.OK {
		t.Fatalf("a value of %d bytes on %d: %d bytes, %d, %d, %d", len(k.value), k.pages, len(got), e, list, f)
	}
	for _, n := range list {
		if owners[n] != 0 {
			t.Fatalf("the page %d is twice in use", n)
		}
		owners[n] = owner
	}
}

// keep lays a value of any size on a shelf, which has room for it or says that it hasn't.
func keep(t *testing.T, r *rand.Rand, s *shelf.Shelf, room int) (kept, bool) {
	t.Helper()
	size := r.IntN(5001)
	switch r.IntN(4) {
	case 0:
		size = r.IntN(300)
	case 1:
		size = edges()[r.IntN(len(edges()))]
	}
	if size > 40 && pagesFor(size) > room {
		return kept{}, false
	}
	k := kept{value: someBytes(r, size)}
	var e, f api.Errno
	k.cell, e = chain.Cell(s, k.value)
	k.pages, f = chain.List(s, k.cell)
	if e != api.OK || f != api.OK {
		t.Fatalf("Cell of %d bytes: %d, %d", size, e, f)
	}
	return k, true
}

// Many values on one shelf, laid and freed: each stays as it was, no page is lost, none is two values'.
func TestManyValues(t *testing.T) {
	r := source()
	for _, limit := range []int{8, 60, 400} {
		s := shelf.New(limit)
		mine, _ := s.New()
		mark := strings.Repeat("m", 232)
		s.Put(mine, mark)
		var all []kept
		laid, freed := 0, 0
		for range 600 {
			if i := r.IntN(2 * (len(all) + 1)); i < len(all) {
				if e := chain.Free(s, all[i].cell); e != api.OK {
					t.Fatalf("Free: %d", e)
				}
				all = slices.Delete(all, i, i+1)
				freed++
			} else if k, ok := keep(t, r, s, limit-1-inUse(s)); ok {
				all = append(all, k)
				laid++
			}
			owners := map[int]int{mine: -1}
			for i, k := range all {
				k.stays(t, s, owners, i+1)
			}
			if page, _ := s.Get(mine); page != mark || inUse(s) != len(owners) {
				t.Fatalf("%d pages are values', %+v", len(owners), s.Head())
			}
		}
		if laid < 100 || freed < 100 {
			t.Errorf("%d: %d laid, %d freed", limit, laid, freed)
		}
	}
}

// A chain's pages are free once it is: what was its cell stands for nothing any more.
func TestFreeTwice(t *testing.T) {
	for _, size := range []int{41, 228, 5000} {
		s := shelf.New(100)
		c, _ := chain.Cell(s, strings.Repeat("v", size))
		first, _ := chain.List(s, c)
		if e := chain.Free(s, c); e != api.OK || inUse(s) != 0 {
			t.Fatalf("Free of %d bytes: %d", size, e)
		}
		// The first page given is a trunk.
		before := s.Head()
		if e := chain.Free(s, c); e != api.ErrBad || s.Head() != before {
			t.Errorf("Free of %d bytes again: %d, %+v", size, e, s.Head())
		}
		c, _ = chain.Cell(s, strings.Repeat("w", size))
		again, e := chain.List(s, c)
		slices.Sort(first)
		slices.Sort(again)
		if !slices.Equal(first, again) || e != api.OK {
			t.Errorf("%d bytes: on %d, then on %d, %d", size, first, again, e)
		}
	}
}

// Random pages, some of them right: each call answers what the chapter says of them.
func TestSpoiltChains(t *testing.T) {
	r := source()
	fine, bad, none := 0, 0, 0
	for range 20000 {
		size := 41 + r.IntN(900)
		at := []int{1, 2, 3, 4, 5}
		r.Shuffle(len(at), func(i, j int) { at[i], at[j] = at[j], at[i] })
		data := laid(someBytes(r, size), at)
		for range r.IntN(3) {
			n := at[r.IntN(pagesFor(size))]
			page := []byte(data[n])
			k := []int{0, 4, 4, 5 + r.IntN(227), r.IntN(232), 231}[r.IntN(6)]
			page[k] = byte(r.IntN(7))
			data[n] = string(page)
		}
		c := api.Cell{Size: size, Page: 1 + r.IntN(5)}
		if r.IntN(4) > 0 {
			c.Page = at[0]
		}
		value, pages, e := wantRead(data, c)
		switch e {
		case api.OK:
			fine++
		case api.ErrBad:
			bad++
		default:
			none++
		}
		reads(t, data, c, value, pages, e)
	}
	if fine < 1000 || bad < 1000 || none < 500 {
		t.Errorf("%d are right, %d are bad, %d lead nowhere", fine, bad, none)
	}
}
