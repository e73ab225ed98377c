package cache_test

import (
	"maps"
	"math/rand/v2"
	"slices"
	"strconv"
	"testing"

	"cahier/api"
	"cahier/cache"
)

// held is a page at hand in a model.
type held struct {
	page  api.Page
	dirty bool
}

// model is a cache by the chapter's words: its pages stand in the order in which they were used.
type model struct {
	size  int
	pages []held
}

// place: where a page stands; -1, if it isn't at hand.
func (m *model) place(n int) int {
	return slices.IndexFunc(m.pages, func(h held) bool { return h.page.N == n })
}

// take: a page isn't at hand any more; what it was.
func (m *model) take(n int) (held, bool) {
	i := m.place(n)
	if i < 0 {
		return held{}, false
	}
	h := m.pages[i]
	m.pages = slices.Delete(m.pages, i, i+1)
	return h, true
}

func (m *model) get(n int) (string, bool) {
	h, ok := m.take(n)
	if ok {
		m.pages = append(m.pages, h)
	}
	return h.page.Data, ok
}

func (m *model) put(n int, data string, isDirty bool) []api.Page {
	m.take(n)
	m.pages = append(m.pages, held{api.Page{N: n, Data: data}, isDirty})
	var gone []api.Page
	for len(m.pages) > m.size {
		if m.pages[0].dirty {
			gone = append(gone, m.pages[0].page)
		}
		m.pages = m.pages[1:]
	}
	return gone
}

func (m *model) clean(n int) {
	if i := m.place(n); i >= 0 {
		m.pages[i].dirty = false
	}
}

func (m *model) dirty() []api.Page {
	var pages []api.Page
	for _, h := range m.pages {
		if h.dirty {
			pages = append(pages, h.page)
		}
	}
	slices.SortFunc(pages, func(a, b api.Page) int {
		if a.N < b.N {
			return -1
		}
		return 1
	})
	return pages
}

// step does one thing to a cache and to its model; which one it was.
func step(t *testing.T, r *rand.Rand, c *cache.Cache, m *model, data string) string {
	t.Helper()
	n := r.IntN(m.size*3/2+3) - 1
	switch kind := r.IntN(300); {
	case kind == 0:
		c.Clear()
		m.pages = nil
		return "Clear"
	case kind < 20:
		c.Forget(n)
		m.take(n)
		return "Forget"
	case kind < 40:
		c.Clean(n)
		m.clean(n)
		return "Clean"
	case kind < 140:
		got, ok := c.Get(n)
		want, wantOk := m.get(n)
		if got != want || ok != wantOk {
			t.Fatalf("Get(%d): %q, %v, not %q, %v", n, got, ok, want, wantOk)
		}
		if !ok {
			return "Get of none"
		}
		return "Get"
	}
	isDirty := r.IntN(2) == 0
	got, want := c.Put(n, data, isDirty), m.put(n, data, isDirty)
	if !slices.Equal(got, want) {
		t.Fatalf("Put(%d, %q, %v): %v, not %v", n, data, isDirty, got, want)
	}
	if len(got) > 0 {
		return "Put that answers"
	}
	return "Put"
}

// Whatever is done in whatever order, a cache answers what its model does.
func TestRandomSteps(t *testing.T) {
	r := rand.New(rand.NewPCG(12, 1))
	seen := map[string]int{}
	for i := range 90 {
		size := [...]int{1, 2, 3, 8, 40, 256}[i%6]
		c, m := cache.New(size), &model{size: size}
		for k := range 1000 {
			seen[step(t, r, c, m, strconv.Itoa(k))]++
			if got, want := c.Dirty(), m.dirty(); !slices.Equal(got, want) {
				t.Fatalf("Dirty: %v, not %v", got, want)
			}
			if got, want := c.Len(), len(m.pages); got != want {
				t.Fatalf("Len: %d, not %d", got, want)
			}
		}
	}
	for _, what := range []string{"Clear", "Forget", "Clean", "Get", "Get of none", "Put", "Put that answers"} {
		if seen[what] < 100 {
			t.Errorf("%d times %s", seen[what], what)
		}
	}
}

// P12.4: no page that was put dirty is lost: what isn't at hand with its last bytes has been answered with them.
func TestNothingIsLost(t *testing.T) {
	r := rand.New(rand.NewPCG(12, 4))
	for i := range 40 {
		c := cache.New([...]int{1, 2, 7, 256}[i%4])
		// What stands on pages, behind all that was put dirty, and what has been written of it.
		owed, disk := map[int]string{}, map[int]string{}
		for k := range 2000 {
			n, data := r.IntN(400), strconv.Itoa(k)
			switch r.IntN(6) {
			case 0:
				if got, ok := c.Get(n); ok && got != owed[n] {
					t.Fatalf("Get(%d): %q, not %q", n, got, owed[n])
				}
			case 1:
				// As a pager reads a page: what the disk has is at hand, clean.
				if _, ok := c.Get(n); !ok {
					write(disk, c.Put(n, disk[n], false))
				}
			default:
				owed[n] = data
				write(disk, c.Put(n, data, true))
			}
			after := maps.Clone(disk)
			write(after, c.Dirty())
			if k%20 == 0 && !maps.Equal(after, owed) {
				t.Fatalf("step %d: a page is lost", k)
			}
		}
		for _, page := range c.Dirty() {
			disk[page.N] = page.Data
			c.Clean(page.N)
		}
		if !maps.Equal(disk, owed) || len(c.Dirty()) != 0 {
			t.Fatal("a page is lost at the end")
		}
	}
}

// write: pages are written over what there is.
func write(to map[int]string, pages []api.Page) {
	for _, page := range pages {
		to[page.N] = page.Data
	}
}
