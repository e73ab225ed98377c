package shelf_test

import (
	"math/rand/v2"
	"testing"

	"cahier/api"
	"cahier/shelf"
	"cahier/spare"
)

// model is a shelf by the chapter's words: its pages are a store by themselves, from 1 on.
type model struct {
	limit int
	head  api.Head
	data  []string
	count int // calls since something was armed
	at    int
}

// Get and Put are chapter 9's store: neither is counted.
func (m *model) Get(n int) (string, api.Errno) { return m.data[n-1], api.OK }

func (m *model) Put(n int, data string) api.Errno {
	m.data[n-1] = data
	return api.OK
}

// fails counts a call.
func (m *model) fails() bool {
	m.count++
	return m.at >= 1 && m.count >= m.at
}

func (m *model) is(n int) bool { return n >= 1 && n <= m.head.Pages-1 }

func (m *model) get(n int) (string, api.Errno) {
	switch {
	case m.fails():
		return "", api.ErrIO
	case !m.is(n):
		return "", api.ErrPage
	}
	return m.Get(n)
}

func (m *model) put(n int, data string) api.Errno {
	switch {
	case m.fails():
		return api.ErrIO
	case !m.is(n):
		return api.ErrPage
	case len(data) != 232:
		return api.ErrArg
	}
	return m.Put(n, data)
}

func (m *model) make() (int, api.Errno) {
	switch {
	case m.fails():
		return 0, api.ErrIO
	case m.head.Spare == 0 && m.head.Pages == m.limit:
		return 0, api.ErrRoom
	}
	n, h, e := spare.Take(m.head, m)
	if e != api.OK {
		return 0, e
	}
	if h.Pages > m.head.Pages {
		m.data = append(m.data, "")
	}
	m.head = h
	m.data[n-1] = noughts
	return n, api.OK
}

func (m *model) free(n int) api.Errno {
	switch {
	case m.fails():
		return api.ErrIO
	case !m.is(n):
		return api.ErrPage
	}
	h, e := spare.Give(m.head, m, n)
	if e == api.OK {
		m.head = h
	}
	return e
}

func (m *model) root(n int) api.Errno {
	if n < 0 || n > m.head.Pages-1 {
		return api.ErrPage
	}
	m.head.Root = n
	return api.OK
}

// matches asks that a shelf is as its model, and arms it as it was.
func (m *model) matches(t *testing.T, s *shelf.Shelf) {
	t.Helper()
	s.Arm(0)
	holds(t, s, state{m.head, m.data})
	if m.at >= 1 {
		m.at = max(m.at-m.count, 1)
	}
	m.count = 0
	s.Arm(m.at)
}

// page: one that may be put somewhere: a trunk, right or not, or other bytes, or too many.
func page(r *rand.Rand, pages int) string {
	switch r.IntN(10) {
	case 0:
		return full("t") + "\x00"
	case 1, 2, 3:
		list := make([]uint32, r.IntN(4))
		for i := range list {
			list[i] = 1 + r.Uint32N(uint32(pages))
		}
		return trunk(r.Uint32N(uint32(pages+1)), list...)
	}
	return full(string([]byte{byte(r.IntN(256))}))
}

// step does one thing to a shelf and to its model; which one it was, and what the shelf answered.
func step(t *testing.T, r *rand.Rand, s *shelf.Shelf, m *model, spoil bool) (string, api.Errno) {
	t.Helper()
	n := r.IntN(m.head.Pages+3) - 1
	if r.IntN(8) == 0 && m.head.Spare > 0 {
		n = m.head.Trunk
	}
	var got, want string
	var k, wantK int
	var e, wantE api.Errno
	what := "New"
	switch kind := r.IntN(20); {
	case kind < 5:
		what = "Get"
		got, e = s.Get(n)
		want, wantE = m.get(n)
	case kind < 8 && (spoil || r.IntN(4) == 0):
		what = "Put"
		data := page(r, m.head.Pages)
		e, wantE = s.Put(n, data), m.put(n, data)
	case kind < 12:
		what = "Free"
		e, wantE = s.Free(n), m.free(n)
	case kind == 12:
		what = "Root"
		e, wantE = s.Root(n), m.root(n)
	case kind == 13:
		what = "Arm"
		m.at, m.count = max(r.IntN(60)-40, -1), 0
		s.Arm(m.at)
	default:
		k, e = s.New()
		wantK, wantE = m.make()
	}
	if got != want || k != wantK || e != wantE {
		t.Fatalf("%s(%d): %d, %x, %d, not %d, %x, %d", what, n, k, got, e, wantK, want, wantE)
	}
	if h := s.Head(); h != m.head {
		t.Fatalf("%s(%d): Head: %+v, not %+v", what, n, h, m.head)
	}
	return what, e
}

// Whatever is done in whatever order, a shelf answers what its model does.
func TestRandomSteps(t *testing.T) {
	r := rand.New(rand.NewPCG(10, 1))
	type answer struct {
		what string
		err  api.Errno
	}
	seen := map[answer]int{}
	for i := range 600 {
		limit := [...]int{1, 2, 5, 60, 300, 4096}[i%6]
		s, m := shelf.New(limit), &model{limit: limit, head: headOf(1, 0, 0, 0)}
		for range 300 {
			what, e := step(t, r, s, m, i/6%2 == 0)
			seen[answer{what, e}]++
			if r.IntN(20) == 0 {
				m.matches(t, s)
			}
		}
		m.matches(t, s)
	}
	for _, a := range []answer{
		{"Get", api.OK}, {"Get", api.ErrIO}, {"Get", api.ErrPage},
		{"Put", api.OK}, {"Put", api.ErrIO}, {"Put", api.ErrPage}, {"Put", api.ErrArg},
		{"New", api.OK}, {"New", api.ErrIO}, {"New", api.ErrRoom}, {"New", api.ErrBad},
		{"Free", api.OK}, {"Free", api.ErrIO}, {"Free", api.ErrPage}, {"Free", api.ErrBad},
		{"Root", api.OK}, {"Root", api.ErrPage},
	} {
		if seen[a] < 300 {
			t.Errorf("%d times %v", seen[a], a)
		}
	}
}
