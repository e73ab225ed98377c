package cache

import "cahier/api"

// slot is a page at hand, in a ring that goes from the one used longest ago to the one used last.
type slot struct {
	api.Page
	dirty        bool
	older, newer *slot
}

// alone: a page's slot, a ring by itself.
func alone(n int) *slot {
	s := &slot{Page: api.Page{N: n}}
	s.older, s.newer = s, s
	return s
}

// leave: a slot isn't in its ring any more.
func (s *slot) leave() {
	s.older.newer, s.newer.older = s.newer, s.older
}

// use: a slot is the one used last in the ring that closes at a seam.
func (s *slot) use(seam *slot) {
	s.leave()
	s.older, s.newer = seam.older, seam
	s.older.newer = s
	seam.older = s
}
