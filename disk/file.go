package disk

import (
	"slices"

	"cahier/api"
)

// sector is what a sector holds, a torn one bytes 0. None changes once it is
// made, so that what is now and what is safe can be the same one.
type sector struct {
	data [api.Sector]byte
	torn bool
}

// newSector holds the first bytes of data, and bytes 0 for those that it lacks.
func newSector(data string) *sector {
	s := &sector{}
	copy(s.data[:], data)
	return s
}

// place is where a sector stands in a file; its safe is nil where nothing of it is safe.
type place struct {
	now, safe *sector
	waits     bool
}

// holds gives a place a sector, now and safe.
func (p *place) holds(s *sector) {
	*p = place{now: s, safe: s}
}

// meet: what is safe of a sector that waits, behind its fate.
func (p *place) meet(fate int) {
	switch fate {
	case api.FateKept:
		p.safe = p.now
	case api.FateTorn:
		p.safe = &sector{torn: true}
	}
}

// file is sectors; one that is sure is there behind a loss of power, even if no sector is.
type file struct {
	places []place
	sure   bool
}

// loaded: a file of these bytes, safe.
func loaded(data string) *file {
	f := &file{sure: true}
	for i := 0; i < len(data); i += api.Sector {
		var p place
		p.holds(newSector(data[i:]))
		f.places = append(f.places, p)
	}
	return f
}

// write: i is at most the number of sectors.
func (f *file) write(i int, data string) {
	if i == len(f.places) {
		f.places = append(f.places, place{})
	}
	f.places[i].now = newSector(data)
	f.places[i].waits = true
}

func (f *file) sync() {
	for i := range f.places {
		f.places[i].holds(f.places[i].now)
	}
	f.sure = true
}

// cut: n is at most the number of sectors.
func (f *file) cut(n int) {
	f.places = slices.Delete(f.places, n, len(f.places))
	f.sure = true
}

func (f *file) bytes() string {
	out := make([]byte, 0, len(f.places)*api.Sector)
	for _, p := range f.places {
		out = append(out, p.now.data[:]...)
	}
	return string(out)
}

// wake: the power is on again; fate is asked for each sector that waits, in
// order. It tells whether the file is still there.
func (f *file) wake(fate func() int) bool {
	end := 0
	for i := range f.places {
		p := &f.places[i]
		if p.waits {
			p.meet(fate())
		}
		if p.safe != nil {
			end = i + 1
		}
	}
	if end == 0 && !f.sure {
		return false
	}
	f.cut(end)
	for i := range f.places {
		p := &f.places[i]
		if p.safe == nil {
			p.safe = &sector{}
		}
		p.holds(p.safe)
	}
	return true
}
