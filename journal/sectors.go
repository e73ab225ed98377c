package journal

import (
	"strings"

	"cahier/api"
	"cahier/num"
	"cahier/seal"
)

const wordBytes = 4 // of a number in a foot

// record: what a page was.
func record(n int, data string, salt uint64) api.Sealed {
	return api.Sealed{Kind: api.KindRecord, Number: n, Salt: salt, Data: data}
}

// foot: so many records stand between it and the one ahead, so many feet ahead of it.
func foot(records, pages, feet int, salt uint64) api.Sealed {
	numbers := num.Fixed(uint64(pages), wordBytes) + num.Fixed(uint64(feet), wordBytes)
	return api.Sealed{
		Kind:   api.KindFoot,
		Number: records,
		Salt:   salt,
		Data:   numbers + strings.Repeat("\x00", api.Payload-len(numbers)),
	}
}

// pagesOf: how many pages a foot tells; its Data has as many bytes as Unfixed takes, so that error can't be.
func pagesOf(s api.Sealed) int {
	pages, _ := num.Unfixed(s.Data[:wordBytes])
	return int(pages)
}

// found is what was read of a journal so far, sector by sector.
type found struct {
	isBegun bool
	salt    uint64 // of the first sector
	records []api.Page
	above   int // is above the numbers of all records
	feet    int
	pages   int // of the first foot
	counted int // records ahead of the last foot
}

// take: whether what counts goes on with the next sector; a torn one is handed in as nothing.
func (f *found) take(sector string) bool {
	s, e := seal.Open(sector)
	if e != api.OK {
		return false
	}
	if !f.isBegun {
		f.isBegun, f.salt = true, s.Salt
	}
	switch {
	case s.Salt != f.salt:
		return false
	case s.Kind == api.KindRecord:
		return f.takeRecord(s)
	case s.Kind == api.KindFoot:
		return f.takeFoot(s)
	}
	return false
}

func (f *found) takeRecord(s api.Sealed) bool {
	if s.Number >= api.MaxPages {
		return false
	}
	f.records = append(f.records, api.Page{N: s.Number, Data: s.Data})
	f.above = max(f.above, s.Number+1)
	return true
}

func (f *found) takeFoot(s api.Sealed) bool {
	pages := f.pages
	if f.feet == 0 {
		pages = pagesOf(s)
	}
	// The whole foot is held against the one that would have been written
	// here: its noughts are asked too.
	if pages > api.MaxPages || pages < f.above || s != foot(len(f.records)-f.counted, pages, f.feet, f.salt) {
		return false
	}
	f.pages = pages
	f.feet++
	f.counted = len(f.records)
	return true
}
