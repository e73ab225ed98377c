package pager

import (
	"strings"

	"cahier/api"
	"cahier/disk"
	"cahier/journal"
	"cahier/seal"
)

// blank: a sector that no page can be read from.
func blank() string { return strings.Repeat("\x00", api.Sector) }

// spoilt: an error by which a sector holds no page is ErrBad; one of the disk's operations stays.
func spoilt(e api.Errno) api.Errno {
	switch e {
	case api.ErrTorn, api.ErrNone, api.ErrSeal:
		return api.ErrBad
	}
	return e
}

// readMain: a page of the main file.
func readMain(d *disk.Disk, n int) (string, api.Errno) {
	sector, e := d.Read(journal.Main, n)
	if e != api.OK {
		return "", spoilt(e)
	}
	s, e := seal.Open(sector)
	if e != api.OK || s.Kind != api.KindPage || s.Number != n {
		return "", api.ErrBad
	}
	return s.Data, api.OK
}

// writeMain: a page of the main file is written.
func writeMain(d *disk.Disk, page api.Page) api.Errno {
	sector, e := seal.Close(api.Sealed{Kind: api.KindPage, Number: page.N, Data: page.Data})
	if e != api.OK {
		return e
	}
	// Pages that are missing ahead of this one couldn't be read, and still can't be.
	for n := sizeOf(d); n < page.N; n++ {
		if e := d.Write(journal.Main, n, blank()); e != api.OK {
			return e
		}
	}
	return d.Write(journal.Main, page.N, sector)
}

// sizeOf: how many sectors the main file has.
func sizeOf(d *disk.Disk) int { return max(d.Size(journal.Main), 0) }

// shorten cuts the main file to so many sectors, if it has more.
func shorten(d *disk.Disk, n int) api.Errno {
	if sizeOf(d) <= n {
		return api.OK
	}
	return d.Cut(journal.Main, n)
}
