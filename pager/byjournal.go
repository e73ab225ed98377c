package pager

import (
	"cahier/api"
	"cahier/journal"
)

// byJournal writes pages to the main file, behind a journal of what they were; h is the head then.
func (p *Pager) byJournal(pages []api.Page, h api.Head) api.Errno {
	size := min(p.head.Pages, sizeOf(p.disk))
	j, e := journal.Start(p.disk, size, h.Change)
	if e != api.OK {
		return told(e, e)
	}
	unread, e := p.note(j, pages, size)
	if e == api.OK {
		e = j.Seal()
	}
	if e != api.OK {
		// No page was written yet. To go back by a journal whose foot may still be lost would be no way.
		return told(e, j.End())
	}
	e = p.writeAll(pages)
	if e == api.OK {
		e = j.End()
	}
	if e != api.OK {
		return told(e, p.unwrite(unread))
	}
	// What stands behind the pages plays no part: the transaction is done, be that cut off or not.
	if e := shorten(p.disk, h.Pages); e == api.ErrDown {
		return e
	}
	return api.OK
}

// note takes down what pages were, of so many that the main file has. The answer is which of them couldn't be read.
func (p *Pager) note(j *journal.Journal, pages []api.Page, size int) ([]int, api.Errno) {
	var unread []int
	for _, page := range pages {
		if page.N >= size {
			break
		}
		data, e := p.committed(page.N)
		if e == api.ErrBad {
			unread = append(unread, page.N)
			continue
		}
		if e == api.OK {
			e = j.Note(page.N, data)
		}
		if e != api.OK {
			return nil, e
		}
	}
	return unread, api.OK
}

// writeAll writes pages to the main file, and makes them safe.
func (p *Pager) writeAll(pages []api.Page) api.Errno {
	for _, page := range pages {
		if e := writeMain(p.disk, page); e != api.OK {
			return e
		}
	}
	return p.disk.Sync(journal.Main)
}

// unwrite makes the main file what it was; pages that couldn't be read, and so are in no journal, can't be again.
func (p *Pager) unwrite(unread []int) api.Errno {
	for _, n := range unread {
		if e := p.disk.Write(journal.Main, n, blank()); e != api.OK {
			return e
		}
	}
	return journal.Back(p.disk)
}
