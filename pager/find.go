package pager

import (
	"cahier/api"
	"cahier/disk"
	"cahier/head"
	"cahier/journal"
)

// find looks for the database on the disk: behind a change that was cut off, in the main file, in the log.
func (p *Pager) find() api.Errno {
	p.hand.Clear()
	p.log = nil
	if e := undo(p.disk); e != api.OK {
		return e
	}
	h, e := p.findHead()
	if e != api.OK {
		return e
	}
	p.head = h
	return api.OK
}

// undo: a change that was cut off is undone, by its journal.
func undo(d *disk.Disk) api.Errno {
	if d.Size(journal.Name) < 0 {
		return api.OK
	}
	// Without a loss of power its foot may still wait. Back writes pages by what counts: it must go on to count.
	if e := d.Sync(journal.Name); e != api.OK {
		return e
	}
	return journal.Back(d)
}

// findHead: the head that the main file has, or the log.
func (p *Pager) findHead() (api.Head, api.Errno) {
	if p.disk.Size(journal.Main) <= 0 {
		return head.Fresh(), api.OK
	}
	h, e := headOf(readMain(p.disk, 0))
	switch {
	case e == api.OK && h.Mode == api.ModeJournal:
		return h, api.OK
	case e != api.OK && e != api.ErrBad:
		return api.Head{}, e
	}
	l, fault := p.frames()
	if fault != api.OK {
		return api.Head{}, fault
	}
	page, is, fault := l.Get(0)
	if is || fault != api.OK {
		h, e = headOf(page, spoilt(fault))
		// Ahead of a change of the mode the log ends: a head in it has no other.
		if e == api.OK && h.Mode != api.ModeLog {
			return api.Head{}, api.ErrBad
		}
	}
	return h, e
}

// headOf: the head that a page says, if that could be read; ErrBad, if it is no head's.
func headOf(page string, e api.Errno) (api.Head, api.Errno) {
	if e != api.OK {
		return api.Head{}, e
	}
	h, e := head.Decode(page)
	if e != api.OK {
		return api.Head{}, api.ErrBad
	}
	return h, api.OK
}
