package pager

import (
	"cahier/api"
	"cahier/journal"
	"cahier/log"
)

// byLog lays pages into the log.
func (p *Pager) byLog(pages []api.Page, _ api.Head) api.Errno {
	l, e := p.frames()
	if e != api.OK {
		return told(e, api.OK)
	}
	frames := l.Len()
	if e := layAll(l, pages); e != api.OK {
		return told(e, p.unlay(frames))
	}
	return api.OK
}

// layAll lays a transaction's pages into a log, and makes them safe.
func layAll(l *log.Log, pages []api.Page) api.Errno {
	for i, page := range pages {
		if e := l.Add(page.N, page.Data, i == len(pages)-1); e != api.OK {
			return e
		}
	}
	return l.Sync()
}

// unlay takes from the log what a transaction laid behind so many frames.
func (p *Pager) unlay(frames int) api.Errno {
	// Of a log that met an error nothing is promised: another one is opened.
	p.log = nil
	l, e := log.Open(p.disk)
	if e != api.OK {
		return e
	}
	if e := l.Back(frames); e != api.OK {
		return e
	}
	p.log = l
	return api.OK
}

// frames: the log, opened if it isn't.
func (p *Pager) frames() (*log.Log, api.Errno) {
	if p.log != nil {
		return p.log, api.OK
	}
	l, e := log.Open(p.disk)
	if e != api.OK {
		return nil, e
	}
	// What was found committed may still wait, if the power didn't go: once it was told, it must not be lost.
	if e := l.Sync(); e != api.OK {
		return nil, e
	}
	p.log = l
	return l, api.OK
}

// checkpoint makes the main file the database, and ends the log.
func (p *Pager) checkpoint() api.Errno {
	l, e := p.frames()
	if e != api.OK {
		return e
	}
	if e := shorten(p.disk, p.head.Pages); e != api.OK {
		return e
	}
	size := sizeOf(p.disk)
	e = p.copyOut(l)
	if e == api.OK {
		e = l.End()
	}
	if e == api.OK {
		return api.OK
	}
	p.log = nil
	// The log holds all that was copied: sectors more would only take its room.
	if e := shorten(p.disk, size); e == api.ErrDown {
		return e
	}
	return e
}

// copyOut copies what a log holds to the main file, and makes it safe.
func (p *Pager) copyOut(l *log.Log) api.Errno {
	for _, n := range l.Pages() {
		// Pages that were there once play no part.
		if n >= p.head.Pages {
			break
		}
		data, e := p.committed(n)
		if e != api.OK {
			return e
		}
		if e := writeMain(p.disk, api.Page{N: n, Data: data}); e != api.OK {
			return e
		}
	}
	return p.disk.Sync(journal.Main)
}

// leaveLog: there is no log, and none is needed. One that played no part would in another mode.
func (p *Pager) leaveLog() api.Errno {
	if p.head.Mode == api.ModeLog {
		return p.checkpoint()
	}
	if p.disk.Size(log.Name) < 0 {
		return api.OK
	}
	return p.disk.Drop(log.Name)
}
