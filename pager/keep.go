package pager

import "cahier/api"

// told: what has become of a transaction that met an error, by what undoing it met.
func told(e, undoing api.Errno) api.Errno {
	switch {
	case e == api.ErrDown || undoing == api.ErrDown:
		return api.ErrDown
	case undoing != api.OK:
		return api.ErrMaybe
	}
	return api.ErrAbort
}

// over: a transaction ends, and this is told of it.
func (p *Pager) over(e api.Errno) api.Errno {
	// Once the power has gone a pager stays as it is.
	if e != api.ErrDown {
		p.change = nil
		p.lost = e == api.ErrMaybe
	}
	return e
}

// met: what an error within a transaction is to who changes something: one of the disk ends it.
func (p *Pager) met(e api.Errno) api.Errno {
	if e == api.ErrIO || e == api.ErrFull {
		return p.over(api.ErrAbort)
	}
	return e
}

// keep commits what a transaction has made, in this way.
func (p *Pager) keep(s state, way func(pages []api.Page, h api.Head) api.Errno) api.Errno {
	s.head.Change++
	pages, e := s.list()
	if e != api.OK {
		return p.over(told(e, api.OK))
	}
	if e := way(pages, s.head); e != api.OK {
		return p.over(e)
	}
	p.head = s.head
	for _, page := range s.rising() {
		p.hand.Put(page.N, page.Data, false)
	}
	return p.over(api.OK)
}
