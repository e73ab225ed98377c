package pager

import (
	"cahier/api"
	"cahier/head"
)

// trunks is a pager as the list of free pages asks and writes them: its transaction's pages, which are there for sure.
type trunks struct{ *Pager }

func (t trunks) Get(n int) (string, api.Errno) { return t.page(n) }

func (t trunks) Put(n int, data string) api.Errno {
	t.change.put(n, data)
	return api.OK
}

// isPage: whether a database with this head has a page n.
func isPage(n int, h api.Head) bool { return n >= 1 && n < h.Pages }

// now: the head as it is, in the transaction if there is one.
func (p *Pager) now() api.Head {
	if p.change != nil {
		return p.change.head
	}
	return p.head
}

// page: a page as it is, in the transaction if there is one.
func (p *Pager) page(n int) (string, api.Errno) {
	if p.change != nil {
		if page, is := p.change.pages[n]; is {
			return page.Data, api.OK
		}
	}
	return p.committed(n)
}

// committed: a page as others see it; 0: the head's.
func (p *Pager) committed(n int) (string, api.Errno) {
	if n == 0 {
		return head.Encode(p.head)
	}
	if data, is := p.hand.Get(n); is {
		return data, api.OK
	}
	data, e := p.read(n)
	if e != api.OK {
		return "", e
	}
	p.hand.Put(n, data, false)
	return data, api.OK
}

// read: a page as the disk has it.
func (p *Pager) read(n int) (string, api.Errno) {
	if p.head.Mode == api.ModeLog {
		l, e := p.frames()
		if e != api.OK {
			return "", e
		}
		data, is, e := l.Get(n)
		if is || e != api.OK {
			return data, spoilt(e)
		}
	}
	return readMain(p.disk, n)
}
