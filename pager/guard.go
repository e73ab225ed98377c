package pager

import "cahier/api"

// inside: what stands against a call that belongs into a transaction.
func (p *Pager) inside() api.Errno {
	if e := p.Ready(); e != api.OK {
		return e
	}
	if p.change == nil {
		return api.ErrState
	}
	return api.OK
}

// outside: what stands against a call that doesn't.
func (p *Pager) outside() api.Errno {
	if e := p.Ready(); e != api.OK {
		return e
	}
	if p.change != nil {
		return api.ErrState
	}
	return api.OK
}

// saved: what stands against a call of the savepoint k.
func (p *Pager) saved(k int) api.Errno {
	if e := p.inside(); e != api.OK {
		return e
	}
	if k < 1 || k > len(p.change.saves) {
		return api.ErrArg
	}
	return api.OK
}
