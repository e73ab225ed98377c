package row

import "cahier/api"

// reader goes over bytes or a text from the beginning. Its first error stays,
// and behind it nothing is read any more: what reads on may ask late for it.
type reader struct {
	rest string
	e    api.Errno
}

// fail: what comes next can't be, unless something ahead of it couldn't.
func (r *reader) fail(e api.Errno) {
	if r.e == api.OK {
		r.e = e
	}
}
