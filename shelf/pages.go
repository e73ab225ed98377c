package shelf

import (
	"strings"

	"cahier/api"
)

// pages is what stands on the pages that there are, free ones too: spare's store, whose calls are none of the shelf's own.
type pages map[int]string

// Get: a page; ErrPage.
func (p pages) Get(n int) (string, api.Errno) {
	if !p.has(n) {
		return "", api.ErrPage
	}
	return strings.Clone(p[n]), api.OK
}

// Put: a page is written; ErrPage, ErrArg.
func (p pages) Put(n int, data string) api.Errno {
	if !p.has(n) {
		return api.ErrPage
	}
	if len(data) != api.Payload {
		return api.ErrArg
	}
	// The bytes may be a part of something greater, which must not stay for their sake.
	p[n] = strings.Clone(data)
	return api.OK
}

// has: whether there is such a page.
func (p pages) has(n int) bool {
	_, ok := p[n]
	return ok
}
