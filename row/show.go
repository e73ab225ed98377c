package row

import (
	"strings"

	"cahier/api"
	"cahier/value"
)

const (
	opening = "("
	between = ", "
	closing = ")"
)

// Show: a row as a text.
func Show(r api.Row) string {
	if !Good(r) {
		return ""
	}
	shown := make([]string, len(r))
	for i, v := range r {
		shown[i] = value.Show(v)
	}
	return opening + strings.Join(shown, between) + closing
}

// Parse: the row at the beginning of a text, how many bytes it has; ErrForm.
func Parse(s string) (api.Row, int, api.Errno) {
	var out api.Row
	r := reader{rest: s}
	r.word(opening)
	for r.e == api.OK && !r.passes(closing) {
		switch len(out) {
		case 0:
		case api.MaxVals:
			r.fail(api.ErrForm)
		default:
			r.word(between)
		}
		out = append(out, r.shown())
	}
	if r.e != api.OK {
		return nil, 0, r.e
	}
	return out, len(s) - len(r.rest), api.OK
}

// word: this one comes next.
func (r *reader) word(w string) {
	if !r.passes(w) {
		r.fail(api.ErrForm)
	}
}

// passes goes past a word, if it comes next, and tells whether it did.
func (r *reader) passes(w string) bool {
	rest, found := strings.CutPrefix(r.rest, w)
	if r.e != api.OK || !found {
		return false
	}
	r.rest = rest
	return true
}

// shown: the value whose text comes next.
func (r *reader) shown() api.Val {
	if r.e != api.OK {
		return api.Val{}
	}
	v, size, e := value.Parse(r.rest)
	r.rest, r.e = r.rest[size:], e
	return v
}
