package row

import (
	"strings"

	"cahier/api"
	"cahier/num"
)

// Encode: a row as bytes; ErrArg.
func Encode(r api.Row) (string, api.Errno) {
	if !Good(r) {
		return "", api.ErrArg
	}
	var out strings.Builder
	out.WriteString(num.Var(uint64(len(r))))
	for _, v := range r {
		out.WriteByte(byte(v.Kind))
		switch v.Kind {
		case api.Int:
			out.WriteString(num.Var(num.Fold(v.N)))
		case api.Text, api.Blob:
			out.WriteString(num.Var(uint64(len(v.S))))
			out.WriteString(v.S)
		}
	}
	return out.String(), api.OK
}

// Decode: the row of bytes; ErrShort, ErrForm.
func Decode(s string) (api.Row, api.Errno) {
	var out api.Row
	r := reader{rest: s}
	for range r.upTo(api.MaxVals) {
		out = append(out, r.value())
	}
	if r.rest != "" {
		r.fail(api.ErrForm)
	}
	if r.e != api.OK {
		return nil, r.e
	}
	return out, api.OK
}

// value: the one whose bytes come next.
func (r *reader) value() api.Val {
	v := api.Val{Kind: r.kind()}
	switch v.Kind {
	case api.Int:
		v.N = num.Unfold(r.number())
	case api.Text, api.Blob:
		v.S = r.bytes(r.upTo(api.MaxText))
	}
	return v
}

// kind: that of the value whose bytes come next.
func (r *reader) kind() int {
	b := r.bytes(1)
	if b == "" {
		return api.Null
	}
	if b[0] > api.Blob {
		r.fail(api.ErrForm)
		return api.Null
	}
	return int(b[0])
}

// upTo: the number that comes next, which can't be above most.
func (r *reader) upTo(most uint64) int {
	n := r.number()
	if n > most {
		r.fail(api.ErrForm)
		return 0
	}
	return int(n)
}

// number: the one that comes next.
func (r *reader) number() uint64 {
	if r.e != api.OK {
		return 0
	}
	n, size, e := num.Unvar(r.rest)
	r.rest, r.e = r.rest[size:], e
	return n
}

// bytes: so many, which come next.
func (r *reader) bytes(size int) string {
	if size > len(r.rest) {
		r.fail(api.ErrShort)
	}
	if r.e != api.OK {
		return ""
	}
	// What is answered shares no memory with what is handed in.
	out := strings.Clone(r.rest[:size])
	r.rest = r.rest[size:]
	return out
}
