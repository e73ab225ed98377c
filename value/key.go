package value

import (
	"strings"

	"cahier/api"
	"cahier/num"
)

const (
	intBytes = 8
	offset   = 1 << 63 // is added to a number, so that those below 0 come first

	zero  = "\x00"
	stood = zero + "\xff" // a byte 0 of a Text or Blob
	ended = zero + "\x01" // its end; below stood, so that the shorter one of two comes first
)

// Key: a value as bytes that stand in the order of values.
func Key(v api.Val) string {
	if !Good(v) {
		return ""
	}
	kind := string([]byte{byte(v.Kind)})
	switch v.Kind {
	case api.Null:
		return kind
	case api.Int:
		return kind + num.Fixed(uint64(v.N)+offset, intBytes)
	}
	return kind + strings.ReplaceAll(v.S, zero, stood) + ended
}

// Unkey: the value at the beginning of bytes, how many they are; ErrShort, ErrForm.
func Unkey(s string) (api.Val, int, api.Errno) {
	if s == "" {
		return api.Val{}, 0, api.ErrShort
	}
	v := api.Val{Kind: int(s[0])}
	size, e := 0, api.OK
	switch v.Kind {
	case api.Null:
	case api.Int:
		v.N, size, e = keyedInt(s[1:])
	case api.Text, api.Blob:
		v.S, size, e = keyedBytes(s[1:])
	default:
		e = api.ErrForm
	}
	if e != api.OK {
		return api.Val{}, 0, e
	}
	return v, 1 + size, api.OK
}

// keyedInt: the number that a Key has behind its Kind; any bytes are one.
func keyedInt(s string) (int, int, api.Errno) {
	if len(s) < intBytes {
		return 0, 0, api.ErrShort
	}
	n, e := num.Unfixed(s[:intBytes])
	return int(n - offset), intBytes, e
}

// keyedBytes: the bytes that a Key has behind its Kind.
func keyedBytes(s string) (string, int, api.Errno) {
	var out []byte
	for at := 0; at < len(s); at++ {
		b := s[at]
		switch rest := s[at:]; {
		case rest == zero:
			return "", 0, api.ErrShort
		case strings.HasPrefix(rest, ended):
			return string(out), at + len(ended), api.OK
		case strings.HasPrefix(rest, stood):
			at++
		case b == zero[0]:
			return "", 0, api.ErrForm
		}
		if len(out) == api.MaxText {
			return "", 0, api.ErrForm
		}
		out = append(out, b)
	}
	return "", 0, api.ErrShort
}
