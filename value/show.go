package value

import (
	"strconv"
	"strings"

	"cahier/api"
)

const (
	null       = "null"
	longestInt = len("-9223372036854775808")

	quote   = '\''
	escape  = '\\'
	lowest  = ' ' // of the bytes that are written as they are
	highest = '~'
	digits  = "0123456789abcdef"
)

// Show: a value as a text.
func Show(v api.Val) string {
	if !Good(v) {
		return ""
	}
	switch v.Kind {
	case api.Null:
		return null
	case api.Int:
		return strconv.Itoa(v.N)
	}
	return opening(v.Kind) + shownBytes(v.S) + string(quote)
}

// Parse: the value at the beginning of a text, how many bytes it has; ErrForm.
func Parse(s string) (api.Val, int, api.Errno) {
	if strings.HasPrefix(s, null) {
		return api.Val{}, len(null), api.OK
	}
	for _, kind := range [...]int{api.Text, api.Blob} {
		if strings.HasPrefix(s, opening(kind)) {
			return parseBytes(kind, s)
		}
	}
	return parseInt(s)
}

// opening: what a Text or Blob begins with.
func opening(kind int) string {
	return [...]string{api.Text: "'", api.Blob: "x'"}[kind]
}

// shownBytes: what stands between the opening and the end of bytes.
func shownBytes(s string) string {
	var out strings.Builder
	for i := range len(s) {
		out.WriteString(shownByte(s[i]))
	}
	return out.String()
}

// shownByte: how a byte is written in a Text or Blob.
func shownByte(b byte) string {
	switch {
	case b == quote:
		return "''"
	case b == escape || b < lowest || b > highest:
		return string([]byte{escape, digits[b/16], digits[b%16]})
	}
	return string([]byte{b})
}

// parseBytes: the Text or Blob at the beginning, whose opening stands there.
func parseBytes(kind int, s string) (api.Val, int, api.Errno) {
	var out []byte
	for at := len(opening(kind)); at < len(s); {
		b, size := parseByte(s[at:])
		switch {
		case size == 0 && s[at] == quote:
			return api.Val{Kind: kind, S: string(out)}, at + 1, api.OK
		case size == 0 || len(out) == api.MaxText:
			return api.Val{}, 0, api.ErrForm
		}
		out = append(out, b)
		at += size
	}
	return api.Val{}, 0, api.ErrForm
}

// parseByte: the byte that is written at the beginning, and by how many bytes; 0, if none is.
func parseByte(s string) (byte, int) {
	b := s[0]
	if b == escape && len(s) > 2 {
		// Of what is no number it is 0, which isn't what stands there.
		n, _ := strconv.ParseUint(s[1:3], 16, 8)
		b = byte(n)
	}
	if shown := shownByte(b); strings.HasPrefix(s, shown) {
		return b, len(shown)
	}
	return 0, 0
}

// parseInt: the Int at the beginning, the longest one of those that begin there.
func parseInt(s string) (api.Val, int, api.Errno) {
	for size := min(len(s), longestInt); size > 0; size-- {
		if n, err := strconv.Atoi(s[:size]); err == nil && strconv.Itoa(n) == s[:size] {
			return api.Val{Kind: api.Int, N: n}, size, api.OK
		}
	}
	return api.Val{}, 0, api.ErrForm
}
