package row_test

import (
	"encoding/binary"
	"fmt"
	"math"
	"slices"
	"strings"
	"testing"
	"unsafe"

	"cahier/api"
	"cahier/row"
)

// wantBytes: a good row's bytes, as the chapter words it.
func wantBytes(r api.Row) string {
	out := []byte{byte(len(r))}
	for _, v := range r {
		out = append(out, byte(v.Kind))
		switch v.Kind {
		case 1:
			out = binary.AppendVarint(out, int64(v.N))
		case 2, 3:
			out = binary.AppendUvarint(out, uint64(len(v.S)))
			out = append(out, v.S...)
		}
	}
	return string(out)
}

// decodes asks what Decode answers, and that nothing is beside an error.
func decodes(t *testing.T, s string, want api.Row, e api.Errno) {
	t.Helper()
	if r, got := row.Decode(s); !slices.Equal(r, want) || got != e {
		t.Errorf("Decode of %d bytes, %.30x: %s, %d, not %d", len(s), s, told(r), got, e)
	}
}

// P7.2

func TestBytesByHand(t *testing.T) {
	for _, c := range []struct {
		r    api.Row
		want string
	}{
		{nil, "\x00"}, {api.Row{}, "\x00"}, {api.Row{null}, "\x01\x00"}, {many(null, 16), "\x10" + strings.Repeat("\x00", 16)},
		{api.Row{intOf(1), null, textOf("a")}, "\x03\x01\x02\x00\x02\x01a"},
		{api.Row{intOf(0), intOf(-1), intOf(63), intOf(-64), intOf(64), intOf(-65)}, "\x06\x01\x00\x01\x01\x01\x7e\x01\x7f\x01\x80\x01\x01\x81\x01"},
		{api.Row{intOf(math.MaxInt)}, "\x01\x01\xfe\xff\xff\xff\xff\xff\xff\xff\xff\x01"},
		{api.Row{intOf(math.MinInt)}, "\x01\x01\xff\xff\xff\xff\xff\xff\xff\xff\xff\x01"},
		{api.Row{textOf("")}, "\x01\x02\x00"}, {api.Row{blobOf("")}, "\x01\x03\x00"}, {api.Row{blobOf("\x00\xff")}, "\x01\x03\x02\x00\xff"},
		{api.Row{textOf(strings.Repeat("a", 127))}, "\x01\x02\x7f" + strings.Repeat("a", 127)},
		{api.Row{textOf(strings.Repeat("a", 128)), null}, "\x02\x02\x80\x01" + strings.Repeat("a", 128) + "\x00"},
		{api.Row{blobOf(strings.Repeat("\x00", 2000))}, "\x01\x03\xd0\x0f" + strings.Repeat("\x00", 2000)},
	} {
		if got, e := row.Encode(c.r); got != c.want || e != api.OK {
			t.Errorf("Encode of %s: %.60x, %d", told(c.r), got, e)
		}
		decodes(t, c.want, c.r, api.OK)
	}
}

func TestEncodeIsAsTheChapterWordsIt(t *testing.T) {
	for _, r := range samples() {
		if got, e := row.Encode(r); got != wantBytes(r) || e != api.OK {
			t.Fatalf("Encode of %s: %.60x, %d", told(r), got, e)
		}
	}
	for _, r := range bad() {
		if got, e := row.Encode(r); got != "" || e != api.ErrArg {
			t.Errorf("Encode of %d values, %s: %.60x, %d", len(r), told(r), got, e)
		}
	}
}

func TestDecodeIsTheWayBack(t *testing.T) {
	for _, r := range samples() {
		b := wantBytes(r)
		decodes(t, b, r, api.OK)
		for _, behind := range []string{"\x00", "\x01", "\xff", "a", "\x80\x00", b} {
			decodes(t, b+behind, nil, api.ErrForm)
		}
	}
}

func TestDecodeOfBeginningsIsShort(t *testing.T) {
	for _, r := range samples() {
		b := wantBytes(r)
		for i := range b {
			if i < 60 || i > len(b)-5 {
				decodes(t, b[:i], nil, api.ErrShort)
			}
		}
	}
}

func TestDecodeRefusesByHand(t *testing.T) {
	nines := strings.Repeat("\xff", 9)
	for _, c := range []struct {
		s string
		e api.Errno
	}{
		{"", api.ErrShort}, {"\x02\x00", api.ErrShort}, {"\x00\x00", api.ErrForm}, {"\x01\x02\xd1\x0f", api.ErrForm}, {"\x01\x03\xd1\x0f" + strings.Repeat("a", 2001), api.ErrForm}, {"\x01\x02\xd0\x0f", api.ErrShort},
		{"\x11", api.ErrForm}, {"\x10", api.ErrShort}, {"\x11" + strings.Repeat("\x00", 17), api.ErrForm}, {"\x90\x01", api.ErrForm}, {"\x90", api.ErrShort}, {"\x80\x00", api.ErrForm}, {"\x81\x00\x00", api.ErrForm}, {"\x81", api.ErrShort},
		{nines, api.ErrShort}, {nines + "\x01", api.ErrForm}, {nines + "\x02", api.ErrForm}, {nines + "\x80", api.ErrForm}, {nines + "\x00", api.ErrForm}, {"\xff\xff\x00", api.ErrForm}, {"\x80\x80\x80\x80\x80\x80\x80\x80\x80\x01", api.ErrForm}, {"\x80\x80\x80\x80\x10", api.ErrForm},
		{"\x01\x01" + nines, api.ErrShort}, {"\x01\x01" + nines + "\x01", api.OK}, {"\x01\x01" + nines + "\x02", api.ErrForm}, {"\x01\x01" + nines + "\x80", api.ErrForm}, {"\x01\x01\x80\x00", api.ErrForm}, {"\x01\x01\x80", api.ErrShort}, {"\x01\x01", api.ErrShort},
		{"\x01\x02" + nines, api.ErrShort}, {"\x01\x02" + nines + "\x01", api.ErrForm}, {"\x01\x02\x82\x00ab", api.ErrForm}, {"\x01\x02\x80\x80\x04", api.ErrForm}, {"\x01\x02\xff\x0f", api.ErrForm}, {"\x01\x02\xff", api.ErrShort}, {"\x01\x02\x05ab", api.ErrShort}, {"\x01\x02\x05abcd", api.ErrShort}, {"\x01\x02", api.ErrShort}, {"\x01\x03\x01", api.ErrShort},
		{"\x01\x04", api.ErrForm}, {"\x01\x80", api.ErrForm}, {"\x01\x80\x01", api.ErrForm}, {"\x02\x04", api.ErrForm}, {"\x02\x00\x04", api.ErrForm}, {"\x10\x00\x00\xff", api.ErrForm}, {"\x01\x00\x04", api.ErrForm},
		// The first byte that can't stand there tells, though s ends too soon as well, or more can't.
		{"\x03\x01\x80\x00", api.ErrForm}, {"\x05\x02\xd1\x0f", api.ErrForm}, {"\x02\x02\x03a\x04", api.ErrShort}, {"\x02\x02\x01a\x04", api.ErrForm},
	} {
		want := api.Row(nil)
		if c.e == api.OK {
			want = api.Row{intOf(math.MinInt)}
		}
		decodes(t, c.s, want, c.e)
	}
}

func TestDecodeOfEachCountKindAndLength(t *testing.T) {
	for b := range 256 {
		one := string([]byte{byte(b)})
		e := api.ErrForm
		if b == 0 {
			continue
		}
		if b <= 16 || b >= 128 {
			e = api.ErrShort
		}
		decodes(t, one, nil, e)
		e = api.ErrForm
		if b <= 3 {
			e = api.ErrShort
		}
		for _, ahead := range []string{"\x01", "\x02\x00", "\x03\x01\x80\x01\x00", "\x10\x03\x01\x04"} {
			decodes(t, ahead+one, nil, e)
		}
	}
	for size := range 2100 {
		for _, kind := range []string{"\x02", "\x03"} {
			s := "\x01" + kind + string(binary.AppendUvarint(nil, uint64(size)))
			if size > 2000 {
				decodes(t, s, nil, api.ErrForm)
				decodes(t, s+strings.Repeat("b", size), nil, api.ErrForm)
			} else {
				decodes(t, s+strings.Repeat("b", size), api.Row{{Kind: int(kind[0]), S: strings.Repeat("b", size)}}, api.OK)
				decodes(t, s+strings.Repeat("b", size+1), nil, api.ErrForm)
			}
		}
	}
	for bit := 8; bit < 64; bit++ {
		for _, n := range []uint64{1 << bit, 1<<bit + 1, 1<<bit + 16, math.MaxUint64 - 1<<bit} {
			decodes(t, string(binary.AppendUvarint(nil, n))+"\x00", nil, api.ErrForm)
			if n > 2000 {
				decodes(t, "\x01\x02"+string(binary.AppendUvarint(nil, n))+"a", nil, api.ErrForm)
			}
		}
	}
}

// feeder is given bytes one by one, and tells of each whether it can stand there.
type feeder struct {
	part string // what the next byte is of: "count", "kind", "int", "length", "bytes", "end"
	num  []byte // the number's bytes till now
	left int    // values to come
	size int    // bytes of the value to come
}

// takes: whether the byte can stand there.
func (f *feeder) takes(b byte) bool {
	switch f.part {
	case "kind":
		f.part = []string{"", "int", "length", "length"}[b&3]
		if b == 0 {
			f.next()
		}
		return b <= 3
	case "bytes":
		if f.size--; f.size == 0 {
			f.next()
		}
		return true
	case "end":
		return false
	}
	f.num = append(f.num, b)
	if len(f.num) > 1 && b == 0 || len(f.num) == 10 && b > 1 {
		return false
	}
	if b >= 128 {
		return true
	}
	n, _ := binary.Uvarint(f.num)
	f.num = nil
	return f.has(n)
}

// has: whether a number that is whole can stand there.
func (f *feeder) has(n uint64) bool {
	switch f.part {
	case "count":
		f.left = int(min(n, 17)) + 1
		f.next()
		return n <= 16
	case "length":
		f.size = int(min(n, 2001))
		f.part = "bytes"
		if n == 0 {
			f.next()
		}
		return n <= 2000
	}
	f.next()
	return true
}

// next: a value, or the count, is whole.
func (f *feeder) next() {
	f.part = "kind"
	if f.left--; f.left == 0 {
		f.part = "end"
	}
}

// askDecode holds Decode to what is told of each byte.
func askDecode(t *testing.T, s string) {
	t.Helper()
	f := feeder{part: "count"}
	for i := range len(s) {
		if !f.takes(s[i]) {
			decodes(t, s, nil, api.ErrForm)
			return
		}
	}
	if f.part != "end" {
		decodes(t, s, nil, api.ErrShort)
		return
	}
	if r, e := row.Decode(s); e != api.OK || !row.Good(r) || wantBytes(r) != s {
		t.Fatalf("Decode of %x: %s, %d", s, told(r), e)
	}
}

func TestDecodeOfAllFewBytes(t *testing.T) {
	for a := range 256 {
		askDecode(t, string([]byte{byte(a)}))
		for b := range 256 {
			askDecode(t, string([]byte{byte(a), byte(b)}))
			askDecode(t, string([]byte{1, byte(a), byte(b)}))
			askDecode(t, string([]byte{1, 1, byte(a), byte(b)}))
			askDecode(t, string([]byte{2, 2, byte(a), byte(b), 0}))
		}
	}
	for size := 3; size <= 6; size++ {
		eachString("\x00\x01\x02\x03\x04\x80\xff", size, func(s string) { askDecode(t, s) })
	}
	eachString("\x00\x01\x02\x10\x11\x7f\x80\xff", 3, func(s string) {
		for _, ahead := range []string{"", "\x01\x01", "\x01\x02", "\x02\x00\x03"} {
			for size := range 10 {
				askDecode(t, ahead+strings.Repeat("\xff", size)+s)
				askDecode(t, ahead+strings.Repeat("\x80", size)+s)
			}
		}
	})
}

func TestDecodeOfSpoiltRows(t *testing.T) {
	r := source()
	for range 40000 {
		b := []byte(wantBytes(someRow(r, r.IntN(17))))
		for range r.IntN(3) {
			b[r.IntN(len(b))] = byte(r.IntN(256))
		}
		at := r.IntN(len(b) + 1)
		switch r.IntN(4) {
		case 0:
			b = b[:at]
		case 1:
			b = slices.Insert(b, at, byte(r.IntN(20)))
		}
		askDecode(t, string(b))
		askDecode(t, fmt.Sprintf("%c%s", r.IntN(18), someBytes(r, 12)))
	}
}

// eachString gives every string of so many of the letters.
func eachString(letters string, size int, give func(string)) {
	if size == 0 {
		give("")
		return
	}
	eachString(letters, size-1, func(s string) {
		for i := range len(letters) {
			give(s + letters[i:i+1])
		}
	})
}

// P7.5

func TestEncodeAndDecodeAreWaysBack(t *testing.T) {
	for _, r := range samples() {
		b, e := row.Encode(r)
		back, e2 := row.Decode(b)
		if !slices.Equal(back, r) || e != api.OK || e2 != api.OK {
			t.Fatalf("%s: %d, %s, %d", told(r), e, told(back), e2)
		}
		if again, e := row.Encode(back); again != b || e != api.OK {
			t.Fatalf("%s: %.60x, %.60x, %d", told(r), b, again, e)
		}
	}
}

func TestDecodeAnswersNewMemory(t *testing.T) {
	r := api.Row{textOf("some text"), intOf(4), blobOf("some bytes")}
	b := wantBytes(r)
	first, _ := row.Decode(b)
	for _, v := range first {
		if v.S != "" && strings.Contains(b, v.S) && unsafe.StringData(v.S) == unsafe.StringData(b[strings.Index(b, v.S):]) {
			t.Errorf("%q is a piece of what was handed in", v.S)
		}
	}
	for i := range first {
		first[i] = null
	}
	decodes(t, b, r, api.OK)
}
