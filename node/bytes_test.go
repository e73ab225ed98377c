package node_test

import (
	"encoding/binary"
	"math/rand/v2"
	"strings"
	"testing"
	"unsafe"

	"cahier/api"
	"cahier/node"
)

// wantBytes: a good node's bytes, as the chapter words it.
func wantBytes(n api.Node) string {
	out := []byte{2}
	if n.Leaf {
		out[0] = 1
	}
	out = binary.BigEndian.AppendUint16(out, uint16(len(n.Keys)))
	if !n.Leaf {
		out = binary.BigEndian.AppendUint32(out, uint32(n.Kids[0]))
	}
	for i, k := range n.Keys {
		out = append(binary.AppendUvarint(out, uint64(len(k))), k...)
		if !n.Leaf {
			out = binary.BigEndian.AppendUint32(out, uint32(n.Kids[i+1]))
			continue
		}
		out = binary.AppendUvarint(out, uint64(n.Cells[i].Size))
		if n.Cells[i].Size > 40 {
			out = binary.BigEndian.AppendUint32(out, uint32(n.Cells[i].Page))
		}
		out = append(out, n.Cells[i].Data...)
	}
	return string(out)
}

// padded: these bytes, and noughts up to a page's.
func padded(s string) string { return s + strings.Repeat("\x00", 232-len(s)) }

// takeVar: the number at the beginning of bytes, in as few as it needs, and what is behind it.
func takeVar(b []byte) (int, []byte, bool) {
	n, size := binary.Uvarint(b)
	if size <= 0 || n > 5000 || size != len(binary.AppendUvarint(nil, n)) {
		return 0, nil, false
	}
	return int(n), b[size:], true
}

// takePage: the number of a page in 4 bytes, and what is behind it.
func takePage(b []byte) (int, []byte, bool) {
	if len(b) < 4 {
		return 0, nil, false
	}
	return int(binary.BigEndian.Uint32(b)), b[4:], true
}

// wantNode: the node of a page, as the chapter words it; whether there is one.
func wantNode(page string) (api.Node, bool) {
	if page[0] != 1 && page[0] != 2 {
		return api.Node{}, false
	}
	n := api.Node{Leaf: page[0] == 1}
	rest := []byte(page[3:])
	at, size, ok := 0, 0, true
	if !n.Leaf {
		at, rest, _ = takePage(rest)
		n.Kids = append(n.Kids, at)
	}
	for range int(page[1])<<8 + int(page[2]) {
		if size, rest, ok = takeVar(rest); !ok || size > len(rest) {
			return api.Node{}, false
		}
		n.Keys = append(n.Keys, string(rest[:size]))
		rest = rest[size:]
		if !n.Leaf {
			if at, rest, ok = takePage(rest); !ok {
				return api.Node{}, false
			}
			n.Kids = append(n.Kids, at)
			continue
		}
		c := api.Cell{}
		if c.Size, rest, ok = takeVar(rest); !ok {
			return api.Node{}, false
		}
		if c.Size > 40 {
			if c.Page, rest, ok = takePage(rest); !ok {
				return api.Node{}, false
			}
		} else {
			if c.Size > len(rest) {
				return api.Node{}, false
			}
			c.Data, rest = string(rest[:c.Size]), rest[c.Size:]
		}
		n.Cells = append(n.Cells, c)
	}
	for _, b := range rest {
		if b != 0 {
			return api.Node{}, false
		}
	}
	if !wantGood(n) {
		return api.Node{}, false
	}
	return n, true
}

// decodes asks what Decode answers of a page, and that Encode of it gives the page; whether it is a node's.
func decodes(t *testing.T, page string) bool {
	t.Helper()
	want, ok := wantNode(page)
	e := api.OK
	if !ok {
		e = api.ErrForm
	}
	got, f := node.Decode(page)
	if f != e || !same(got, want) {
		t.Fatalf("Decode of %x: %s, %d, not %s, %d", page, told(got), f, told(want), e)
	}
	if again, f := node.Encode(got); ok && (again != page || f != api.OK) {
		t.Fatalf("Encode of Decode of %x: %x, %d", page, again, f)
	}
	return ok
}

// refuses asks that Decode answers an error, and nothing beside it.
func refuses(t *testing.T, what, s string, want api.Errno) {
	t.Helper()
	if n, e := node.Decode(s); e != want || !same(n, api.Node{}) {
		t.Errorf("Decode, %s: %s, %d, not %d", what, told(n), e, want)
	}
}

// P8.2

func TestPagesByHand(t *testing.T) {
	k64, v40 := strings.Repeat("k", 64), strings.Repeat("v", 40)
	for _, c := range []struct {
		n    api.Node
		want string
	}{
		{api.Node{Leaf: true}, "\x01\x00\x00"},
		{leafOf(in("v"), "k"), "\x01\x00\x01\x01k\x01v"},
		{leafOf(in(""), ""), "\x01\x00\x01\x00\x00"},
		{leafOf(in("\x00"), "", "\x00"), "\x01\x00\x02\x00\x01\x00\x01\x00\x01\x00"},
		{leafOf(in(v40), k64), "\x01\x00\x01\x40" + k64 + "\x28" + v40},
		{api.Node{Leaf: true, Keys: []string{"a", "b", "c", "d"}, Cells: []api.Cell{far(41, 1), far(5000, 4095), in("\xff"), far(300, 258)}}, "\x01\x00\x04\x01a\x29\x00\x00\x00\x01\x01b\x88\x27\x00\x00\x0f\xff\x01c\x01\xff\x01d\xac\x02\x00\x00\x01\x02"},
		{innerOf(5, "k"), "\x02\x00\x01\x00\x00\x00\x05\x01k\x00\x00\x00\x06"},
		{api.Node{Keys: []string{"", k64}, Kids: []int{4095, 1, 258}}, "\x02\x00\x02\x00\x00\x0f\xff\x00\x00\x00\x00\x01\x40" + k64 + "\x00\x00\x01\x02"},
	} {
		if got, e := node.Encode(c.n); got != padded(c.want) || e != api.OK {
			t.Errorf("Encode of %s: %x, %d", told(c.n), got, e)
		}
		if got, e := node.Decode(padded(c.want)); !same(got, c.n) || e != api.OK {
			t.Errorf("Decode of %x: %s, %d", c.want, told(got), e)
		}
	}
}

func TestEncodeIsAsTheChapterWordsIt(t *testing.T) {
	fit, long := 0, 0
	for _, n := range append(samples(), great()...) {
		s, e := node.Encode(n)
		if want := wantBytes(n); len(want) <= 232 {
			fit++
			if s != padded(want) || e != api.OK {
				t.Fatalf("Encode of %s: %x, %d", told(n), s, e)
			}
		} else {
			long++
			if s != "" || e != api.ErrLong {
				t.Fatalf("Encode of %s: %x, %d", told(n), s, e)
			}
		}
	}
	if fit < 2000 || long < 400 {
		t.Errorf("%d are a page's, %d are more", fit, long)
	}
	for _, n := range bad() {
		if s, e := node.Encode(n); s != "" || e != api.ErrArg {
			t.Errorf("Encode of %s: %x, %d", told(n), s, e)
		}
	}
}

func TestEncodeAtTheEndOfAPage(t *testing.T) {
	for size := 190; size <= 238; size++ {
		n := ofSize(size)
		s, e := node.Encode(n)
		if size > 232 {
			if s != "" || e != api.ErrLong {
				t.Errorf("%d bytes: %x, %d", size, s, e)
			}
			continue
		}
		if e != api.OK || len(s) != 232 || !decodes(t, s) {
			t.Errorf("%d bytes: %x, %d", size, s, e)
		}
	}
	// A node that isn't good isn't too long either.
	n := ofSize(238)
	n.Keys[0] = "b"
	if s, e := node.Encode(n); s != "" || e != api.ErrArg {
		t.Errorf("%x, %d", s, e)
	}
}

func TestDecodeRefusesOtherLengths(t *testing.T) {
	s := padded(wantBytes(leafOf(in("v"), "k")))
	for _, size := range []int{0, 1, 2, 3, 7, 8, 231} {
		refuses(t, "too short", s[:size], api.ErrArg)
	}
	refuses(t, "its end alone", s[1:], api.ErrArg)
	refuses(t, "a nought more", s+"\x00", api.ErrArg)
	refuses(t, "a byte more", s+"x", api.ErrArg)
	refuses(t, "a whole sector", s+strings.Repeat("\x00", 24), api.ErrArg)
	refuses(t, "two of them", s+s, api.ErrArg)
	refuses(t, "no node's, too long", strings.Repeat("\xff", 233), api.ErrArg)
}

func TestDecodeRefusesByHand(t *testing.T) {
	k64 := strings.Repeat("k", 64)
	nines := strings.Repeat("\xff", 9)
	for _, s := range []string{
		"", "\x00\x00\x01\x01k\x01v", "\x03\x00\x01\x01k\x01v", "\x02\x00\x01\x01k\x01v", "\x81\x00\x00", "\x02", "\x02\x00\x00", "\x02\x00\x00\x00\x00\x00\x05", "\x02\x00\x00\x00\x00\x00\x05\x00\x00\x00\x00\x06",
		// The number of keys is too great, too small, turned.
		"\x01\x00\x02\x01k\x01v", "\x01\x00\x00\x01k\x01v", "\x01\x01\x00\x01k\x01v", "\x01\x01\x01\x01k\x01v", "\x01\xff\xff\x01k\x01v", "\x01\x00\x02", "\x01\xff\xff", "\x02\xff\xff\x00\x00\x00\x05",
		// Keys that don't rise, that are too long, whose number of bytes is not as few bytes as it needs.
		"\x01\x00\x02\x01b\x00\x01a\x00", "\x01\x00\x02\x01a\x00\x01a\x00", "\x01\x00\x02\x00\x00\x00\x00", "\x01\x00\x01\x41" + k64 + "k\x01v", "\x01\x00\x01\x81\x00k\x01v", "\x01\x00\x01\x80\x00\x01v", "\x01\x00\x01\x80\x80\x04", "\x01\x00\x01" + nines + "\x01", "\x01\x00\x01" + nines + "\x02", "\x01\x00\x01\x80\x80\x80\x80\x10k\x01v",
		// Values that are too long, lead to no page, whose number of bytes is not as few bytes as it needs.
		"\x01\x00\x01\x01k\x81\x00v", "\x01\x00\x01\x01k\x29" + strings.Repeat("v", 41), "\x01\x00\x01\x01k\x29\x00\x00\x00\x00", "\x01\x00\x01\x01k\x29\x00\x00\x10\x00", "\x01\x00\x01\x01k\x29\x00\x00\x00\x01\x01", "\x01\x00\x01\x01k\x29\xff\xff\xff\xff", "\x01\x00\x01\x01k\x29\x80\x00\x00\x01", "\x01\x00\x01\x01k\x29\x01\x00\x00\x01", "\x01\x00\x01\x01k\xa9\x00\x00\x00\x00\x01", "\x01\x00\x01\x01k\x89\x27\x00\x00\x00\x01", "\x01\x00\x01\x01k" + nines + "\x01\x00\x00\x00\x01", "\x01\x00\x01\x01k\x80\x80\x80\x80\x10",
		// Kids that are no pages, or are there twice.
		"\x02\x00\x01\x00\x00\x00\x05\x01k\x00\x00\x00\x05", "\x02\x00\x01\x00\x00\x00\x00\x01k\x00\x00\x00\x05", "\x02\x00\x01\x00\x00\x00\x05\x01k\x00\x00\x00\x00", "\x02\x00\x01\x00\x00\x00\x05\x01k\x00\x00\x10\x00", "\x02\x00\x01\x00\x00\x10\x00\x01k\x00\x00\x00\x01", "\x02\x00\x01\x01\x00\x00\x05\x01k\x00\x00\x00\x06", "\x02\x00\x02\x00\x00\x00\x05\x01k\x00\x00\x00\x06\x01l\x00\x00\x00\x05", "\x02\x00\x02\x00\x00\x00\x05\x01l\x00\x00\x00\x06\x01k\x00\x00\x00\x07",
		// What stands behind it.
		"\x01\x00\x00\x01", "\x01\x00\x01\x01k\x01v\x01", "\x01\x00\x01\x01k\x01vv", "\x02\x00\x01\x00\x00\x00\x05\x01k\x00\x00\x00\x06\x01",
	} {
		refuses(t, "by hand", padded(s), api.ErrForm)
		decodes(t, padded(s))
	}
	refuses(t, "its last byte", padded("\x01\x00\x01\x01k\x01v")[:231]+"\x01", api.ErrForm)
	// The page ends within a key, a value, a page's number, a number of bytes, or ahead of one.
	full := padded(wantBytes(ofSize(232)))
	refuses(t, "a key more", full[:2]+"\x05"+full[3:], api.ErrForm)
	refuses(t, "its end is away", full[:3]+"\x02a"+full[4:231], api.ErrForm)
	inner := wantBytes(innerOf(1, risingKeys(4, 52)...))
	refuses(t, "an inner node's end is away", inner[:232], api.ErrForm)
	for _, end := range []string{"", "\x28" + strings.Repeat("v", 39), "\x2a\x00\x00", "\x82", "\x80", "\x29\x00\x00\x01"} {
		four := leafOf(in(strings.Repeat("v", 40)), "", "a", "b", "bb")
		ahead := "\x01\x00\x05" + wantBytes(four)[3:]
		size := 232 - len(ahead) - len(end) - 1
		if size > 64 {
			t.Fatalf("a key of %d bytes", size)
		}
		s := ahead + string([]byte{byte(size)}) + "c" + strings.Repeat("k", size-1) + end
		refuses(t, "the page ends too soon", s, api.ErrForm)
	}
}

func TestDecodeOfEachFirstByteAndCount(t *testing.T) {
	leaf, inner := padded(wantBytes(leafOf(in("v"), "k"))), padded(wantBytes(innerOf(5, "k")))
	for b := range 256 {
		one := string([]byte{byte(b)})
		if decodes(t, one+leaf[1:]) != (b == 1) || decodes(t, one+inner[1:]) != (b == 2) {
			t.Errorf("the first byte %d", b)
		}
		if decodes(t, one+strings.Repeat("\x00", 231)) != (b == 1) {
			t.Errorf("the first byte %d, and noughts", b)
		}
		for c := range 256 {
			if b > 1 && c > 1 && c < 255 {
				continue
			}
			two := one + string([]byte{byte(c)})
			if decodes(t, leaf[:1]+two+leaf[3:]) != (b == 0 && c == 1) || decodes(t, inner[:1]+two+inner[3:]) != (b == 0 && c == 1) {
				t.Errorf("%d, %d keys", b, c)
			}
		}
	}
}

func TestDecodeOfEachSizeAndPage(t *testing.T) {
	for size := range 17000 {
		b := string(binary.AppendUvarint(nil, uint64(size)))
		s := padded("\x01\x00\x01\x01k" + b + "\x00\x00\x00\x07")
		if size <= 40 {
			s = padded("\x01\x00\x01\x01k" + b + strings.Repeat("v", size))
		}
		if decodes(t, s) != (size <= 5000) {
			t.Errorf("a value of %d bytes", size)
		}
		page := string(binary.BigEndian.AppendUint32(nil, uint32(size)))
		fit := size > 0 && size < 4096
		if decodes(t, padded("\x01\x00\x01\x01k\x29"+page)) != fit || decodes(t, padded("\x02\x00\x01"+page+"\x01k\x00\x00\x00\x07")) != (fit && size != 7) || decodes(t, padded("\x02\x00\x01\x00\x00\x00\x07\x01k"+page)) != (fit && size != 7) {
			t.Errorf("the page %d", size)
		}
		if size < 200 && decodes(t, padded("\x01\x00\x01"+b+strings.Repeat("k", size)+"\x00")) != (size <= 64) {
			t.Errorf("a key of %d bytes", size)
		}
	}
}

// spoilt: a page of which a few bytes are others, away, twice or turned.
func spoilt(r *rand.Rand, page string) string {
	b := []byte(page)
	used := len(strings.TrimRight(page, "\x00")) + 2
	for range 1 + r.IntN(2) {
		at := r.IntN(min(used, len(b)))
		switch r.IntN(5) {
		case 0:
			b[at] = byte(r.Uint32())
		case 1:
			b[at] += byte(r.IntN(3)) - 1
		case 2:
			b = append(append(b[:at:at], b[at+1:]...), 0)
		case 3:
			b = append(append(b[:at:at], byte(r.IntN(3))), b[at:len(b)-1]...)
		case 4:
			b[at] ^= 1 << r.IntN(8)
		}
	}
	return string(b)
}

func TestDecodeOfSpoiltPages(t *testing.T) {
	r := source()
	nodes, others := 0, 0
	for _, n := range samples() {
		page, e := node.Encode(n)
		if e != api.OK {
			continue
		}
		for range 40 {
			if decodes(t, spoilt(r, page)) {
				nodes++
			} else {
				others++
			}
		}
	}
	if nodes < 5000 || others < 5000 {
		t.Errorf("%d are nodes, %d are not", nodes, others)
	}
}

func TestDecodeOfEachOtherByte(t *testing.T) {
	for _, n := range samples()[:26] {
		page, e := node.Encode(n)
		if e != api.OK {
			continue
		}
		for at := range page {
			for _, b := range []byte{0, 1, 2, 3, 5, 39, 40, 41, 63, 64, 65, 127, 128, 129, 255, page[at] + 1, page[at] - 1} {
				decodes(t, page[:at]+string([]byte{b})+page[at+1:])
			}
		}
	}
}

func TestDecodeOfAnyBytes(t *testing.T) {
	r := source()
	for range 20000 {
		s := []byte(padded(someBytes(r, 232)))
		s[0] = byte(r.IntN(4))
		s[1] = byte(r.IntN(2) * r.IntN(256))
		s[2] = byte(r.IntN(5))
		decodes(t, string(s))
		decodes(t, padded(string(s[:8+r.IntN(20)])))
	}
}

// P8.4

func TestDecodeOfEncodeIsTheNode(t *testing.T) {
	for _, n := range samples() {
		page, e := node.Encode(n)
		if e != api.OK {
			continue
		}
		if got, e := node.Decode(page); !same(got, n) || e != api.OK {
			t.Fatalf("%s, not %s, %d", told(got), told(n), e)
		}
	}
}

// places: where each byte of these texts stands in memory, if it has any.
func places(list ...string) map[*byte]int {
	out := map[*byte]int{}
	for _, s := range list {
		for i := range len(s) {
			out[unsafe.StringData(s[i:])]++
		}
	}
	return out
}

func TestWhatIsAnsweredIsNewMemory(t *testing.T) {
	n := api.Node{Leaf: true, Keys: []string{"abc", "abd", "bcd", "key"}, Cells: []api.Cell{in("first value"), in("second value"), far(300, 9), in("first value")}}
	page, _ := node.Encode(n)
	again, _ := node.Encode(n)
	if unsafe.StringData(page) == unsafe.StringData(again) {
		t.Error("two pages of Encode are the same memory")
	}
	held := strings.Clone(page)
	first, _ := node.Decode(page)
	second, _ := node.Decode(page)
	list := []string{page}
	for _, n := range []api.Node{first, second} {
		list = append(list, n.Keys...)
		for _, c := range n.Cells {
			list = append(list, c.Data)
		}
	}
	for _, times := range places(list...) {
		if times > 1 {
			t.Fatal("what Decode answers shares memory")
		}
	}
	first.Keys[0], first.Cells[0] = "z", far(41, 1)
	first.Keys = append(first.Keys, "zz")
	inner, _ := node.Decode(padded(wantBytes(innerOf(5, "k", "l"))))
	inner.Kids[0], inner.Keys[0] = 77, "z"
	if third, _ := node.Decode(page); !same(third, n) || !same(second, n) || page != held {
		t.Error("an answer isn't as it was when another one has changed")
	}
	if fresh, _ := node.Decode(padded(wantBytes(innerOf(5, "k", "l")))); !same(fresh, innerOf(5, "k", "l")) {
		t.Error("an inner node that is answered is kept")
	}
}
