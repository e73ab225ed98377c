package spare_test

import (
	"encoding/binary"
	"math"
	"math/rand/v2"
	"slices"
	"strings"
	"testing"

	"cahier/api"
	"cahier/spare"
)

// wantGood: what a good trunk is, as the chapter words it.
func wantGood(t api.Trunk) bool {
	bad := func(n int) bool { return n < 1 || n > 4095 }
	return t.Next >= 0 && t.Next <= 4095 && len(t.List) <= 50 && !slices.ContainsFunc(t.List, bad)
}

// page: the bytes that would say this, good or not, with the given mark and number of pages.
func page(mark, count byte, next uint32, list ...uint32) string {
	out := binary.BigEndian.AppendUint32([]byte{mark}, next)
	out = append(out, count)
	for _, n := range list {
		out = binary.BigEndian.AppendUint32(out, n)
	}
	return string(append(out, make([]byte, max(0, 232-len(out)))...))
}

// pageOf: a good trunk's page, as the chapter words it.
func pageOf(t api.Trunk) string {
	list := make([]uint32, len(t.List))
	for i, n := range t.List {
		list[i] = uint32(n)
	}
	return page(4, byte(len(list)), uint32(t.Next), list...)
}

// wantTrunk: the trunk of a page, as the chapter words it; whether there is one.
func wantTrunk(s string) (api.Trunk, bool) {
	if len(s) != 232 || s[0] != 4 || s[5] > 50 {
		return api.Trunk{}, false
	}
	b := []byte(s)
	t := api.Trunk{Next: int(binary.BigEndian.Uint32(b[1:]))}
	b = b[6:]
	for range s[5] {
		t.List = append(t.List, int(binary.BigEndian.Uint32(b)))
		b = b[4:]
	}
	if strings.Trim(string(b), "\x00") != "" || !wantGood(t) {
		return api.Trunk{}, false
	}
	return t, true
}

// same: whether two trunks say the same.
func same(a, b api.Trunk) bool { return a.Next == b.Next && slices.Equal(a.List, b.List) }

// run: so many pages from one on.
func run(from, count int) []int {
	list := make([]int, count)
	for i := range list {
		list[i] = from + i
	}
	return list
}

// source gives random numbers that are the same in each run.
func source() *rand.Rand { return rand.New(rand.NewPCG(9, 1)) }

// samples: good trunks, ordinary ones, at each edge, and spread.
func samples() []api.Trunk {
	list := []api.Trunk{
		{},
		{Next: 1},
		{Next: 4095},
		{List: []int{1}},
		{List: []int{4095}},
		{Next: 258, List: []int{3, 4095}},
		{Next: 7, List: []int{7, 7, 7}},
		{Next: 4, List: []int{9, 1, 4095, 255, 256, 257}},
		{List: run(4046, 50)},
		{Next: 4095, List: run(1, 50)},
		{Next: 5, List: slices.Repeat([]int{4095}, 50)},
		{Next: 5, List: run(300, 49)},
	}
	r := source()
	for range 500 {
		t := api.Trunk{Next: r.IntN(4096)}
		for range r.IntN(51) {
			t.List = append(t.List, 1+r.IntN(4095))
		}
		list = append(list, t)
	}
	return list
}

// bad: trunks of which something is beyond its edge, also where the bytes kept of it would be right.
func bad() []api.Trunk {
	var list []api.Trunk
	beyond := []int{math.MinInt, math.MinInt + 1, -1 << 32, -4096, -1, 4096, 4097, 1 << 16, math.MaxInt32, 1<<32 - 1, 1<<32 + 1, math.MaxInt}
	for _, n := range append(beyond, 1<<32) {
		list = append(list, api.Trunk{Next: n}, api.Trunk{Next: n, List: []int{1, 2}})
	}
	for _, n := range append(beyond, 0, 1<<32) {
		for at := range 50 {
			t := api.Trunk{Next: 1, List: run(100, 50)}
			t.List[at] = n
			list = append(list, t)
		}
		list = append(list, api.Trunk{List: []int{n}})
	}
	for _, count := range []int{51, 52, 56, 57, 58, 255, 256, 257, 306, 5000} {
		list = append(list, api.Trunk{List: slices.Repeat([]int{1}, count)}, api.Trunk{Next: 9, List: make([]int, count)})
	}
	return list
}

// P9.1

func TestPagesByHand(t *testing.T) {
	for _, c := range []struct {
		trunk api.Trunk
		want  string
	}{
		{api.Trunk{}, "\x04\x00\x00\x00\x00\x00"},
		{api.Trunk{Next: 4095}, "\x04\x00\x00\x0f\xff\x00"},
		{api.Trunk{Next: 258, List: []int{3, 4095}}, "\x04\x00\x00\x01\x02\x02\x00\x00\x00\x03\x00\x00\x0f\xff"},
		{api.Trunk{List: slices.Repeat([]int{257}, 50)}, "\x04\x00\x00\x00\x00\x32" + strings.Repeat("\x00\x00\x01\x01", 50)},
	} {
		want := c.want + strings.Repeat("\x00", 232-len(c.want))
		if s, e := spare.Encode(c.trunk); s != want || e != api.OK {
			t.Errorf("Encode(%v): %x, %d", c.trunk, s, e)
		}
		if got, e := spare.Decode(want); !same(got, c.trunk) || e != api.OK {
			t.Errorf("Decode(%x): %v, %d", c.want, got, e)
		}
	}
}

func TestEncodeIsAsTheChapterWordsIt(t *testing.T) {
	for _, trunk := range samples() {
		if s, e := spare.Encode(trunk); s != pageOf(trunk) || e != api.OK {
			t.Fatalf("Encode(%v): %x, %d", trunk, s, e)
		}
		if got, e := spare.Decode(pageOf(trunk)); !same(got, trunk) || e != api.OK {
			t.Fatalf("Decode of the page of %v: %v, %d", trunk, got, e)
		}
	}
}

func TestEncodeRefusesBadTrunks(t *testing.T) {
	for _, trunk := range bad() {
		if s, e := spare.Encode(trunk); s != "" || e != api.ErrArg {
			t.Fatalf("Encode(%v): %x, %d", trunk, s, e)
		}
	}
}

func TestEncodeLeavesTheListAlone(t *testing.T) {
	room := run(10, 60)
	for count := range 60 {
		spare.Encode(api.Trunk{Next: 3, List: room[:count]})
	}
	if !slices.Equal(room, run(10, 60)) {
		t.Errorf("the list is now %v", room)
	}
}

// refuses asks that Decode answers an error, and nothing beside it.
func refuses(t *testing.T, what, s string, want api.Errno) {
	t.Helper()
	if got, e := spare.Decode(s); e != want || got.Next != 0 || len(got.List) != 0 {
		t.Errorf("Decode, %s, %x: %v, %d, not %d", what, s, got, e, want)
	}
}

func TestDecodeRefusesOtherLengths(t *testing.T) {
	s := pageOf(api.Trunk{Next: 2, List: []int{3}})
	for size := range 232 {
		refuses(t, "too few bytes", s[:size], api.ErrArg)
	}
	refuses(t, "a byte more", s+"\x00", api.ErrArg)
	refuses(t, "two pages", s+s, api.ErrArg)
	refuses(t, "a sector", s+strings.Repeat("\x00", 24), api.ErrArg)
	// Where both are wrong, the length is told.
	refuses(t, "too few other bytes", strings.Repeat("\xff", 231), api.ErrArg)
}

func TestDecodeRefusesOtherBytes(t *testing.T) {
	fifty := slices.Repeat([]uint32{1}, 50)
	for _, c := range []struct{ what, s string }{
		{"noughts", strings.Repeat("\x00", 232)},
		{"all bits", strings.Repeat("\xff", 232)},
		{"a leaf's mark", page(1, 0, 0)},
		{"an inner node's mark", page(2, 0, 0)},
		{"a chain's mark", page(3, 0, 0)},
		{"another mark", page(5, 1, 0, 1)},
		{"Next too great", page(4, 0, 4096)},
		{"Next far too great", page(4, 0, math.MaxUint32)},
		{"Next with a high byte", page(4, 0, 1<<24)},
		{"the page 0 in the list", page(4, 1, 5, 0)},
		{"the page 0 behind others", page(4, 3, 5, 1, 2, 0)},
		{"a page too great", page(4, 2, 5, 4096, 1)},
		{"a page far too great", page(4, 2, 5, 1, math.MaxUint32)},
		{"fewer in the list than told", page(4, 3, 5, 1, 2)},
		{"more in the list than told", page(4, 1, 5, 1, 2)},
		{"a list where none is told", page(4, 0, 5, 1)},
		{"51 pages", page(4, 51, 5, append(fifty, 1)...)},
		{"51 pages told, 50 there", page(4, 51, 5, fifty...)},
		{"56 pages", page(4, 56, 5, append(fifty, fifty[:6]...)...)},
		{"57 pages told, more than there is room for", page(4, 57, 5, append(fifty, fifty[:6]...)...)},
		{"255 pages told", page(4, 255, 5, append(fifty, fifty[:6]...)...)},
		{"a byte late", "\x00" + page(4, 1, 5, 1)[:231]},
		{"a byte early", page(4, 1, 5, 1)[1:] + "\x00"},
	} {
		refuses(t, c.what, c.s, api.ErrForm)
	}
}

// decodes asks what Decode answers of a page, and that Encode of it gives the page; whether it is a trunk's.
func decodes(t *testing.T, s string) bool {
	t.Helper()
	want, ok := wantTrunk(s)
	if !ok {
		refuses(t, "by the chapter's words", s, api.ErrForm)
		return false
	}
	got, e := spare.Decode(s)
	if e != api.OK || !same(got, want) {
		t.Fatalf("Decode(%x): %v, %d, not %v", s, got, e, want)
	}
	if again, e := spare.Encode(got); again != s || e != api.OK {
		t.Fatalf("Encode of Decode of %x: %x, %d", s, again, e)
	}
	return true
}

// Each byte of some pages is turned into each other one: what Decode still takes, Encode gives.
func TestEachByteCounts(t *testing.T) {
	taken, refused := 0, 0
	for _, trunk := range samples()[:12] {
		s := pageOf(trunk)
		for at := range s {
			for b := range 256 {
				if decodes(t, s[:at]+string([]byte{byte(b)})+s[at+1:]) {
					taken++
				} else {
					refused++
				}
			}
		}
	}
	if taken < 10000 || refused < 10000 {
		t.Errorf("%d taken, %d refused", taken, refused)
	}
}

func TestRandomPages(t *testing.T) {
	r := source()
	taken := 0
	for range 20000 {
		list := make([]uint32, r.IntN(54))
		for i := range list {
			list[i] = r.Uint32N(4099)
			if r.IntN(8) > 0 {
				list[i] = 1 + r.Uint32N(4095)
			}
		}
		count := byte(len(list))
		if r.IntN(8) == 0 {
			count = byte(r.Uint32())
		}
		if decodes(t, page(byte(4+r.IntN(9)/8), count, r.Uint32N(4100), list...)) {
			taken++
		}
	}
	if taken < 500 || taken > 15000 {
		t.Errorf("%d taken", taken)
	}
}

func TestDecodeAnswersNewMemory(t *testing.T) {
	s := pageOf(api.Trunk{Next: 9, List: run(1, 20)})
	first, _ := spare.Decode(s)
	second, _ := spare.Decode(s)
	for i := range first.List {
		first.List[i] = 77
	}
	_ = append(first.List[:0], slices.Repeat([]int{78}, cap(first.List))...)
	third, e := spare.Decode(s)
	for _, trunk := range []api.Trunk{second, third} {
		if e != api.OK || trunk.Next != 9 || !slices.Equal(trunk.List, run(1, 20)) {
			t.Errorf("behind a change of the first one: %v, %d", trunk, e)
		}
	}
}
