package head_test

import (
	"encoding/binary"
	"math"
	"math/rand/v2"
	"strings"
	"testing"

	"cahier/api"
	"cahier/head"
)

// fieldsEnd is where a head's noughts begin: behind the mark, five fields of 4 bytes and one of 8.
const fieldsEnd = 8 + 5*4 + 8

// wantFit: what a fit head is, as the chapter words it.
func wantFit(h api.Head) bool {
	switch {
	case h.Mode != 1 && h.Mode != 2:
		return false
	case h.Pages < 1, h.Pages > 4096:
		return false
	case h.Trunk < 0, h.Trunk > h.Pages-1, h.Root < 0, h.Root > h.Pages-1:
		return false
	case h.Spare < 0, h.Spare > h.Pages-1:
		return false
	case h.Trunk == 0:
		return h.Spare == 0
	}
	return h.Spare != 0
}

// page: the bytes that would say this, fit or not.
func page(mode, pages, trunk, spare, root uint32, change uint64) string {
	out := []byte("cahier01")
	for _, n := range []uint32{mode, pages, trunk, spare, root} {
		out = binary.BigEndian.AppendUint32(out, n)
	}
	out = binary.BigEndian.AppendUint64(out, change)
	return string(out) + strings.Repeat("\x00", api.Payload-len(out))
}

// pageOf: the same of a head, of each field but Change the last 4 bytes alone.
func pageOf(h api.Head) string {
	return page(uint32(h.Mode), uint32(h.Pages), uint32(h.Trunk), uint32(h.Spare), uint32(h.Root), h.Change)
}

// source gives random numbers that are the same in each run.
func source() *rand.Rand { return rand.New(rand.NewPCG(5, 1)) }

// samples: fit heads, ordinary ones, at each edge, and spread.
func samples() []api.Head {
	list := []api.Head{
		{Mode: 1, Pages: 1},
		{Mode: 2, Pages: 1},
		{Mode: 1, Pages: 1, Change: math.MaxUint64},
		{Mode: 1, Pages: 2, Root: 1},
		{Mode: 1, Pages: 2, Trunk: 1, Spare: 1},
		{Mode: 1, Pages: 2, Trunk: 1, Spare: 1, Root: 1},
		{Mode: 2, Pages: 300, Trunk: 7, Spare: 9, Root: 299, Change: 0x0102030405060708},
		{Mode: 1, Pages: 300, Trunk: 299, Spare: 1, Root: 0, Change: 1},
		{Mode: 1, Pages: 300, Trunk: 1, Spare: 299, Root: 2, Change: 1 << 63},
		{Mode: 2, Pages: 4095, Trunk: 4094, Spare: 4094, Root: 4094},
		{Mode: 1, Pages: 4096, Root: 4095},
		{Mode: 2, Pages: 4096, Trunk: 4095, Spare: 4095, Root: 4095, Change: math.MaxUint64},
	}
	r := source()
	for range 2000 {
		h := api.Head{Mode: 1 + r.IntN(2), Pages: 1 + r.IntN(4096), Change: r.Uint64() >> r.UintN(64)}
		h.Root = r.IntN(h.Pages)
		if h.Pages > 1 && r.IntN(3) > 0 {
			h.Trunk = 1 + r.IntN(h.Pages-1)
			h.Spare = 1 + r.IntN(h.Pages-1)
		}
		list = append(list, h)
	}
	return list
}

// unfit: heads of which something is beyond its edge.
func unfit() []api.Head {
	list := []api.Head{
		{},
		{Mode: 1},
		{Pages: 1},
		{Mode: 1, Pages: 1, Root: 1},
		{Mode: 1, Pages: 1, Trunk: 1, Spare: 1},
		{Mode: 1, Pages: 3, Trunk: 1},
		{Mode: 1, Pages: 3, Spare: 1},
		{Mode: 1, Pages: 3, Trunk: 2, Spare: 3},
		{Mode: 1, Pages: 3, Trunk: 3, Spare: 2},
		{Mode: 1, Pages: 3, Trunk: 2, Spare: 2, Root: 3},
		{Mode: 1, Pages: 4097, Root: 1},
		{Mode: 2, Pages: 4097, Trunk: 4096, Spare: 4096, Root: 4096},
		{Mode: 2, Pages: 4096, Trunk: 4096, Spare: 1},
		{Mode: 2, Pages: 4096, Trunk: 1, Spare: 4096},
		{Mode: 2, Pages: 4096, Root: 4096},
	}
	fit := api.Head{Mode: 2, Pages: 300, Trunk: 7, Spare: 9, Root: 299, Change: 5}
	for _, n := range []int{math.MinInt, math.MinInt + 1, -1 << 32, -1, 300, 301, 4096, 4097, math.MaxInt32, math.MaxInt32 + 1, 1<<32 - 1, 1 << 32, 1<<32 + 1, 1<<32 + 2, 1<<40 + 1, math.MaxInt} {
		for _, at := range []func(*api.Head) *int{
			func(h *api.Head) *int { return &h.Mode },
			func(h *api.Head) *int { return &h.Trunk },
			func(h *api.Head) *int { return &h.Spare },
			func(h *api.Head) *int { return &h.Root },
		} {
			h := fit
			*at(&h) = n
			list = append(list, h)
		}
	}
	for _, n := range []int{math.MinInt, -1 << 32, -1, 0, 1, 7, 9, 299, 4097, 1 << 20, 1<<32 + 300, math.MaxInt} {
		h := fit
		h.Pages = n
		list = append(list, h)
	}
	return list
}

// refuses asks that Decode answers an error, and nothing beside it.
func refuses(t *testing.T, what, s string, want api.Errno) {
	t.Helper()
	if h, e := head.Decode(s); h != (api.Head{}) || e != want {
		t.Errorf("Decode, %s: %+v, %d, not %d", what, h, e, want)
	}
}

// P5.1

func TestEncodeIsAsTheChapterWordsIt(t *testing.T) {
	for _, h := range samples() {
		if s, e := head.Encode(h); s != pageOf(h) || e != api.OK {
			t.Fatalf("Encode(%+v): %d, %x, not %x", h, e, s, pageOf(h))
		}
	}
}

func TestEncodeLaysTheFields(t *testing.T) {
	h := api.Head{Mode: 2, Pages: 0x0fa1, Trunk: 0x0102, Spare: 0x0304, Root: 0x0506, Change: 0x8122334455667788}
	want := "cahier01" + "\x00\x00\x00\x02" + "\x00\x00\x0f\xa1" + "\x00\x00\x01\x02" + "\x00\x00\x03\x04" + "\x00\x00\x05\x06" + "\x81\x22\x33\x44\x55\x66\x77\x88" + strings.Repeat("\x00", 196)
	if s, e := head.Encode(h); s != want || e != api.OK {
		t.Errorf("%x, %d", s, e)
	}
	if got, e := head.Decode(want); got != h || e != api.OK {
		t.Errorf("%+v, %d", got, e)
	}
}

func TestEncodeRefuses(t *testing.T) {
	for _, h := range unfit() {
		if s, e := head.Encode(h); s != "" || e != api.ErrArg {
			t.Errorf("Encode(%+v): %x, %d", h, s, e)
		}
	}
}

func TestDecodeTellsWhatAHeadSays(t *testing.T) {
	for _, h := range samples() {
		if got, e := head.Decode(pageOf(h)); got != h || e != api.OK {
			t.Fatalf("Decode: %+v, %d, not %+v", got, e, h)
		}
	}
}

func TestDecodeRefusesOtherLengths(t *testing.T) {
	s := page(2, 300, 7, 9, 299, 5)
	for _, size := range []int{0, 1, 7, 8, fieldsEnd - 1, fieldsEnd, fieldsEnd + 1, api.Payload - 1} {
		refuses(t, "too short", s[:size], api.ErrArg)
	}
	refuses(t, "its end alone", s[1:], api.ErrArg)
	refuses(t, "a nought more", s+"\x00", api.ErrArg)
	refuses(t, "a nought more ahead", "\x00"+s, api.ErrArg)
	refuses(t, "a byte more", s+"x", api.ErrArg)
	refuses(t, "a whole sector", s+strings.Repeat("\x00", api.Sector-api.Payload), api.ErrArg)
	refuses(t, "two of them", s+s, api.ErrArg)
	refuses(t, "noughts, one too few", strings.Repeat("\x00", api.Payload-1), api.ErrArg)
}

func TestDecodeRefusesUnfitHeads(t *testing.T) {
	for _, h := range unfit() {
		if !wantFit(inWords(h)) {
			refuses(t, "unfit", pageOf(h), api.ErrForm)
		}
	}
	for _, n := range []uint32{1 << 31, 1<<31 + 1, math.MaxUint32 - 1, math.MaxUint32, 1 << 24, 1 << 16, 5000} {
		refuses(t, "Mode", page(n, 300, 7, 9, 299, 5), api.ErrForm)
		refuses(t, "Pages", page(2, n, 7, 9, 299, 5), api.ErrForm)
		refuses(t, "Trunk", page(2, 300, n, 9, 299, 5), api.ErrForm)
		refuses(t, "Spare", page(2, 300, 7, n, 299, 5), api.ErrForm)
		refuses(t, "Root", page(2, 300, 7, 9, n, 5), api.ErrForm)
	}
}

// inWords: a head as its bytes would say it, of each field the last 4 bytes alone.
func inWords(h api.Head) api.Head {
	return api.Head{Mode: int(uint32(h.Mode)), Pages: int(uint32(h.Pages)), Trunk: int(uint32(h.Trunk)), Spare: int(uint32(h.Spare)), Root: int(uint32(h.Root)), Change: h.Change}
}

func TestDecodeRefusesOtherBytes(t *testing.T) {
	refuses(t, "noughts", strings.Repeat("\x00", api.Payload), api.ErrForm)
	refuses(t, "all bits", strings.Repeat("\xff", api.Payload), api.ErrForm)
	s := page(2, 300, 7, 9, 299, 5)
	refuses(t, "another mark", "cahier02"+s[8:], api.ErrForm)
	refuses(t, "a mark in capitals", "CAHIER01"+s[8:], api.ErrForm)
	refuses(t, "no mark", strings.Repeat("\x00", 8)+s[8:], api.ErrForm)
	refuses(t, "a byte late", "\x00"+s[:api.Payload-1], api.ErrForm)
	refuses(t, "a byte early", s[1:]+"\x00", api.ErrForm)
	r := source()
	for range 2000 {
		out := []byte(s[:8])
		for len(out) < api.Payload {
			out = append(out, byte(r.Uint32()))
		}
		refuses(t, "any bytes behind the mark", string(out), api.ErrForm)
	}
}

func TestEachByteOfMarkAndNoughtsCounts(t *testing.T) {
	for _, h := range samples()[:12] {
		s := pageOf(h)
		for at := range s {
			if at >= 8 && at < fieldsEnd {
				continue
			}
			for bit := range 8 {
				refuses(t, "a turned bit", s[:at]+string([]byte{s[at] ^ 1<<bit})+s[at+1:], api.ErrForm)
			}
		}
	}
}

// Of small numbers all heads are asked, fit and unfit.
func TestFitHeadsAlone(t *testing.T) {
	const side = 7 // each of the fields is from -1 to 5
	for i := range side * side * side * side * side {
		h := api.Head{Mode: i%side - 1, Pages: i/side%side - 1, Trunk: i/side/side%side - 1, Spare: i/side/side/side%side - 1, Root: i/side/side/side/side - 1, Change: uint64(i)}
		askFit(t, h)
	}
	for _, pages := range []int{4094, 4095, 4096, 4097, 4098} {
		for i := range 5 * 5 * 5 {
			near := [...]int{0, 1, pages - 2, pages - 1, pages}
			askFit(t, api.Head{Mode: 2, Pages: pages, Trunk: near[i%5], Spare: near[i/5%5], Root: near[i/25], Change: uint64(i)})
		}
	}
}

// askFit holds Encode and Decode to wantFit.
func askFit(t *testing.T, h api.Head) {
	t.Helper()
	s, e := head.Encode(h)
	got, de := head.Decode(pageOf(h))
	if wantFit(h) {
		if s != pageOf(h) || e != api.OK || got != h || de != api.OK {
			t.Fatalf("%+v is fit: %x, %d; %+v, %d", h, s, e, got, de)
		}
		return
	}
	if s != "" || e != api.ErrArg || got != (api.Head{}) || de != api.ErrForm {
		t.Fatalf("%+v isn't fit: %x, %d; %+v, %d", h, s, e, got, de)
	}
}

// P5.2

func TestFresh(t *testing.T) {
	if h := head.Fresh(); h != (api.Head{Mode: 1, Pages: 1}) {
		t.Errorf("%+v", h)
	}
	h := head.Fresh()
	h.Change, h.Root = 9, 1
	if again := head.Fresh(); again != (api.Head{Mode: api.ModeJournal, Pages: 1}) {
		t.Errorf("behind a change of the first one: %+v", again)
	}
	want := "cahier01" + "\x00\x00\x00\x01\x00\x00\x00\x01" + strings.Repeat("\x00", 216)
	if s, e := head.Encode(head.Fresh()); s != want || e != api.OK {
		t.Errorf("%x, %d", s, e)
	}
	refuses(t, "a nought turned at its end", want[:api.Payload-1]+"\x01", api.ErrForm)
}

// P5.3

func TestDecodeOfEncodeAndEncodeOfDecode(t *testing.T) {
	for _, h := range samples() {
		s, e := head.Encode(h)
		if e != api.OK {
			t.Fatalf("Encode(%+v): %d", h, e)
		}
		if got, e := head.Decode(s); got != h || e != api.OK {
			t.Fatalf("Decode of Encode: %+v, %d, not %+v", got, e, h)
		}
	}
}

// Each byte of a head is turned into each other one: what Decode still takes, Encode gives.
func TestWhatDecodeTakesEncodeGives(t *testing.T) {
	taken := 0
	for _, h := range samples()[4:8] {
		s := pageOf(h)
		for at := range s {
			for b := range 256 {
				other := s[:at] + string([]byte{byte(b)}) + s[at+1:]
				got, e := head.Decode(other)
				if e != api.OK {
					refuses(t, "turned", other, api.ErrForm)
					continue
				}
				taken++
				if again, e := head.Encode(got); again != other || e != api.OK {
					t.Fatalf("Encode of Decode: %x, %d, not %x", again, e, other)
				}
			}
		}
	}
	if taken == 0 {
		t.Error("no turned head was taken: those with another Change are fit")
	}
}
