package seal_test

import (
	"encoding/binary"
	"math"
	"math/bits"
	"math/rand/v2"
	"strings"
	"testing"
	"unsafe"

	"cahier/api"
	"cahier/seal"
)

const (
	maxWord = 1<<32 - 1
	sumAt   = 248
)

// sumOf: the sum of chapter 2 over whole groups.
func sumOf(from uint64, s string) uint64 {
	a, b := uint32(from>>32), uint32(from)
	for ; s != ""; s = s[4:] {
		x := binary.BigEndian.Uint32([]byte(s[:4]))
		a += x + b
		b = bits.RotateLeft32(b+x+a, 7)
	}
	return uint64(a)<<32 | uint64(b)
}

// wantSector: a sealed sector as the chapter words it.
func wantSector(s api.Sealed) string {
	out := []byte(s.Data)
	out = binary.BigEndian.AppendUint32(out, uint32(s.Kind))
	out = binary.BigEndian.AppendUint32(out, uint32(s.Number))
	out = binary.BigEndian.AppendUint64(out, s.Salt)
	return withSum(string(out), sumOf(1, string(out)))
}

// withSum: a sector's first bytes, and a sum behind them.
func withSum(summed string, sum uint64) string {
	return string(binary.BigEndian.AppendUint64([]byte(summed[:sumAt]), sum))
}

// source gives random numbers that are the same in each run.
func source() *rand.Rand { return rand.New(rand.NewPCG(4, 1)) }

func bytesOf(r *rand.Rand, size int) string {
	out := make([]byte, size)
	for i := range out {
		out[i] = byte(r.Uint32())
	}
	return string(out)
}

// samples: each part at its edges, then all of them spread.
func samples() []api.Sealed {
	r := source()
	data := bytesOf(r, api.Payload)
	list := []api.Sealed{
		{Data: strings.Repeat("\x00", api.Payload)},
		{Data: strings.Repeat("\xff", api.Payload), Kind: maxWord, Number: maxWord, Salt: math.MaxUint64},
		{Data: strings.Repeat("\x00", api.Payload), Kind: api.KindTop, Number: 1},
		{Data: strings.Repeat("\xc3\xa9", api.Payload/2), Kind: api.KindPage, Number: api.MaxPages},
	}
	for _, n := range []int{0, 1, 2, 3, 4, 5, 6, 7, 127, 128, 255, 256, 1<<16 - 1, 1 << 16, 1 << 24, math.MaxInt32, math.MaxInt32 + 1, maxWord - 1, maxWord} {
		list = append(list,
			api.Sealed{Kind: n, Data: data},
			api.Sealed{Number: n, Data: data},
			api.Sealed{Salt: uint64(n), Data: data},
			api.Sealed{Salt: ^uint64(n), Data: data})
	}
	for range 300 {
		list = append(list, api.Sealed{Kind: int(r.Uint32()), Number: int(r.Uint32()), Salt: r.Uint64(), Data: bytesOf(r, api.Payload)})
	}
	return list
}

func closed(t *testing.T, s api.Sealed) string {
	t.Helper()
	sector, e := seal.Close(s)
	if e != api.OK {
		t.Fatalf("Close(%+v): %d", s, e)
	}
	return sector
}

// refuses asks that Open answers an error, and nothing beside it.
func refuses(t *testing.T, what, sector string, want api.Errno) {
	t.Helper()
	if s, e := seal.Open(sector); s != (api.Sealed{}) || e != want {
		t.Errorf("Open, %s: %+v, %d, not %d", what, s, e, want)
	}
}

// P4.1

func TestCloseIsAsTheChapterWordsIt(t *testing.T) {
	for _, s := range samples() {
		sector, e := seal.Close(s)
		if e != api.OK || len(sector) != api.Sector || sector != wantSector(s) {
			t.Fatalf("Close(%+v): %d, %x, not %x", s, e, sector, wantSector(s))
		}
	}
}

func TestCloseLaysTheParts(t *testing.T) {
	s := api.Sealed{Kind: 0x0a0b0c0d, Number: 0xf1020304, Salt: 0x8122334455667788, Data: "<" + strings.Repeat("d", api.Payload-2) + ">"}
	sector := closed(t, s)
	want := s.Data + "\x0a\x0b\x0c\x0d" + "\xf1\x02\x03\x04" + "\x81\x22\x33\x44\x55\x66\x77\x88"
	if sector[:sumAt] != want {
		t.Errorf("%x, not %x", sector[:sumAt], want)
	}
	if sum := binary.BigEndian.Uint64([]byte(sector[sumAt:])); sum != sumOf(1, want) {
		t.Errorf("the sum is %x, not %x", sum, sumOf(1, want))
	}
}

func TestCloseRefuses(t *testing.T) {
	data := strings.Repeat("d", api.Payload)
	for _, n := range []int{-1, -2, math.MinInt, math.MinInt + 5, -maxWord, -maxWord - 1, maxWord + 1, maxWord + 2, 1 << 33, 1<<40 + 5, math.MaxInt} {
		for _, s := range []api.Sealed{
			{Kind: n, Data: data}, {Number: n, Data: data}, {Kind: n, Number: n, Data: data},
			{Kind: n, Number: 7, Salt: 9, Data: data}, {Kind: 7, Number: n, Salt: 9, Data: data}, {Kind: n, Data: data[1:]},
		} {
			if sector, e := seal.Close(s); sector != "" || e != api.ErrArg {
				t.Errorf("Close of Kind %d, Number %d: %x, %d", s.Kind, s.Number, sector, e)
			}
		}
	}
	for _, size := range []int{0, 1, api.Payload - 4, api.Payload - 1, api.Payload + 1, api.Payload + 4, sumAt, api.Sector, 2 * api.Payload, 5000} {
		if sector, e := seal.Close(api.Sealed{Kind: 1, Number: 1, Data: strings.Repeat("d", size)}); sector != "" || e != api.ErrArg {
			t.Errorf("Close of %d bytes: %x, %d", size, sector, e)
		}
	}
}

// P4.2

func TestOpenTellsWhatASectorSays(t *testing.T) {
	for _, s := range samples() {
		if got, e := seal.Open(wantSector(s)); got != s || e != api.OK {
			t.Fatalf("Open: %+v, %d, not %+v", got, e, s)
		}
	}
}

func TestOpenRefusesOtherLengths(t *testing.T) {
	sector := wantSector(samples()[0])
	for _, size := range []int{0, 1, 8, api.Payload, sumAt, api.Sector - 1} {
		refuses(t, "too short", sector[:size], api.ErrArg)
		refuses(t, "too short, its end alone", sector[api.Sector-size:], api.ErrArg)
	}
	refuses(t, "a byte more", sector+"\x00", api.ErrArg)
	refuses(t, "a byte more ahead", "\x00"+sector, api.ErrArg)
	refuses(t, "two of them", sector+sector, api.ErrArg)
	// Their last 8 bytes are the sum of what is ahead of them.
	for _, size := range []int{api.Sector - 4, api.Sector + 4, 8, 16} {
		summed := strings.Repeat("d", size-8)
		s := summed + string(binary.BigEndian.AppendUint64(nil, sumOf(1, summed)))
		refuses(t, "another length with its sum", s, api.ErrArg)
	}
}

func TestOpenRefusesAnotherSum(t *testing.T) {
	noughts := strings.Repeat("\x00", api.Sector)
	refuses(t, "noughts", noughts, api.ErrSeal)
	refuses(t, "all bits", strings.Repeat("\xff", api.Sector), api.ErrSeal)
	r := source()
	for range 200 {
		s := bytesOf(r, api.Sector)
		right := sumOf(1, s[:sumAt])
		if _, e := seal.Open(withSum(s, right)); e != api.OK {
			t.Fatalf("%x: %d", withSum(s, right), e)
		}
		refuses(t, "any bytes", s, api.ErrSeal)
		refuses(t, "the sum from 0 on", withSum(s, sumOf(0, s[:sumAt])), api.ErrSeal)
		refuses(t, "the sum over Data", withSum(s, sumOf(1, s[:api.Payload])), api.ErrSeal)
		refuses(t, "the halves of the sum", withSum(s, bits.RotateLeft64(right, 32)), api.ErrSeal)
		refuses(t, "the bytes of the sum", withSum(s, bits.ReverseBytes64(right)), api.ErrSeal)
		refuses(t, "one more", withSum(s, right+1), api.ErrSeal)
		refuses(t, "one less", withSum(s, right-1), api.ErrSeal)
		refuses(t, "the upper half is off", withSum(s, right+1<<32), api.ErrSeal)
		refuses(t, "no sum", withSum(s, 0), api.ErrSeal)
	}
}

// P4.3

func TestSumIsTheLastEightBytes(t *testing.T) {
	for _, s := range samples() {
		sector := wantSector(s)
		if got, want := seal.Sum(sector), sumOf(1, sector[:sumAt]); got != want {
			t.Fatalf("%x, not %x", got, want)
		}
	}
	for _, n := range []uint64{0, 1, 0x0102030405060708, 1 << 63, math.MaxUint64} {
		for _, fill := range []string{"\x00", "x", "\xff"} {
			if got := seal.Sum(withSum(strings.Repeat(fill, sumAt), n)); got != n {
				t.Errorf("%x, not %x", got, n)
			}
		}
	}
}

func TestSumOfWhatIsNoSector(t *testing.T) {
	for _, size := range []int{0, 1, 7, 8, 9, api.Payload, sumAt, api.Sector - 1, api.Sector + 1, 2 * api.Sector} {
		if got := seal.Sum(strings.Repeat("\xff", size)); got != 0 {
			t.Errorf("%d bytes: %x", size, got)
		}
	}
}

// P4.4

func TestOpenOfCloseAndCloseOfOpen(t *testing.T) {
	for _, s := range samples() {
		if got, e := seal.Open(closed(t, s)); got != s || e != api.OK {
			t.Fatalf("Open of Close: %+v, %d, not %+v", got, e, s)
		}
	}
	r := source()
	for range 500 {
		sector := bytesOf(r, api.Sector)
		sector = withSum(sector, sumOf(1, sector[:sumAt]))
		s, e := seal.Open(sector)
		if e != api.OK {
			t.Fatalf("Open(%x): %d", sector, e)
		}
		if got := closed(t, s); got != sector {
			t.Fatalf("Close of Open: %x, not %x", got, sector)
		}
	}
}

// changed: sectors that differ from one in four bytes at a place alone.
func changed(r *rand.Rand, sector string, at int) []string {
	old := binary.BigEndian.Uint32([]byte(sector[at : at+4]))
	news := []uint32{0, math.MaxUint32, ^old, old + 1, old - 1, bits.ReverseBytes32(old)}
	for i := range 32 {
		news = append(news, old^1<<i)
	}
	for _, some := range []uint32{0xff, 0xff00, 0xff0000, 0xff000000, 0xffff, 0xffff0000, 0xff0000ff, math.MaxUint32} {
		news = append(news, old^r.Uint32()&some)
	}
	list := []string{}
	for _, n := range news {
		if n != old {
			list = append(list, sector[:at]+string(binary.BigEndian.AppendUint32(nil, n))+sector[at+4:])
		}
	}
	return list
}

func TestFourChangedBytesAreTold(t *testing.T) {
	r := source()
	for _, s := range samples()[:40] {
		sector := closed(t, s)
		for at := 0; at < api.Sector; at += 4 {
			for _, other := range changed(r, sector, at) {
				if got, e := seal.Open(other); got != (api.Sealed{}) || e != api.ErrSeal {
					t.Fatalf("changed at %d: %+v, %d", at, got, e)
				}
			}
		}
	}
}

// The rules of all layers.

func TestAnswersAreNewMemory(t *testing.T) {
	sector := strings.Clone(wantSector(samples()[5]))
	s, e := seal.Open(sector)
	if e != api.OK {
		t.Fatal(e)
	}
	if unsafe.StringData(s.Data) == unsafe.StringData(sector) {
		t.Error("Data stands in the sector that was handed in")
	}
}

func TestAnswersHangOnTheArgumentsAlone(t *testing.T) {
	list := samples()
	for i, s := range list {
		first := closed(t, s)
		other := list[(i+1)%len(list)]
		closed(t, other)
		seal.Open(first[1:] + "x")
		if got, e := seal.Open(first); got != s || e != api.OK || closed(t, s) != first {
			t.Fatalf("sample %d is another one behind other calls", i)
		}
	}
}
