package mix_test

import (
	"strings"
	"testing"

	"cahier/mix"
)

// wantSum: the sum as the chapter words it, with 2^32 written out and the turn by products.
func wantSum(from uint64, s string) uint64 {
	const whole = 1 << 32
	a, b := from/whole, from%whole
	for len(s)%4 != 0 {
		s += "\x00"
	}
	for ; s != ""; s = s[4:] {
		x := uint64(s[0])*(1<<24) + uint64(s[1])*(1<<16) + uint64(s[2])*(1<<8) + uint64(s[3])
		a = (a + x + b) % whole
		b = (b + x + a) % whole
		b = b*128%whole + b*128/whole
	}
	return a*whole + b
}

// spread gives numbers that are the same in each run.
func spread(seed uint64) func() uint64 {
	return func() uint64 {
		seed = seed*6364136223846793005 + 1442695040888963407
		return seed ^ seed>>29
	}
}

// textOf: so many bytes, from next.
func textOf(next func() uint64, size int) string {
	out := make([]byte, size)
	for i := range out {
		out[i] = byte(next() >> 40)
	}
	return string(out)
}

// beginnings: the edges of both halves, and numbers spread between them.
func beginnings() []uint64 {
	list := []uint64{0, 1, 1<<32 - 1, 1 << 32, 1<<32 + 1, 1<<64 - 1<<32, 1<<64 - 1}
	for i := range 64 {
		list = append(list, 1<<i)
	}
	next := spread(3)
	for range 50 {
		list = append(list, next())
	}
	return list
}

// texts: of all lengths around the groups' edges, with bytes of all kinds.
func texts() []string {
	next := spread(5)
	list := []string{"\x80\x00\x00\x00", "\x00\x00\x00\x80", "\x7f\xff\xff\xff", "\xc3\xa9\x00\xff\xfe"}
	for size := range 41 {
		list = append(list, textOf(next, size), strings.Repeat("\x00", size), strings.Repeat("\xff", size))
	}
	for _, size := range []int{231, 232, 233, 255, 256, 257, 5000, 1 << 17} {
		list = append(list, textOf(next, size))
	}
	return list
}

func TestSumExamples(t *testing.T) {
	for _, c := range []struct {
		from uint64
		s    string
		want uint64
	}{
		{0, "\x00\x00\x00\x01", 1<<32 + 256},
		{0, "", 0},
		{1, "\x00\x00\x00\x00", 1<<32 + 256},
	} {
		if got := mix.Sum(c.from, c.s); got != c.want {
			t.Errorf("Sum(%x, %x): %x, not %x", c.from, c.s, got, c.want)
		}
	}
}

func TestSumOfOneGroup(t *testing.T) {
	for _, c := range []struct {
		from uint64
		s    string
		a, b uint64
	}{
		{0, "\x01\x02\x03\x04", 0x01020304, 0x02040608<<7&(1<<32-1) + 1},        // the highest byte is the first
		{0, "\x01", 0x01000000, 1},                                              // the missing ones are behind
		{0, "\x80\x00\x00\x00", 1 << 31, 0},                                     // the lower half goes round
		{1<<63 + 1<<31, "", 1 << 31, 1 << 31},                                   // nothing is turned
		{1<<63 + 1<<31, "\x00", 0, 1 << 6},                                      // the upper half goes round, the highest bit is turned
		{1<<64 - 1<<32, "\x00\x00\x00\x00", 1<<32 - 1, 1<<32 - 1},               // all bits of the upper half
		{1<<32 - 1, "\x00\x00\x00\x00", 1<<32 - 1, 0xffffff7f},                  // all bits of the lower half
		{5<<32 + 7, "\x00\x00\x00\x0b", 5 + 11 + 7, (7 + 11 + 5 + 11 + 7) << 7}, // the new upper half goes into the lower one
	} {
		if got, want := mix.Sum(c.from, c.s), c.a<<32+c.b; got != want {
			t.Errorf("Sum(%x, %x): %x, not %x", c.from, c.s, got, want)
		}
	}
}

func TestSumIsAsTheChapterWordsIt(t *testing.T) {
	for _, s := range texts() {
		starts := beginnings()
		if len(s) > 300 {
			starts = starts[:7]
		}
		for _, from := range starts {
			if got, want := mix.Sum(from, s), wantSum(from, s); got != want {
				t.Fatalf("Sum(%x, %d bytes %.40x): %x, not %x", from, len(s), s, got, want)
			}
		}
	}
}

func TestSumOfNothingIsItsBeginning(t *testing.T) {
	for _, from := range beginnings() {
		if got := mix.Sum(from, ""); got != from {
			t.Errorf("Sum(%x, nothing): %x", from, got)
		}
	}
}

func TestSumFillsTheLastGroupWithZeros(t *testing.T) {
	for _, s := range texts() {
		filled := s
		for len(filled)%4 != 0 {
			filled += "\x00"
			if got, want := mix.Sum(9, s), mix.Sum(9, filled); got != want {
				t.Fatalf("%d bytes: %x; %d bytes: %x", len(s), got, len(filled), want)
			}
		}
		if got := mix.Sum(9, filled+"\x00"); got == mix.Sum(9, s) {
			t.Fatalf("%d bytes: a group more is not told", len(s))
		}
	}
}

func TestSumGoesOnBehindWholeGroups(t *testing.T) {
	next := spread(7)
	for size := range 60 {
		s := textOf(next, size)
		for _, from := range beginnings() {
			want := mix.Sum(from, s)
			for cut := 0; cut <= size; cut += 4 {
				if got := mix.Sum(mix.Sum(from, s[:cut]), s[cut:]); got != want {
					t.Fatalf("%x, cut at %d from %x: %x, not %x", s, cut, from, got, want)
				}
			}
		}
	}
}

func TestSumTellsOneChangedBit(t *testing.T) {
	next := spread(11)
	for _, size := range []int{1, 2, 3, 4, 5, 7, 8, 9, 12, 232, 234} {
		s := textOf(next, size)
		for _, from := range []uint64{0, 1, 1<<64 - 1, next()} {
			sum := mix.Sum(from, s)
			for i := range size * 8 {
				other := []byte(s)
				other[i/8] ^= 1 << (i % 8)
				if mix.Sum(from, string(other)) == sum {
					t.Fatalf("%d bytes from %x: bit %d is not told", size, from, i)
				}
			}
		}
	}
}

func TestSumTellsOneChangedGroup(t *testing.T) {
	next := spread(13)
	for range 3000 {
		s := textOf(next, 1+int(next()>>33%40))
		at := int(next()>>33) % len(s) / 4 * 4
		end := min(at+4, len(s))
		other := s[:at] + textOf(next, end-at) + s[end:]
		from := next()
		if other != s && mix.Sum(from, other) == mix.Sum(from, s) {
			t.Fatalf("from %x: %x and %x have one sum", from, s, other)
		}
	}
}

func TestSumTellsUnlikeBeginnings(t *testing.T) {
	for _, s := range texts()[:80] {
		seen := map[uint64]uint64{}
		for _, from := range beginnings() {
			sum := mix.Sum(from, s)
			if other, ok := seen[sum]; ok && other != from {
				t.Fatalf("%x: from %x and from %x have one sum", s, from, other)
			}
			seen[sum] = from
		}
	}
}

func TestSumHangsOnItsArgumentsAlone(t *testing.T) {
	for _, s := range texts() {
		first := mix.Sum(17, s)
		mix.Sum(1<<64-1, "between")
		if again := mix.Sum(17, s); again != first {
			t.Fatalf("%d bytes: %x, then %x", len(s), first, again)
		}
	}
}
