package value_test

import (
	"math"
	"math/rand/v2"
	"slices"
	"strings"
	"testing"

	"cahier/api"
	"cahier/value"
)

func intOf(n int) api.Val { return api.Val{Kind: 1, N: n} }

func textOf(s string) api.Val { return api.Val{Kind: 2, S: s} }

func blobOf(s string) api.Val { return api.Val{Kind: 3, S: s} }

// source gives random numbers that are the same in each run.
func source() *rand.Rand { return rand.New(rand.NewPCG(6, 1)) }

// someBytes: up to most bytes of which many are those that are written in a way of their own, or beside them.
func someBytes(r *rand.Rand, most int) string {
	const odd = "\x00\x00\x01\x02\xfe\xff'\\\\x \x1f~\x7f\x800af"
	out := make([]byte, r.IntN(most+1))
	for i := range out {
		out[i] = byte(r.Uint32())
		if r.IntN(2) == 0 {
			out[i] = odd[r.IntN(len(odd))]
		}
	}
	return string(out)
}

// rising: good values in their order, written down by hand.
func rising() []api.Val {
	list := []api.Val{{}}
	for _, n := range []int{math.MinInt, math.MinInt + 1, math.MinInt32 - 1, math.MinInt32, -65537, -65536, -257, -256, -255, -129, -128, -12, -10, -9, -2, -1, 0, 1, 2, 9, 10, 12, 127, 128, 255, 256, 257, 65535, 65536, math.MaxInt32, math.MaxUint32, math.MaxUint32 + 1, math.MaxInt - 1, math.MaxInt} {
		list = append(list, intOf(n))
	}
	full := strings.Repeat("a", 1999)
	texts := []string{
		"", "\x00", "\x00\x00", "\x00\x00\x00", "\x00\x00\x01", "\x00\x01", "\x00\x01\x00", "\x00\x02", "\x00a", "\x00\xff", "\x00\xff\x00", "\x00\xff\xff",
		"\x01", "\x01\x00", "\x01\x01", "\x02", "'", "''", "A", "B", "\\", "\\00", "a", "a\x00", "a\x00\x00", "a\x00\x01", "a\x00b", "a\x00\xff", "a\x01", "a'", "aa",
		full, full + "\x00", full + "a", full + "b", full + "\xff", "ab", "a\xff", "b", "null", "\x7f", "\x80", "\xc3\xa9", "\xff", "\xff\x00", "\xff\x00\xff", "\xff\x01", "\xff\xff",
	}
	for _, of := range []func(string) api.Val{textOf, blobOf} {
		for _, s := range texts {
			list = append(list, of(s))
		}
	}
	return list
}

// samples: good values, those of rising and others.
func samples() []api.Val {
	list := append(rising(), textOf(strings.Repeat("\x00", 2000)), blobOf(strings.Repeat("'", 2000)), blobOf(strings.Repeat("\xff", 2000)), textOf("it's\n\\"))
	for b := range 256 {
		one := string([]byte{byte(b)})
		list = append(list, textOf(one), blobOf("a"+one), textOf("'"+one+"'"), blobOf("\x00"+one), textOf(strings.Repeat(one, 2000)))
	}
	r := source()
	for range 1000 {
		list = append(list, intOf(int(r.Uint64()>>r.UintN(64))), intOf(-int(r.Uint64()>>r.UintN(64))), textOf(someBytes(r, 12)), blobOf(someBytes(r, 40)))
	}
	for range 50 {
		list = append(list, textOf(someBytes(r, 2000)), blobOf(someBytes(r, 2000)))
	}
	return list
}

// bad: values that can't be.
func bad() []api.Val {
	long := strings.Repeat("x", 2001)
	list := []api.Val{
		{N: 1}, {N: -1}, {N: math.MinInt}, {S: "x"}, {S: "\x00"}, {N: 1, S: "x"},
		{Kind: 1, S: "x"}, {Kind: 1, N: 5, S: "5"}, {Kind: 1, N: -5, S: "\x00"}, {Kind: 1, S: long},
		{Kind: 2, N: 1}, {Kind: 2, N: -1, S: "a"}, {Kind: 2, N: math.MaxInt, S: "a"}, {Kind: 2, S: long}, {Kind: 2, S: long + long}, {Kind: 2, S: strings.Repeat("\x00", 2001)},
		{Kind: 3, N: 1}, {Kind: 3, N: -1, S: "a"}, {Kind: 3, N: math.MinInt, S: "a"}, {Kind: 3, S: long}, {Kind: 3, S: long + long}, {Kind: 3, S: strings.Repeat("'", 2001)},
		{S: long}, {Kind: 2, N: 1, S: long},
	}
	for _, kind := range []int{math.MinInt, math.MinInt32, -256, -255, -3, -2, -1, 4, 5, 255, 256, 257, 258, 259, 1 << 16, 1<<32 + 1, 1<<32 + 2, math.MaxInt} {
		list = append(list, api.Val{Kind: kind}, api.Val{Kind: kind, N: 1}, api.Val{Kind: kind, S: "a"})
	}
	return list
}

// P6.1

func TestGood(t *testing.T) {
	for _, v := range samples() {
		if !value.Good(v) {
			t.Fatalf("%d, %d, %q is good", v.Kind, v.N, v.S)
		}
	}
	for _, v := range bad() {
		if value.Good(v) {
			t.Errorf("%d, %d, %.10q isn't good", v.Kind, v.N, v.S)
		}
	}
	for size := 1990; size < 2010; size++ {
		for _, of := range []func(string) api.Val{textOf, blobOf} {
			if value.Good(of(strings.Repeat("\xff", size))) != (size <= 2000) {
				t.Errorf("%d bytes", size)
			}
		}
	}
}

func TestCompareRises(t *testing.T) {
	list := rising()
	for i, a := range list {
		for k, b := range list {
			want := 0
			if i < k {
				want = -1
			} else if i > k {
				want = 1
			}
			if got := value.Compare(a, b); got != want {
				t.Errorf("Compare(%d %d %.10q, %d %d %.10q): %d, not %d", a.Kind, a.N, a.S, b.Kind, b.N, b.S, got, want)
			}
		}
	}
}

// wantCompare: the order of good values, as the chapter words it.
func wantCompare(a, b api.Val) int {
	below := a.Kind < b.Kind
	if a.Kind == b.Kind {
		below = a.N < b.N || slices.Compare([]byte(a.S), []byte(b.S)) < 0
	}
	switch {
	case a == b:
		return 0
	case below:
		return -1
	}
	return 1
}

func TestCompareOfManyValues(t *testing.T) {
	list := samples()
	r := source()
	for _, a := range list {
		for range 40 {
			b := list[r.IntN(len(list))]
			if got := value.Compare(a, b); got != wantCompare(a, b) || value.Compare(b, a) != -got {
				t.Fatalf("Compare(%d %d %q, %d %d %q): %d", a.Kind, a.N, a.S, b.Kind, b.N, b.S, got)
			}
		}
		same := api.Val{Kind: a.Kind, N: a.N, S: strings.Clone(a.S)}
		if value.Compare(a, same) != 0 {
			t.Fatalf("%d %d %q isn't itself", a.Kind, a.N, a.S)
		}
	}
}

func TestCompareOfBadValues(t *testing.T) {
	goods := []api.Val{{}, intOf(math.MinInt), intOf(0), intOf(5), intOf(math.MaxInt), textOf(""), textOf("z"), blobOf(""), blobOf("z")}
	for _, a := range bad() {
		for _, b := range slices.Concat(goods, bad()) {
			if c, d := value.Compare(a, b), value.Compare(b, a); c != 0 || d != 0 {
				t.Errorf("%d %d %.10q and %d %d %.10q: %d, %d", a.Kind, a.N, a.S, b.Kind, b.N, b.S, c, d)
			}
		}
	}
}
