package row_test

import (
	"fmt"
	"math"
	"math/rand/v2"
	"slices"
	"strings"
	"testing"

	"cahier/api"
	"cahier/row"
	"cahier/value"
)

var null = api.Val{}

func intOf(n int) api.Val { return api.Val{Kind: 1, N: n} }

func textOf(s string) api.Val { return api.Val{Kind: 2, S: s} }

func blobOf(s string) api.Val { return api.Val{Kind: 3, S: s} }

// many: a row of so many times the same value.
func many(v api.Val, size int) api.Row { return slices.Repeat(api.Row{v}, size) }

// told: the beginning of what a row holds, for eyes.
func told(r api.Row) string { return fmt.Sprintf("%.80q", fmt.Sprint(r)) }

// source gives random numbers that are the same in each run.
func source() *rand.Rand { return rand.New(rand.NewPCG(7, 1)) }

// someBytes: up to most bytes of which many are those that are written in a way of their own, or beside them.
func someBytes(r *rand.Rand, most int) string {
	const odd = "\x00\x00\x01\x02\x03\x04\x10\x11\xff\x80'\\, ()x0-5"
	out := make([]byte, r.IntN(most+1))
	for i := range out {
		out[i] = byte(r.Uint32())
		if r.IntN(2) == 0 {
			out[i] = odd[r.IntN(len(odd))]
		}
	}
	return string(out)
}

// someValue: a good value of few bytes; one of four is one of few, so that rows begin alike.
func someValue(r *rand.Rand) api.Val {
	switch r.IntN(8) {
	case 0:
		return intOf(int(r.Uint64() >> r.UintN(64)))
	case 1:
		return intOf(-int(r.Uint64() >> r.UintN(64)))
	case 2:
		return textOf(someBytes(r, 9))
	case 3:
		return blobOf(someBytes(r, 9))
	}
	few := []api.Val{null, intOf(0), intOf(-1), textOf(""), textOf("a"), textOf("a\x00"), blobOf(""), blobOf("a")}
	return few[r.IntN(len(few))]
}

// someRow: a good row of so many values.
func someRow(r *rand.Rand, size int) api.Row {
	out := api.Row{}
	for range size {
		out = append(out, someValue(r))
	}
	return out
}

// rising: good rows in their order, written down by hand.
func rising() []api.Row {
	most := blobOf(strings.Repeat("\xff", 2000))
	return []api.Row{
		{}, {null}, {null, null}, {null, null, null}, many(null, 15), many(null, 16), append(many(null, 15), intOf(math.MinInt)), append(many(null, 15), most), append(many(null, 14), intOf(0)),
		{null, null, blobOf("")}, {null, intOf(-1)}, {null, intOf(0)}, {null, intOf(0), null}, {null, intOf(0), intOf(5)}, {null, intOf(1)}, {null, textOf("")}, {null, textOf(""), null}, {null, textOf("a")}, {null, blobOf("")}, {null, blobOf("a")},
		{intOf(math.MinInt)}, {intOf(math.MinInt), blobOf("b")}, {intOf(-300)}, {intOf(-12)}, {intOf(-9)}, {intOf(-1), blobOf("\xff")},
		{intOf(0)}, {intOf(0), null}, {intOf(0), null, null}, {intOf(0), intOf(0)}, {intOf(0), textOf("a")}, {intOf(0), textOf("a"), intOf(5)}, {intOf(0), textOf("aa")}, {intOf(0), textOf("b")}, {intOf(0), blobOf("")},
		{intOf(5)}, {intOf(5), intOf(-5)}, {intOf(5), intOf(4), intOf(9)}, {intOf(5), intOf(5)}, {intOf(12)}, {intOf(math.MaxInt)}, many(intOf(math.MaxInt), 16),
		{textOf("")}, {textOf(""), null}, {textOf(""), textOf("")}, {textOf("\x00")}, {textOf("\x00"), null}, {textOf("\x00\x01")}, {textOf("\x01")}, {textOf("a")}, {textOf("a"), null}, {textOf("a"), intOf(0)}, {textOf("a"), blobOf("")}, {textOf("a\x00")}, {textOf("a\x00"), null}, {textOf("aa")}, {textOf("b")}, {textOf("\xff")},
		{blobOf("")}, {blobOf(""), blobOf("")}, {blobOf("a")}, {blobOf("a"), textOf("b")}, {blobOf("b")}, {most}, {most, null}, many(most, 2), many(most, 15), many(most, 16),
	}
}

// samples: good rows, those of rising and others.
func samples() []api.Row {
	list := append(rising(), nil)
	for _, n := range []int{-8193, -8192, -129, -128, -65, -64, -63, 62, 63, 64, 127, 128, 8191, 8192, 16383, 16384, math.MinInt32, math.MaxInt32, math.MinInt + 1, math.MaxInt - 1} {
		list = append(list, api.Row{intOf(n)}, api.Row{null, intOf(n), textOf("x")})
	}
	for _, size := range []int{1, 2, 63, 64, 126, 127, 128, 129, 255, 256, 1999, 2000} {
		for _, s := range []string{"a", "\x00", "'", "\xff"} {
			long := strings.Repeat(s, size)
			list = append(list, api.Row{textOf(long)}, api.Row{blobOf(long), null}, api.Row{intOf(size), textOf(long), blobOf(long)})
		}
	}
	for b := range 256 {
		one := string([]byte{byte(b)})
		list = append(list, api.Row{textOf(one), blobOf(one), textOf("a" + one)})
	}
	r := source()
	for size := range 17 {
		list = append(list, many(null, size), many(intOf(size), size), many(textOf("a"), size), many(blobOf(""), size))
		for range 100 {
			list = append(list, someRow(r, size))
		}
	}
	return list
}

// badValues: values that can't be.
func badValues() []api.Val {
	long := strings.Repeat("x", 2001)
	list := []api.Val{{N: 1}, {S: "x"}, {Kind: 1, S: "x"}, {Kind: 2, N: 1}, {Kind: 2, S: long}, {Kind: 3, N: -1, S: "a"}, {Kind: 3, S: long}}
	for _, kind := range []int{math.MinInt, -256, -255, -1, 4, 5, 255, 256, 257, 258, 1 << 32, math.MaxInt} {
		list = append(list, api.Val{Kind: kind})
	}
	return list
}

// bad: rows that can't be.
func bad() []api.Row {
	list := []api.Row{many(null, 17), many(intOf(1), 17), many(textOf(""), 18), many(blobOf("a"), 32), many(null, 256), many(null, 257), many(null, 1<<16), many(api.Val{Kind: 9}, 17)}
	for _, v := range badValues() {
		for size := 1; size <= 16; size++ {
			for at := range size {
				if at < 2 || at > size-2 {
					r := many(intOf(3), size)
					r[at] = v
					list = append(list, r)
				}
			}
		}
		list = append(list, many(v, 16), many(v, 17))
	}
	return list
}

// stays asks whether a call leaves a row as it was handed in, and the spare room behind it too.
func stays(t *testing.T, name string, r api.Row, call func(api.Row)) {
	t.Helper()
	mark := api.Val{Kind: 77, N: 77, S: "spare"}
	room := append(slices.Clone(r), mark, mark)
	held := slices.Clone(room)
	call(room[:len(r)])
	if !slices.Equal(room, held) {
		t.Errorf("%s: a row of %d values isn't as it was", name, len(r))
	}
}

// P7.1

func TestGood(t *testing.T) {
	for _, r := range samples() {
		if !row.Good(r) {
			t.Fatalf("%s is good", told(r))
		}
	}
	for _, r := range bad() {
		if row.Good(r) {
			t.Errorf("%d values, %s: not good", len(r), told(r))
		}
	}
	for size := range 40 {
		if row.Good(many(textOf("a"), size)) != (size <= 16) {
			t.Errorf("%d values", size)
		}
	}
}

func TestCompareRises(t *testing.T) {
	list := rising()
	for i, a := range list {
		for k, b := range list {
			want := 0
			if i < k {
				want = -1
			} else if i > k {
				want = 1
			}
			if got := row.Compare(a, b); got != want {
				t.Errorf("Compare of %s and %s, %d, %d: %d, not %d", told(a), told(b), i, k, got, want)
			}
		}
	}
	if row.Compare(nil, api.Row{}) != 0 || row.Compare(nil, nil) != 0 || row.Compare(nil, api.Row{null}) != -1 || row.Compare(api.Row{null}, nil) != 1 {
		t.Error("the row of no values")
	}
}

// wantCompare: the order of good rows, as the chapter words it.
func wantCompare(a, b api.Row) int {
	for i := range min(len(a), len(b)) {
		if a[i] != b[i] {
			return value.Compare(a[i], b[i])
		}
	}
	switch {
	case len(a) < len(b):
		return -1
	case len(a) > len(b):
		return 1
	}
	return 0
}

func TestCompareOfManyRows(t *testing.T) {
	list := samples()
	r := source()
	for _, a := range list {
		for range 40 {
			b := list[r.IntN(len(list))]
			if got := row.Compare(a, b); got != wantCompare(a, b) || row.Compare(b, a) != -got {
				t.Fatalf("Compare of %s and %s: %d", told(a), told(b), got)
			}
		}
		if row.Compare(a, slices.Clone(a)) != 0 {
			t.Fatalf("%s isn't itself", told(a))
		}
		for size := range a {
			if row.Compare(a[:size], a) != -1 || row.Compare(a, a[:size]) != 1 {
				t.Fatalf("%s and its first %d values", told(a), size)
			}
		}
	}
}

func TestCompareOfBadRows(t *testing.T) {
	goods := []api.Row{nil, {null}, {intOf(3)}, {intOf(4)}, {textOf("z"), null}, many(blobOf("z"), 16)}
	for _, a := range bad() {
		for _, b := range append(slices.Clone(goods), a, many(null, 17), many(intOf(4), 17), api.Row{{Kind: 4}}) {
			if c, d := row.Compare(a, b), row.Compare(b, a); c != 0 || d != 0 {
				t.Errorf("%d values, %s, and %d: %d, %d", len(a), told(a), len(b), c, d)
			}
		}
	}
	// A value that can't be counts also behind the first ones that aren't the same.
	late := api.Row{intOf(1), {Kind: 4}}
	if row.Compare(late, api.Row{intOf(2)}) != 0 || row.Compare(api.Row{intOf(2)}, late) != 0 {
		t.Error("a bad value behind the place that tells")
	}
}

// P7.3

func TestKeysByHand(t *testing.T) {
	for _, c := range []struct {
		r    api.Row
		want string
	}{
		{nil, ""}, {api.Row{}, ""}, {api.Row{null}, "\x00"}, {api.Row{null, null}, "\x00\x00"},
		{api.Row{intOf(1)}, "\x01\x80\x00\x00\x00\x00\x00\x00\x01"},
		{api.Row{null, textOf("a")}, "\x00\x02a\x00\x01"},
		{api.Row{intOf(-1), blobOf("\x00"), null, textOf("")}, "\x01\x7f\xff\xff\xff\xff\xff\xff\xff\x03\x00\xff\x00\x01\x00\x02\x00\x01"},
		{many(textOf("b"), 16), strings.Repeat("\x02b\x00\x01", 16)},
	} {
		if got := row.Key(c.r); got != c.want {
			t.Errorf("Key of %s: %x, not %x", told(c.r), got, c.want)
		}
	}
}

func TestKeyIsTheKeysOfTheValues(t *testing.T) {
	for _, r := range samples() {
		want := ""
		for _, v := range r {
			want += value.Key(v)
		}
		if got := row.Key(r); got != want {
			t.Fatalf("Key of %s: %.60x, not %.60x", told(r), got, want)
		}
	}
	for _, r := range bad() {
		if got := row.Key(r); got != "" {
			t.Errorf("Key of %d values, %s: %.60x", len(r), told(r), got)
		}
	}
}

func TestRowsOfAsManyValuesStandAsTheirKeys(t *testing.T) {
	bySize := map[int][]api.Row{}
	for _, r := range samples() {
		bySize[len(r)] = append(bySize[len(r)], r)
	}
	asked := 0
	for size, list := range bySize {
		r := source()
		for i := range min(len(list)*20, 8000) {
			a, b := list[i%len(list)], list[r.IntN(len(list))]
			if got := strings.Compare(row.Key(a), row.Key(b)); got != wantCompare(a, b) || got != row.Compare(a, b) {
				t.Fatalf("%d values, %s and %s: %d", size, told(a), told(b), got)
			}
			asked++
		}
	}
	if len(bySize) != 17 || asked < 20000 {
		t.Errorf("asked of %d sizes, %d times", len(bySize), asked)
	}
}

// P7.5

func TestRowsStay(t *testing.T) {
	for _, r := range append(samples()[:60], bad()[:40]...) {
		stays(t, "Good", r, func(r api.Row) { row.Good(r) })
		stays(t, "Compare", r, func(r api.Row) { row.Compare(r, r) })
		stays(t, "Encode", r, func(r api.Row) { row.Encode(r) })
		stays(t, "Key", r, func(r api.Row) { row.Key(r) })
		stays(t, "Show", r, func(r api.Row) { row.Show(r) })
	}
}
