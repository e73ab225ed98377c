package chain_test

import (
	"fmt"
	"maps"
	"math"
	"slices"
	"strings"
	"testing"

	"cahier/api"
	"cahier/chain"
	"cahier/shelf"
)

// P11.2 and P11.3: what Value tells, List and Free tell too.

func TestShortValues(t *testing.T) {
	r := source()
	for size := range 41 {
		value := someBytes(r, size)
		reads(t, map[int]string{}, api.Cell{Size: size, Data: value}, value, nil, api.OK)
	}
	var none *shelf.Shelf
	if value, e := chain.Value(none, api.Cell{Size: 1, Data: "v"}); value != "v" || e != api.OK {
		t.Errorf("%q, %d", value, e)
	}
}

func TestLongValues(t *testing.T) {
	r := source()
	for _, size := range edges() {
		if size <= 40 {
			continue
		}
		for _, value := range []string{someBytes(r, size), strings.Repeat("\x00", size), strings.Repeat("\x03", size)} {
			all := numbers(r, 25)
			at := all[:pagesFor(size)]
			data := laid(value, at)
			data[all[24]] = strings.Repeat("o", 232)
			reads(t, data, api.Cell{Size: size, Page: at[0]}, value, at, api.OK)
		}
	}
}

func TestBadCells(t *testing.T) {
	long := strings.Repeat("v", 41)
	data := laid(long, []int{1})
	for _, c := range []api.Cell{
		{Size: -1}, {Size: math.MinInt}, {Size: -1, Page: 1}, {Size: -41, Page: 1}, {Size: -1, Data: "v"},
		{Size: 1}, {Data: "v"}, {Size: 2, Data: "v"}, {Size: 1, Data: "vv"}, {Size: 40, Data: long}, {Size: 40},
		{Page: 1}, {Size: 3, Data: "abc", Page: 1}, {Size: 3, Data: "abc", Page: -1}, {Size: 40, Page: 1}, {Page: 4096},
		{Size: 41}, {Size: 41, Page: -1}, {Size: 41, Page: 4096}, {Size: 41, Page: 1<<32 + 1}, {Size: 41, Page: math.MaxInt}, {Size: 41, Page: math.MinInt},
		{Size: 41, Data: long}, {Size: 41, Data: long, Page: 1}, {Size: 41, Data: "v", Page: 1}, {Size: 41, Data: "\x00", Page: 1},
		{Size: 5001, Page: 1}, {Size: 1<<32 + 41, Page: 1}, {Size: math.MaxInt, Page: 1}, {Size: 5001, Data: strings.Repeat("v", 5001)},
	} {
		reads(t, data, c, "", nil, api.ErrArg)
		// No page is asked: there may be none.
		b := bookOf(data)
		b.arm(1, api.ErrIO)
		if value, e := chain.Value(b, c); value != "" || e != api.ErrArg || len(b.log) != 0 {
			t.Errorf("Value of %+v: %q, %d, asked %q", c, value, e, b.log)
		}
	}
	reads(t, data, api.Cell{Size: 41, Page: 1}, long, []int{1}, api.OK)
}

// otherPages: pages that aren't a chain's.
func otherPages() map[string]string {
	return map[string]string{
		"noughts":       noughts,
		"a leaf":        "\x01\x00\x01\x01k\x01v" + noughts[7:],
		"an inner node": "\x02\x00\x01\x00\x00\x00\x05\x01k\x00\x00\x00\x06" + noughts[13:],
		"a trunk":       "\x04\x00\x00\x00\x00\x01\x00\x00\x00\x05" + noughts[10:],
		"a head":        "cahier01\x00\x00\x00\x01\x00\x00\x00\x01" + noughts[16:],
		"all 03":        strings.Repeat("\x03", 232),
		"a nought, 03":  "\x00\x03" + noughts[2:],
	}
}

func TestPagesThatAreNoChains(t *testing.T) {
	value := strings.Repeat("v", 681)
	at := []int{9, 3, 7}
	for what, page := range otherPages() {
		for i, n := range at {
			data := laid(value, at)
			data[n] = page
			// All 03 tells a next page, which there isn't.
			if what == "all 03" && i < 2 {
				reads(t, data, api.Cell{Size: 681, Page: 9}, "", nil, api.ErrPage)
				continue
			}
			reads(t, data, api.Cell{Size: 681, Page: 9}, "", nil, api.ErrBad)
			// What comes behind isn't asked any more.
			b := bookOf(data)
			chain.Value(b, api.Cell{Size: 681, Page: 9})
			if !slices.Equal(b.log, calls("get", at[:i+1])) {
				t.Errorf("%s at %d: asked %q", what, n, b.log)
			}
		}
	}
}

func TestFirstBytes(t *testing.T) {
	value := strings.Repeat("v", 300)
	at := []int{5, 6}
	for _, n := range at {
		for first := range 256 {
			data := laid(value, at)
			data[n] = string([]byte{byte(first)}) + data[n][1:]
			if first == 3 {
				reads(t, data, api.Cell{Size: 300, Page: 5}, value, at, api.OK)
			} else {
				reads(t, data, api.Cell{Size: 300, Page: 5}, "", nil, api.ErrBad)
			}
		}
	}
}

// A page that tells no next one ahead of the last part, or one on the last.
func TestChainsThatEndWrong(t *testing.T) {
	r := source()
	for _, size := range []int{41, 226, 227, 228, 454, 455, 681, 682, 5000} {
		value := someBytes(r, size)
		at := numbers(r, pagesFor(size)+1)
		at, other := at[:len(at)-1], at[len(at)-1]
		c := api.Cell{Size: size, Page: at[0]}
		for i, n := range at[:len(at)-1] {
			data := laid(value, at)
			data[n] = pageOf(0, value[227*i:227*i+227])
			reads(t, data, c, "", nil, api.ErrBad)
		}
		n := at[len(at)-1]
		last := partsOf(value)[len(at)-1]
		for _, next := range []uint32{1, 4095, uint32(at[0]), uint32(n), uint32(other), 4096, 1 << 24, math.MaxUint32} {
			data := laid(value, at)
			data[other] = pageOf(0, "o")
			data[n] = pageOf(next, last)
			reads(t, data, c, "", nil, api.ErrBad)
		}
	}
}

// Pages that lead back to themselves, or to ones ahead of them.
func TestChainsThatGoRound(t *testing.T) {
	r := source()
	for _, size := range []int{41, 228, 455, 681, 5000} {
		value := someBytes(r, size)
		at := numbers(r, pagesFor(size))
		for i := range at {
			for j := 0; j <= i; j++ {
				data := laid(value, at)
				data[at[i]] = data[at[i]][:1] + pageOf(uint32(at[j]), "")[1:5] + data[at[i]][5:]
				reads(t, data, api.Cell{Size: size, Page: at[0]}, "", nil, api.ErrBad)
			}
		}
	}
}

// A cell that tells another size than its chain has.
func TestSizesOfOtherChains(t *testing.T) {
	r := source()
	at := numbers(r, 23)
	for _, size := range []int{41, 100, 226, 227, 228, 454, 455, 5000} {
		value := "v" + strings.Repeat("\x00", size-2) + "v"
		data := laid(value, at)
		for _, other := range []int{41, size - 1, size + 1, size - 227, size + 227, 226, 227, 228, 454, 455, 4994, 4995, 5000} {
			if other < 41 || other > 5000 || other == size {
				continue
			}
			c := api.Cell{Size: other, Page: at[0]}
			// A chain doesn't tell how many noughts end its value.
			if other > size && pagesFor(other) == pagesFor(size) {
				reads(t, data, c, value+strings.Repeat("\x00", other-size), at[:pagesFor(size)], api.OK)
			} else {
				reads(t, data, c, "", nil, api.ErrBad)
			}
		}
	}
}

// Each byte of a chain turned: it is told, or is a byte of the value.
func TestEachByteOfAChain(t *testing.T) {
	r := source()
	for _, size := range []int{41, 226, 227, 228, 267, 454, 500} {
		value := someBytes(r, size)
		at := numbers(r, pagesFor(size))
		c := api.Cell{Size: size, Page: at[0]}
		for i, n := range at {
			part := len(partsOf(value)[i])
			for k := range 232 {
				data := laid(value, at)
				b := []byte(data[n])
				b[k] ^= 1 << r.IntN(8)
				data[n] = string(b)
				got, pages, e := wantRead(data, c)
				if (e == api.OK) != (k >= 5 && k < 5+part) {
					t.Fatalf("%d bytes, byte %d of page %d: %d", size, k, i, e)
				}
				reads(t, data, c, got, pages, e)
			}
		}
	}
}

// Numbers of pages that there aren't: the pages' own error, whatever number it is.
func TestChainsThatLeadNowhere(t *testing.T) {
	value := strings.Repeat("v", 681)
	at := []int{9, 3, 7}
	for _, next := range []uint32{1, 2, 4095, 4096, 1 << 16, 1<<16 + 3, 1 << 31, math.MaxUint32} {
		for i := range 2 {
			data := laid(value, at)
			data[at[i]] = pageOf(next, value[:227])
			reads(t, data, api.Cell{Size: 681, Page: 9}, "", nil, api.ErrPage)
			b := bookOf(data)
			chain.Value(b, api.Cell{Size: 681, Page: 9})
			if want := append(calls("get", at[:i+1]), fmt.Sprintf("get %d", next)); !slices.Equal(b.log, want) {
				t.Errorf("asked %q, not %q", b.log, want)
			}
		}
	}
	reads(t, laid(value, at), api.Cell{Size: 681, Page: 4095}, "", nil, api.ErrPage)
}

// Pages have 232 bytes; of pages with others nothing is read.
func TestPagesOfOtherLengths(t *testing.T) {
	value := strings.Repeat("v", 300)
	at := []int{5, 6}
	for _, n := range at {
		for _, size := range []int{0, 1, 4, 5, 77, 78, 231, 233, 256, 464} {
			data := laid(value, at)
			data[n] = (data[n] + noughts)[:size]
			reads(t, data, api.Cell{Size: 300, Page: 5}, "", nil, api.ErrBad)
		}
	}
}

// Whichever call fails, its error is the answer, at once.
func TestReadsWhenPagesFail(t *testing.T) {
	r := source()
	for _, size := range []int{41, 228, 455, 5000} {
		value := someBytes(r, size)
		at := numbers(r, pagesFor(size))
		data, c := laid(value, at), api.Cell{Size: size, Page: at[0]}
		all := append(calls("get", at), calls("free", at)...)
		for i := range all {
			for _, err := range []api.Errno{api.ErrIO, api.ErrPage, api.ErrBad, api.ErrSeal, api.ErrArg, -1, 1 << 40} {
				b := bookOf(data)
				b.arm(i+1, err)
				if e := chain.Free(b, c); e != err || !slices.Equal(b.log, all[:i+1]) {
					t.Fatalf("Free of %d bytes, call %d is %d: %d, asked %q", size, i, err, e, b.log)
				}
				if i >= len(at) {
					continue
				}
				b.arm(i+1, err)
				if got, e := chain.Value(b, c); got != "" || e != err || !slices.Equal(b.log, all[:i+1]) {
					t.Fatalf("Value of %d bytes, call %d is %d: %x, %d, asked %q", size, i, err, got, e, b.log)
				}
				b.arm(i+1, err)
				if list, e := chain.List(b, c); list != nil || e != err || !slices.Equal(b.log, all[:i+1]) {
					t.Fatalf("List of %d bytes, call %d is %d: %d, %d, asked %q", size, i, err, list, e, b.log)
				}
				if !maps.Equal(b.data, data) {
					t.Fatalf("%d bytes, call %d is %d: pages have changed", size, i, err)
				}
			}
		}
	}
	// What was freed till then stays so.
	b := bookOf(laid(strings.Repeat("v", 681), []int{9, 3, 7}))
	b.arm(5, api.ErrIO)
	if e := chain.Free(b, api.Cell{Size: 681, Page: 9}); e != api.ErrIO || b.data[9][0] != 4 || b.data[3][0] != 3 || b.data[7][0] != 3 {
		t.Errorf("%d, %x", e, b.data)
	}
}

func TestNoShelf(t *testing.T) {
	var none *shelf.Shelf
	c := api.Cell{Size: 41, Page: 1}
	if value, e := chain.Value(none, c); value != "" || e != api.ErrNil {
		t.Errorf("Value: %q, %d", value, e)
	}
	if list, e := chain.List(none, c); list != nil || e != api.ErrNil {
		t.Errorf("List: %d, %d", list, e)
	}
	if e := chain.Free(none, c); e != api.ErrNil {
		t.Errorf("Free: %d", e)
	}
}

func TestAnswersAreNewMemory(t *testing.T) {
	for _, size := range []int{1, 40, 41, 227, 228, 5000} {
		value := strings.Repeat("v", size)
		at := slices.Sorted(slices.Values(numbers(source(), 23)))
		c := api.Cell{Size: size, Page: at[0]}
		if size <= 40 {
			c = api.Cell{Size: size, Data: value}
		}
		b := bookOf(laid(value, at))
		first, _ := chain.Value(b, c)
		again, _ := chain.Value(b, c)
		if first != value || again != value || shares(first, again) || shares(first, c.Data) {
			t.Fatalf("%d bytes: memory of others", size)
		}
		for n, page := range b.data {
			if shares(first, page) {
				t.Errorf("%d bytes: memory of the page %d", size, n)
			}
		}
	}
	at := []int{9, 3, 7}
	b, c := bookOf(laid(strings.Repeat("v", 681), at)), api.Cell{Size: 681, Page: 9}
	first, _ := chain.List(b, c)
	first = append(first, 1)
	first[0] = 0
	if again, _ := chain.List(b, c); !slices.Equal(again, at) {
		t.Errorf("%d", again)
	}
}
