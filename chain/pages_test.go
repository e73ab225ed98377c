package chain_test

import (
	"encoding/binary"
	"maps"
	"math/rand/v2"
	"slices"
	"strconv"
	"strings"
	"testing"

	"cahier/api"
	"cahier/chain"
)

var noughts = strings.Repeat("\x00", 232)

// book is pages that take down how they are asked.
type book struct {
	data  map[int]string
	fresh []int     // what New answers, one by one
	fails int       // the call that fails, from 1 on; 0: none
	err   api.Errno // what it answers then
	log   []string
}

func (b *book) call(what string) api.Errno {
	b.log = append(b.log, what)
	if len(b.log) == b.fails {
		return b.err
	}
	return api.OK
}

func (b *book) Get(n int) (string, api.Errno) {
	if e := b.call("get " + strconv.Itoa(n)); e != api.OK {
		return "", e
	}
	page, ok := b.data[n]
	if !ok {
		return "", api.ErrPage
	}
	return page, api.OK
}

func (b *book) Put(n int, data string) api.Errno {
	if e := b.call("put " + strconv.Itoa(n)); e != api.OK {
		return e
	}
	if _, ok := b.data[n]; !ok {
		return api.ErrPage
	}
	b.data[n] = data
	return api.OK
}

func (b *book) New() (int, api.Errno) {
	if e := b.call("new"); e != api.OK {
		return 0, e
	}
	if len(b.fresh) == 0 {
		return 0, api.ErrRoom
	}
	n := b.fresh[0]
	b.fresh = b.fresh[1:]
	b.data[n] = noughts
	return n, api.OK
}

// Free leaves other bytes on the page, as it may.
func (b *book) Free(n int) api.Errno {
	if e := b.call("free " + strconv.Itoa(n)); e != api.OK {
		return e
	}
	b.data[n] = strings.Repeat("\x04", 232)
	return api.OK
}

// arm lets one call fail: which one from now on, and what it answers.
func (b *book) arm(at int, err api.Errno) {
	b.log, b.fails, b.err = nil, at, err
}

// bookOf: a book that holds pages, a copy of them.
func bookOf(data map[int]string) *book { return &book{data: maps.Clone(data)} }

// emptyBook: a book without pages, whose New answers these.
func emptyBook(fresh ...int) *book { return &book{data: map[int]string{}, fresh: fresh} }

// calls: the same call of each of a list.
func calls(what string, list []int) []string {
	var out []string
	for _, n := range list {
		out = append(out, what+" "+strconv.Itoa(n))
	}
	return out
}

// pageOf: a page of a chain, as the chapter words it.
func pageOf(next uint32, part string) string {
	out := binary.BigEndian.AppendUint32([]byte{3}, next)
	out = append(out, part...)
	return string(append(out, make([]byte, 232-len(out))...))
}

// partsOf: a value in parts of 227 bytes, the last one perhaps shorter.
func partsOf(value string) []string {
	var list []string
	for len(value) > 227 {
		list = append(list, value[:227])
		value = value[227:]
	}
	return append(list, value)
}

// laid: the pages of a value's chain, which goes over these numbers.
func laid(value string, at []int) map[int]string {
	data := map[int]string{}
	parts := partsOf(value)
	for i, part := range parts {
		next := 0
		if i+1 < len(parts) {
			next = at[i+1]
		}
		data[at[i]] = pageOf(uint32(next), part)
	}
	return data
}

// pagesFor: how many pages a long value of so many bytes has.
func pagesFor(size int) int { return (size + 226) / 227 }

// numbers: so many pages' numbers, all unlike, in any order; the ends among them where there is room.
func numbers(r *rand.Rand, count int) []int {
	list := r.Perm(4093)[:count]
	for i := range list {
		list[i] += 2
	}
	for i, end := range []int{4095, 1} {
		if i < count {
			list[i] = end
		}
	}
	r.Shuffle(count, func(i, j int) { list[i], list[j] = list[j], list[i] })
	return list
}

// wantRead: what a good cell stands for, and the pages of its chain, as the chapter words it.
func wantRead(data map[int]string, c api.Cell) (string, []int, api.Errno) {
	if c.Size <= 40 {
		return c.Data, nil, api.OK
	}
	value, pages, at := "", []int(nil), c.Page
	for left := c.Size; left > 0; {
		page, ok := data[at]
		if !ok {
			return "", nil, api.ErrPage
		}
		next := int(binary.BigEndian.Uint32([]byte(page[1:5])))
		part := page[5:]
		if left < 227 {
			part = page[5 : 5+left]
		}
		left -= len(part)
		last := left == 0
		if page[0] != 3 || last && next != 0 || !last && next == 0 || pageOf(uint32(next), part) != page {
			return "", nil, api.ErrBad
		}
		value += part
		pages = append(pages, at)
		at = next
	}
	return value, pages, api.OK
}

// reads asks what Value, List and Free answer of a cell, that Value and List only read, and that Free frees nothing beside an error.
func reads(t *testing.T, data map[int]string, c api.Cell, value string, pages []int, err api.Errno) {
	t.Helper()
	b := bookOf(data)
	if got, e := chain.Value(b, c); got != value || e != err {
		t.Fatalf("Value of %+v: %x, %d, not %x, %d", c, got, e, value, err)
	}
	asked := b.log
	b.log = nil
	if got, e := chain.List(b, c); !slices.Equal(got, pages) || e != err {
		t.Fatalf("List of %+v: %d, %d, not %d, %d", c, got, e, pages, err)
	}
	if !slices.Equal(b.log, asked) || !maps.Equal(b.data, data) {
		t.Fatalf("Value of %+v asked %q, List %q", c, asked, b.log)
	}
	if err == api.OK && !slices.Equal(asked, calls("get", pages)) {
		t.Fatalf("Value of %+v asked %q, not %d", c, asked, pages)
	}
	b.log = nil
	want := slices.Concat(asked, calls("free", pages))
	if e := chain.Free(b, c); e != err || !slices.Equal(b.log, want) {
		t.Fatalf("Free of %+v: %d, asked %q, not %d, %q", c, e, b.log, err, want)
	}
	if err != api.OK && !maps.Equal(b.data, data) {
		t.Fatalf("Free of %+v: %d, and has changed pages", c, err)
	}
}

// someBytes: so many, any, with noughts among them.
func someBytes(r *rand.Rand, size int) string {
	out := make([]byte, size)
	for i := range out {
		out[i] = byte(r.IntN(256))
		if r.IntN(9) == 0 {
			out[i] = byte(r.IntN(5))
		}
	}
	return string(out)
}

func source() *rand.Rand { return rand.New(rand.NewPCG(11, 227)) }

// edges: the sizes of values at which something changes.
func edges() []int {
	list := []int{0, 1, 2, 39, 40, 41, 42, 100, 127, 128, 4999, 5000}
	for parts := 1; parts <= 22; parts++ {
		list = append(list, 227*parts-1, 227*parts, 227*parts+1)
	}
	slices.Sort(list)
	return list
}
