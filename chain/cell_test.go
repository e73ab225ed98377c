package chain_test

import (
	"maps"
	"slices"
	"strings"
	"testing"
	"unsafe"

	"cahier/api"
	"cahier/chain"
	"cahier/node"
	"cahier/shelf"
)

// P11.1

func TestExample(t *testing.T) {
	for _, c := range []struct{ size, pages int }{{227, 1}, {228, 2}} {
		s := shelf.New(100)
		cell, e := chain.Cell(s, strings.Repeat("v", c.size))
		list, f := chain.List(s, cell)
		if e != api.OK || f != api.OK || len(list) != c.pages || s.Head().Pages != c.pages+1 {
			t.Errorf("%d bytes: %d, %d, %d, %+v", c.size, list, e, f, s.Head())
		}
	}
}

func TestShortValuesStandInTheirCell(t *testing.T) {
	r := source()
	for size := range 41 {
		for _, value := range []string{someBytes(r, size), strings.Repeat("\x00", size), strings.Repeat("\xff", size)} {
			b := emptyBook()
			b.arm(1, api.ErrIO)
			c, e := chain.Cell(b, value)
			if c != (api.Cell{Size: size, Data: value}) || e != api.OK || len(b.log) != 0 {
				t.Errorf("Cell of %x: %+v, %d, asked %q", value, c, e, b.log)
			}
		}
	}
}

// lays asks that a long value is laid on New's pages, as many as it has parts, and on nothing else.
func lays(t *testing.T, value string, others map[int]string, fresh []int) {
	t.Helper()
	b := bookOf(others)
	b.fresh = fresh
	c, e := chain.Cell(b, value)
	if e != api.OK || c.Size != len(value) || c.Data != "" {
		t.Fatalf("Cell of %d bytes: %+v, %d", len(value), c, e)
	}
	_, list, e := wantRead(b.data, c)
	if e != api.OK || len(list) != pagesFor(len(value)) {
		t.Fatalf("the chain of %d bytes: %d, %d", len(value), list, e)
	}
	// All that was made is the chain's, and stands there to the letter.
	want := maps.Clone(others)
	maps.Copy(want, laid(value, list))
	if !maps.Equal(b.data, want) {
		t.Fatalf("%d bytes on %d: %x, not %x", len(value), list, b.data, want)
	}
	if !slices.Equal(slices.Sorted(slices.Values(list)), slices.Sorted(slices.Values(fresh[:len(list)]))) {
		t.Fatalf("%d bytes on %d, New answered %d", len(value), list, fresh[:len(list)])
	}
	for _, call := range b.log {
		if call != "new" && !strings.HasPrefix(call, "put ") {
			t.Fatalf("Cell of %d bytes asked %q", len(value), call)
		}
	}
}

func TestLongValuesAreLaidOnNewPages(t *testing.T) {
	r := source()
	for _, size := range edges() {
		if size <= 40 {
			continue
		}
		for _, value := range []string{someBytes(r, size), strings.Repeat("\x00", size), strings.Repeat("\xff", size), strings.Repeat("v", size-1) + "\x00"} {
			all := numbers(r, 30)
			lays(t, value, map[int]string{all[28]: noughts, all[29]: strings.Repeat("o", 232)}, all[:28])
		}
	}
	for size := 41; size <= 5000; size += 13 {
		lays(t, someBytes(r, size), map[int]string{}, numbers(r, 23))
	}
}

func TestPagesByHand(t *testing.T) {
	b := emptyBook(258)
	value := strings.Repeat("v", 41)
	c, e := chain.Cell(b, value)
	if c != (api.Cell{Size: 41, Page: 258}) || e != api.OK || b.data[258] != "\x03\x00\x00\x00\x00"+value+noughts[46:] {
		t.Errorf("41 bytes: %+v, %d, %x", c, e, b.data)
	}
	b = emptyBook(4095, 4095^1<<8)
	value = strings.Repeat("a", 227) + "b"
	c, e = chain.Cell(b, value)
	first, next := "\x03\x00\x00\x0e\xff"+value[:227], "\x03\x00\x00\x00\x00b"+noughts[6:]
	if c.Page == 4095^1<<8 {
		first = "\x03\x00\x00\x0f\xff" + value[:227]
	}
	if e != api.OK || c.Size != 228 || b.data[c.Page] != first || b.data[c.Page^1<<8] != next {
		t.Errorf("228 bytes: %+v, %d, %x", c, e, b.data)
	}
}

// The cell that is answered can stand in a leaf.
func TestCellsAreGood(t *testing.T) {
	s := shelf.New(4096)
	for _, size := range edges() {
		c, e := chain.Cell(s, strings.Repeat("v", size))
		if e != api.OK || !node.Good(api.Node{Leaf: true, Keys: []string{"k"}, Cells: []api.Cell{c}}) {
			t.Errorf("%d bytes: %+v, %d", size, c, e)
		}
	}
}

func TestValuesThatAreTooLong(t *testing.T) {
	for _, size := range []int{5001, 5002, 5221, 5222, 10000, 1<<16 + 1, 1<<16 + 41, 1 << 20} {
		for at := range 3 {
			b := emptyBook(1, 2, 3)
			b.arm(at, api.ErrIO)
			c, e := chain.Cell(b, strings.Repeat("v", size))
			if c != (api.Cell{}) || e != api.ErrLong || len(b.data) != 0 {
				t.Errorf("%d bytes: %+v, %d, %q", size, c, e, b.log)
			}
		}
	}
}

// Whichever call fails, its error is the answer, at once; nothing is freed.
func TestCellWhenPagesFail(t *testing.T) {
	r := source()
	for _, size := range []int{41, 227, 228, 455, 1000, 5000} {
		value := someBytes(r, size)
		count := 2 * pagesFor(size)
		for at := 1; at <= count+1; at++ {
			for _, err := range []api.Errno{api.ErrIO, api.ErrRoom, api.ErrBad, api.ErrArg, api.ErrLong, api.ErrNil, -1, 1 << 40} {
				b := emptyBook(numbers(r, 23)...)
				b.arm(at, err)
				c, e := chain.Cell(b, value)
				if at > count {
					if e != api.OK || c.Size != size || len(b.log) != count {
						t.Fatalf("%d bytes: %+v, %d, asked %q", size, c, e, b.log)
					}
					continue
				}
				if c != (api.Cell{}) || e != err || len(b.log) != at {
					t.Fatalf("%d bytes, call %d is %d: %+v, %d, asked %q", size, at, err, c, e, b.log)
				}
				for _, call := range b.log {
					if strings.HasPrefix(call, "free ") {
						t.Fatalf("%d bytes, call %d is %d: asked %q", size, at, err, b.log)
					}
				}
			}
		}
	}
}

func TestCellWithoutRoom(t *testing.T) {
	for _, size := range []int{41, 227, 228, 454, 455, 5000} {
		value := strings.Repeat("v", size)
		for room := range pagesFor(size) {
			s := shelf.New(room + 1)
			if c, e := chain.Cell(s, value); c != (api.Cell{}) || e != api.ErrRoom {
				t.Errorf("%d bytes, room for %d pages: %+v, %d", size, room, c, e)
			}
			// What was done till then stays.
			if h := s.Head(); h.Pages != room+1 || h.Spare != 0 {
				t.Errorf("%d bytes, room for %d pages: %+v", size, room, h)
			}
		}
		s := shelf.New(pagesFor(size) + 1)
		c, e := chain.Cell(s, value)
		if got, f := chain.Value(s, c); got != value || e != api.OK || f != api.OK {
			t.Errorf("%d bytes, just room for them: %d, %d", size, e, f)
		}
	}
	var none *shelf.Shelf
	if c, e := chain.Cell(none, strings.Repeat("v", 41)); c != (api.Cell{}) || e != api.ErrNil {
		t.Errorf("no shelf: %+v, %d", c, e)
	}
	if c, e := chain.Cell(none, "v"); c != (api.Cell{Size: 1, Data: "v"}) || e != api.OK {
		t.Errorf("no shelf, a short value: %+v, %d", c, e)
	}
}

// shares: whether two strings have memory in common.
func shares(a, b string) bool {
	if a == "" || b == "" {
		return false
	}
	from, to := uintptr(unsafe.Pointer(unsafe.StringData(a))), uintptr(unsafe.Pointer(unsafe.StringData(b)))
	return from < to+uintptr(len(b)) && to < from+uintptr(len(a))
}

func TestCellsAreNewMemory(t *testing.T) {
	for _, size := range []int{1, 2, 40} {
		value := strings.Repeat("v", size)
		if c, _ := chain.Cell(emptyBook(), value); c.Data != value || shares(c.Data, value) {
			t.Errorf("%d bytes: the cell's are the value's own", size)
		}
	}
	value := strings.Repeat("v", 500)
	b := emptyBook(1, 2, 3)
	chain.Cell(b, value)
	for n, page := range b.data {
		if shares(page, value) {
			t.Errorf("the page %d is the value's own memory", n)
		}
	}
}
