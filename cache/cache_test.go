package cache_test

import (
	"math"
	"slices"
	"strings"
	"testing"
	"unsafe"

	"cahier/api"
	"cahier/cache"
)

// numbers are page numbers of all kinds: none is refused.
var numbers = []int{0, 1, -1, 2, 231, 232, 4095, 4096, 1 << 31, 1<<32 + 1, math.MaxInt, math.MinInt}

// puts puts a page, and asks which pages that answers.
func puts(t *testing.T, c *cache.Cache, n int, data string, dirty bool, want ...api.Page) {
	t.Helper()
	if got := c.Put(n, data, dirty); !slices.Equal(got, want) {
		t.Errorf("Put(%d, %q, %v): %v, not %v", n, data, dirty, got, want)
	}
}

// has asks that a page is at hand, which is a use of it.
func has(t *testing.T, c *cache.Cache, n int, want string) {
	t.Helper()
	if got, ok := c.Get(n); !ok || got != want {
		t.Errorf("Get(%d): %q, %v, not %q", n, got, ok, want)
	}
}

// lacks asks that pages aren't at hand.
func lacks(t *testing.T, c *cache.Cache, pages ...int) {
	t.Helper()
	for _, n := range pages {
		if got, ok := c.Get(n); ok || got != "" {
			t.Errorf("Get(%d): %q, %v", n, got, ok)
		}
	}
}

// dirty asks which pages are dirty.
func dirty(t *testing.T, c *cache.Cache, want ...api.Page) {
	t.Helper()
	if got := c.Dirty(); !slices.Equal(got, want) {
		t.Errorf("Dirty: %v, not %v", got, want)
	}
}

// counts asks how many pages are at hand.
func counts(t *testing.T, c *cache.Cache, want int) {
	t.Helper()
	if got := c.Len(); got != want {
		t.Errorf("Len: %d, not %d", got, want)
	}
}

// leave asks that these pages, all dirty, are those at hand, in the order in which they were used; none is at hand behind that.
func leave(t *testing.T, c *cache.Cache, size int, want ...api.Page) {
	t.Helper()
	counts(t, c, len(want))
	const others = 1 << 40
	for i := range size - len(want) {
		puts(t, c, others+i, "", false)
	}
	for i, page := range want {
		puts(t, c, others+size+i, "", false, page)
	}
	dirty(t, c)
	c.Clear()
}

// filled: a cache of so many pages, in which 1, 2 and so on are at hand, dirty, their bytes "1", "2" and so on.
func filled(t *testing.T, size int) *cache.Cache {
	t.Helper()
	c := cache.New(size)
	for n := 1; n <= size; n++ {
		puts(t, c, n, digit(n).Data, true)
	}
	return c
}

// digit: a page as filled puts it.
func digit(n int) api.Page { return api.Page{N: n, Data: string(rune('0' + n))} }

// P12.1: nothing is at hand.
func TestNewHoldsNothing(t *testing.T) {
	for _, size := range []int{math.MinInt, 0, 1, 2, 256, 257, math.MaxInt} {
		c := cache.New(size)
		lacks(t, c, numbers...)
		dirty(t, c)
		counts(t, c, 0)
	}
}

// P12.1: a size below 1 counts as 1, above 256 as that.
func TestSizes(t *testing.T) {
	for _, s := range [][2]int{
		{math.MinInt, 1}, {-1 << 32, 1}, {-256, 1}, {-1, 1}, {0, 1}, {1, 1},
		{2, 2}, {3, 3}, {100, 100}, {255, 255}, {256, 256},
		{257, 256}, {258, 256}, {512, 256}, {1<<32 + 1, 256}, {math.MaxInt, 256},
	} {
		c, size := cache.New(s[0]), s[1]
		for n := range 300 {
			if n < size {
				puts(t, c, n, "a", true)
			} else {
				puts(t, c, n, "a", true, api.Page{N: n - size, Data: "a"})
			}
			counts(t, c, min(n+1, size))
		}
	}
}

// P12.2: any number, any bytes, dirty or clean.
func TestPutAndGet(t *testing.T) {
	c := cache.New(256)
	for i, n := range numbers {
		for _, data := range []string{"a", "", "\x00", "\xff\xfe", strings.Repeat("p", 232), strings.Repeat("l", 1<<20)} {
			for _, isDirty := range []bool{true, false} {
				puts(t, c, n, data, isDirty)
				has(t, c, n, data)
				has(t, c, n, data)
				counts(t, c, i+1)
				if isDirty {
					dirty(t, c, api.Page{N: n, Data: data})
				} else {
					dirty(t, c)
				}
			}
		}
	}
}

// P12.2: a Get of a page is a use of it, whichever it is.
func TestGetIsUse(t *testing.T) {
	orders := map[int][]int{1: {2, 3, 4, 1}, 2: {1, 3, 4, 2}, 3: {1, 2, 4, 3}, 4: {1, 2, 3, 4}}
	for n, order := range orders {
		c := filled(t, 4)
		has(t, c, n, digit(n).Data)
		leave(t, c, 4, digit(order[0]), digit(order[1]), digit(order[2]), digit(order[3]))
	}
	c := filled(t, 4)
	for _, n := range []int{3, 1, 3, 2} {
		has(t, c, n, digit(n).Data)
	}
	leave(t, c, 4, digit(4), digit(1), digit(3), digit(2))
}

// P12.2: a Get of a page that isn't at hand does nothing.
func TestGetOfNoPage(t *testing.T) {
	c := filled(t, 3)
	lacks(t, c, 4, 0, -1, math.MaxInt, math.MinInt)
	leave(t, c, 3, digit(1), digit(2), digit(3))
}

// P12.2: a Put of a page at hand is a use of it; none has to go.
func TestPutIsUse(t *testing.T) {
	orders := map[int][]int{1: {2, 3, 1}, 2: {1, 3, 2}, 3: {1, 2, 3}}
	for n, order := range orders {
		c := filled(t, 3)
		puts(t, c, n, digit(n).Data, true)
		leave(t, c, 3, digit(order[0]), digit(order[1]), digit(order[2]))
	}
}

// P12.2: a page is dirty or clean as it was told last, whatever it was, and has the bytes that were told last.
func TestPutOverPut(t *testing.T) {
	for _, was := range []bool{false, true} {
		for _, is := range []bool{false, true} {
			c := cache.New(1)
			puts(t, c, 1, "a", was)
			puts(t, c, 1, "b", is)
			has(t, c, 1, "b")
			counts(t, c, 1)
			var want []api.Page
			if is {
				want = []api.Page{{N: 1, Data: "b"}}
			}
			dirty(t, c, want...)
			puts(t, c, 2, "c", true, want...)
		}
	}
}

// P12.2: the page used longest ago goes; it is answered if it was dirty, and only then.
func TestPagesThatGo(t *testing.T) {
	c := cache.New(3)
	puts(t, c, 1, "a", true)
	puts(t, c, 2, "b", false)
	puts(t, c, 3, "c", true)
	puts(t, c, 4, "d", false, api.Page{N: 1, Data: "a"})
	lacks(t, c, 1)
	puts(t, c, 5, "e", true)
	lacks(t, c, 1, 2)
	puts(t, c, 6, "f", true, api.Page{N: 3, Data: "c"})
	lacks(t, c, 1, 2, 3)
	has(t, c, 4, "d")
	puts(t, c, 7, "g", true, api.Page{N: 5, Data: "e"})
	dirty(t, c, api.Page{N: 6, Data: "f"}, api.Page{N: 7, Data: "g"})
	// A page that went comes again with what it is then told.
	puts(t, c, 5, "h", false, api.Page{N: 6, Data: "f"})
	has(t, c, 5, "h")
	puts(t, c, 5, "i", true)
	has(t, c, 4, "d")
	puts(t, c, 8, "", false, api.Page{N: 7, Data: "g"})
	puts(t, c, 9, "", false, api.Page{N: 5, Data: "i"})
	puts(t, c, 10, "", false)
	lacks(t, c, 4, 5, 7)
}

// P12.2: in a cache of one page, the one that is put is the one that stays.
func TestOnePage(t *testing.T) {
	c := cache.New(1)
	puts(t, c, 1, "a", true)
	puts(t, c, 1, "b", true)
	puts(t, c, 2, "c", true, api.Page{N: 1, Data: "b"})
	has(t, c, 2, "c")
	puts(t, c, 3, "d", false, api.Page{N: 2, Data: "c"})
	puts(t, c, 4, "e", true)
	leave(t, c, 1, api.Page{N: 4, Data: "e"})
}

// P12.3: a page that is cleaned stays, clean, till it is put dirty again.
func TestClean(t *testing.T) {
	c := filled(t, 3)
	c.Clean(2)
	dirty(t, c, digit(1), digit(3))
	c.Clean(2)
	c.Clean(1)
	dirty(t, c, digit(3))
	counts(t, c, 3)
	puts(t, c, 4, "4", true)
	lacks(t, c, 1)
	has(t, c, 2, "2")
	puts(t, c, 2, "x", true)
	dirty(t, c, api.Page{N: 2, Data: "x"}, digit(3), digit(4))
	c.Clean(4)
	dirty(t, c, api.Page{N: 2, Data: "x"}, digit(3))
	has(t, c, 4, "4")
}

// P12.3: Clean is no use of a page.
func TestCleanIsNoUse(t *testing.T) {
	for n := 1; n <= 3; n++ {
		c := filled(t, 3)
		c.Clean(n)
		for gone := 1; gone <= 3; gone++ {
			var want []api.Page
			if gone != n {
				want = []api.Page{digit(gone)}
			}
			puts(t, c, 3+gone, "", false, want...)
			lacks(t, c, gone)
		}
	}
}

// P12.3: Clean and Forget of a page that isn't at hand do nothing.
func TestCleanAndForgetOfNoPage(t *testing.T) {
	c := filled(t, 3)
	for _, n := range []int{4, 0, -1, 1<<32 + 1, math.MaxInt, math.MinInt} {
		c.Clean(n)
		c.Forget(n)
	}
	lacks(t, c, 4, 0)
	dirty(t, c, digit(1), digit(2), digit(3))
	leave(t, c, 3, digit(1), digit(2), digit(3))
	empty := cache.New(3)
	empty.Clean(1)
	empty.Forget(1)
	lacks(t, empty, 1)
	counts(t, empty, 0)
}

// P12.3: a page that is forgotten isn't at hand, is answered by nothing, and leaves room; the others stay in their order.
func TestForget(t *testing.T) {
	orders := map[int][]int{1: {2, 3, 4}, 2: {1, 3, 4}, 3: {1, 2, 4}, 4: {1, 2, 3}}
	for n, order := range orders {
		c := filled(t, 4)
		c.Forget(n)
		c.Forget(n)
		lacks(t, c, n)
		rest := []api.Page{digit(order[0]), digit(order[1]), digit(order[2])}
		dirty(t, c, rest...)
		counts(t, c, 3)
		puts(t, c, n, "x", true)
		leave(t, c, 4, append(rest, api.Page{N: n, Data: "x"})...)
	}
}

// P12.3: all pages can be forgotten, and others be put.
func TestForgetAll(t *testing.T) {
	for _, order := range [][]int{{1, 2, 3}, {3, 2, 1}, {2, 3, 1}} {
		c := filled(t, 3)
		for i, n := range order {
			c.Forget(n)
			counts(t, c, 2-i)
		}
		lacks(t, c, 1, 2, 3)
		dirty(t, c)
		puts(t, c, 1, "a", true)
		puts(t, c, 2, "b", true)
		leave(t, c, 3, api.Page{N: 1, Data: "a"}, api.Page{N: 2, Data: "b"})
	}
}

// P12.3: behind Clear nothing is at hand; the size stays.
func TestClear(t *testing.T) {
	c := filled(t, 3)
	puts(t, c, 2, "2", false)
	for range 2 {
		c.Clear()
		lacks(t, c, 0, 1, 2, 3)
		dirty(t, c)
		counts(t, c, 0)
	}
	for n := 4; n <= 6; n++ {
		puts(t, c, n, digit(n).Data, true)
		counts(t, c, n-3)
	}
	has(t, c, 4, "4")
	leave(t, c, 3, digit(5), digit(6), digit(4))
}

// P12.3: the dirty pages rise by their numbers, in whichever order they were put.
func TestDirtyRises(t *testing.T) {
	c := cache.New(256)
	rising := slices.Sorted(slices.Values(numbers))
	for _, n := range numbers {
		puts(t, c, n, "d", true)
		puts(t, c, n/2+77, "c", false)
	}
	for _, n := range numbers {
		puts(t, c, n, "d", true)
	}
	var want []api.Page
	for _, n := range rising {
		want = append(want, api.Page{N: n, Data: "d"})
	}
	dirty(t, c, want...)
	for i, n := range rising {
		c.Clean(n)
		dirty(t, c, want[i+1:]...)
	}
}

// P12.3: Dirty and Len are no use of a page, and clean none.
func TestDirtyAndLenChangeNothing(t *testing.T) {
	c := filled(t, 3)
	has(t, c, 1, "1")
	for range 3 {
		dirty(t, c, digit(1), digit(2), digit(3))
		counts(t, c, 3)
	}
	leave(t, c, 3, digit(2), digit(3), digit(1))
}

// P12.4: what is answered is new memory, and what is handed in isn't kept.
func TestMemory(t *testing.T) {
	c := cache.New(2)
	data := strings.Repeat("p", 232)
	seen := map[*byte]int{unsafe.StringData(data): 1}
	// The answers are held, so that no memory is used twice.
	var held [][]api.Page
	hold := func(pages ...api.Page) {
		for _, page := range pages {
			seen[unsafe.StringData(page.Data)]++
			if page.Data != data {
				t.Errorf("page %d: %q", page.N, page.Data)
			}
		}
		held = append(held, pages)
	}
	c.Put(1, data, true)
	c.Put(2, data, true)
	for range 2 {
		got, _ := c.Get(1)
		hold(api.Page{N: 1, Data: got})
		hold(c.Dirty()...)
	}
	hold(c.Put(3, data, true)...)
	hold(c.Put(4, data, true)...)
	if len(seen) != 9 || len(held) != 6 {
		t.Errorf("%d memories of 9 pages", len(seen))
	}
}

// P12.4: an answer that is written over changes neither the cache nor another answer.
func TestAnswersAreTheCallers(t *testing.T) {
	c := filled(t, 3)
	first, second := c.Dirty(), c.Dirty()
	for i := range first {
		first[i] = api.Page{N: -1, Data: "x"}
	}
	_ = append(first[:0], api.Page{N: -2, Data: "y"})
	if !slices.Equal(second, []api.Page{digit(1), digit(2), digit(3)}) {
		t.Errorf("the other answer: %v", second)
	}
	gone := c.Put(4, "4", true)
	for i := range gone {
		gone[i] = api.Page{N: 2, Data: "x"}
	}
	dirty(t, c, digit(2), digit(3), digit(4))
	leave(t, c, 3, digit(2), digit(3), digit(4))
}

// Two caches have nothing in common.
func TestTwoCaches(t *testing.T) {
	a, b := filled(t, 2), filled(t, 2)
	a.Forget(1)
	puts(t, a, 2, "x", false)
	b.Clean(2)
	has(t, a, 2, "x")
	lacks(t, a, 1)
	dirty(t, a)
	dirty(t, b, digit(1))
	a.Clear()
	counts(t, b, 2)
	has(t, b, 2, "2")
}

func TestNoCache(t *testing.T) {
	var c *cache.Cache
	for _, n := range numbers {
		for _, isDirty := range []bool{true, false} {
			puts(t, c, n, "a", isDirty)
		}
		lacks(t, c, n)
		c.Clean(n)
		c.Forget(n)
	}
	c.Clear()
	dirty(t, c)
	counts(t, c, 0)
}

// The chapter's example.
func TestExample(t *testing.T) {
	c := cache.New(2)
	puts(t, c, 1, "a", true)
	puts(t, c, 2, "b", false)
	has(t, c, 1, "a")
	puts(t, c, 3, "c", false)
	lacks(t, c, 2)
	puts(t, c, 4, "d", false, api.Page{N: 1, Data: "a"})
	lacks(t, c, 1, 2)
	has(t, c, 3, "c")
	has(t, c, 4, "d")
}
