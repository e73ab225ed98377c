package node_test

import (
	"fmt"
	"math"
	"math/rand/v2"
	"slices"
	"strings"
	"testing"

	"cahier/api"
	"cahier/node"
)

// in: the cell of a value that stands in its leaf.
func in(data string) api.Cell { return api.Cell{Size: len(data), Data: data} }

// far: the cell of a value whose chain begins at this page.
func far(size, page int) api.Cell { return api.Cell{Size: size, Page: page} }

// leafOf: a leaf of keys that have the same cell.
func leafOf(c api.Cell, keys ...string) api.Node {
	return api.Node{Leaf: true, Keys: keys, Cells: slices.Repeat([]api.Cell{c}, len(keys))}
}

// innerOf: an inner node of keys, that leads to the pages from a first one on.
func innerOf(first int, keys ...string) api.Node {
	n := api.Node{Keys: keys}
	for i := range len(keys) + 1 {
		n.Kids = append(n.Kids, first+i)
	}
	return n
}

// risingKeys: so many keys of so many bytes, at least 3.
func risingKeys(count, size int) []string {
	var out []string
	for i := range count {
		out = append(out, fmt.Sprintf("%03x", i)+strings.Repeat("k", size-3))
	}
	return out
}

// copyOf: a node that shares no list with this one.
func copyOf(n api.Node) api.Node {
	return api.Node{Leaf: n.Leaf, Keys: slices.Clone(n.Keys), Cells: slices.Clone(n.Cells), Kids: slices.Clone(n.Kids)}
}

// same: whether two nodes hold the same.
func same(a, b api.Node) bool {
	return a.Leaf == b.Leaf && slices.Equal(a.Keys, b.Keys) && slices.Equal(a.Cells, b.Cells) && slices.Equal(a.Kids, b.Kids)
}

// told: the beginning of what a node holds, for eyes.
func told(n api.Node) string { return fmt.Sprintf("%.160q", fmt.Sprintf("%+v", n)) }

// source gives random numbers that are the same in each run.
func source() *rand.Rand { return rand.New(rand.NewPCG(8, 1)) }

// someBytes: up to most bytes, many of which are near the ends of what a byte can be.
func someBytes(r *rand.Rand, most int) string {
	const odd = "\x00\x00\x01\x02\x28\x29\x40\x41\x7f\x80\xff"
	out := make([]byte, r.IntN(most+1))
	for i := range out {
		out[i] = byte(r.Uint32())
		if r.IntN(2) == 0 {
			out[i] = odd[r.IntN(len(odd))]
		}
	}
	return string(out)
}

// someCell: a good cell.
func someCell(r *rand.Rand) api.Cell {
	if r.IntN(3) == 0 {
		return far(41+r.IntN(5000-40), 1+r.IntN(4095))
	}
	return in(someBytes(r, 40))
}

// someNode: a good node of up to most keys of up to long bytes.
func someNode(r *rand.Rand, most, long int) api.Node {
	n := api.Node{Leaf: r.IntN(2) == 0}
	for range r.IntN(most + 1) {
		n.Keys = append(n.Keys, someBytes(r, long))
	}
	slices.Sort(n.Keys)
	n.Keys = slices.Compact(n.Keys)
	if len(n.Keys) == 0 {
		n.Leaf = true
	}
	if n.Leaf {
		for range n.Keys {
			n.Cells = append(n.Cells, someCell(r))
		}
		return n
	}
	for _, i := range r.Perm(4095)[:len(n.Keys)+1] {
		n.Kids = append(n.Kids, i+1)
	}
	return n
}

// samples: good nodes, those at the edges and others, most of them of no more bytes than a page has.
func samples() []api.Node {
	k64 := strings.Repeat("k", 64)
	v40 := strings.Repeat("v", 40)
	list := []api.Node{
		{Leaf: true}, {Leaf: true, Keys: []string{}, Cells: []api.Cell{}, Kids: []int{}},
		leafOf(in(""), ""), leafOf(in(""), "", "\x00", "\x00\x00", "a", "a\x00", "aa", "b", "\xff"),
		leafOf(in("v"), "k"), leafOf(in(v40), "k"), leafOf(in(strings.Repeat("\x00", 40)), "\x00"),
		leafOf(far(41, 1), "k"), leafOf(far(127, 1), "k"), leafOf(far(128, 4095), "k"), leafOf(far(5000, 4095), "k"), leafOf(far(300, 9), "a", "b", "c"),
		leafOf(in(""), k64), leafOf(in(v40), k64), leafOf(far(5000, 4095), "", k64),
		{Leaf: true, Keys: []string{"a", "b", "c"}, Cells: []api.Cell{in("x"), far(41, 2), in("")}, Kids: []int{}},
		innerOf(1, ""), innerOf(4094, "k"), innerOf(5, k64), innerOf(7, "", "a", "b"),
		{Keys: []string{"k"}, Kids: []int{4095, 1}}, {Keys: []string{"a", "b", "c"}, Kids: []int{9, 4095, 1, 256}, Cells: []api.Cell{}},
		// As many bytes as a page has, and one more.
		leafOf(in(strings.Repeat("v", 39)), risingKeys(4, 16)...), leafOf(in(v40), risingKeys(5, 4)...),
		{Leaf: true, Keys: []string{"a", "b", k64}, Cells: []api.Cell{in(v40), in(v40), in(v40)}},
	}
	r := source()
	for range 1500 {
		list = append(list, someNode(r, 4, 64), someNode(r, 12, 5), someNode(r, 30, 3))
	}
	return list
}

// great: good nodes of more bytes than a page has.
func great() []api.Node {
	list := []api.Node{
		leafOf(in(""), risingKeys(4, 56)...), innerOf(1, risingKeys(4, 60)...), innerOf(1, risingKeys(4094, 3)...),
		leafOf(in(""), risingKeys(4095, 3)...), leafOf(far(5000, 9), risingKeys(60, 3)...), leafOf(in(strings.Repeat("v", 40)), risingKeys(6, 3)...),
	}
	for size := 230; size < 236; size++ {
		list = append(list, ofSize(size))
	}
	var keys []string
	for i := range 1<<16 + 2 {
		keys = append(keys, fmt.Sprintf("%05x", i))
	}
	return append(list, leafOf(in(""), keys[:1<<16-1]...), leafOf(in(""), keys[:1<<16]...), leafOf(in("v"), keys...))
}

// ofSize: a leaf of so many bytes, from 190 on.
func ofSize(size int) api.Node {
	n := leafOf(in(strings.Repeat("v", 40)), "a", "b", "c", "d")
	n.Keys[3] = "d" + strings.Repeat("k", size-3-4*43)
	return n
}

// wantGood: what a good node is, as the chapter words it.
func wantGood(n api.Node) bool {
	for i, k := range n.Keys {
		if len(k) > 64 || i > 0 && strings.Compare(n.Keys[i-1], k) != -1 {
			return false
		}
	}
	if n.Leaf {
		for _, c := range n.Cells {
			inline := c.Size >= 0 && c.Size <= 40 && len(c.Data) == c.Size && c.Page == 0
			chain := c.Size >= 41 && c.Size <= 5000 && c.Data == "" && c.Page >= 1 && c.Page <= 4095
			if !inline && !chain {
				return false
			}
		}
		return len(n.Keys) == len(n.Cells) && len(n.Kids) == 0
	}
	seen := map[int]int{}
	for _, kid := range n.Kids {
		seen[kid]++
		if kid < 1 || kid > 4095 || seen[kid] > 1 {
			return false
		}
	}
	return len(n.Keys) >= 1 && len(n.Kids) == len(n.Keys)+1 && len(n.Cells) == 0
}

// badCells: cells that can't be.
func badCells() []api.Cell {
	v40, v41 := strings.Repeat("v", 40), strings.Repeat("v", 41)
	list := []api.Cell{
		{Size: 1}, {Data: "v"}, {Size: 2, Data: "v"}, {Size: 1, Data: "vv"}, {Size: 39, Data: v40}, {Size: 40, Data: v41}, {Size: 40}, {Size: 40, Page: 1}, {Page: 1}, {Page: -1}, {Size: 1, Data: "v", Page: 1}, {Size: 40, Data: v40, Page: 4095},
		in(v41), {Size: 41, Data: v41, Page: 1}, {Size: 41, Data: "v", Page: 1}, {Size: 41}, {Size: 5000}, {Size: 5001, Page: 1}, {Size: 5001}, in(strings.Repeat("v", 5000)), in(strings.Repeat("v", 5001)),
	}
	for _, n := range []int{math.MinInt, math.MinInt + 1, math.MinInt + 5, -1 << 32, -1<<32 + 1, -4096, -256, -1, 5001, 5002, 1 << 32, 1<<32 + 1, 1<<32 + 41, 1 << 62, math.MaxInt} {
		list = append(list, api.Cell{Size: n}, api.Cell{Size: n, Data: "v"}, far(n, 1))
	}
	for _, page := range badPages() {
		list = append(list, far(41, page), far(5000, page))
		if page != 0 {
			list = append(list, api.Cell{Size: 1, Data: "v", Page: page})
		}
	}
	return list
}

// badPages: numbers of pages to which a node can't lead.
func badPages() []int {
	return []int{math.MinInt, -1 << 32, -1<<32 + 1, -4095, -1, 0, 4096, 4097, 1 << 16, 1<<16 + 1, math.MaxUint32, 1 << 32, 1<<32 + 1, 1<<32 + 4095, math.MaxInt}
}

// badKeys: lists of keys that don't rise, or have one that is too long.
func badKeys() [][]string {
	k64 := strings.Repeat("k", 64)
	list := [][]string{
		{"", ""}, {"a", "a"}, {"b", "a"}, {"a", ""}, {"a\x00", "a"}, {"aa", "a"}, {"a", "b", "b"}, {"a", "c", "b"}, {"b", "a", "c"}, {"a", "a", "c"}, {"\xff", "\x7f"}, {k64, k64},
		{k64 + "k"}, {"", k64 + "\x00"}, {k64 + "k", "z"}, {"a", k64 + "k", "z"}, {k64, k64 + "k"}, {strings.Repeat("k", 128)}, {strings.Repeat("k", 320)}, {strings.Repeat("k", 256+5)}, {strings.Repeat("\x00", 1<<16)},
	}
	for at := range 9 {
		keys := risingKeys(10, 5)
		keys[at], keys[at+1] = keys[at+1], keys[at]
		twice := risingKeys(10, 5)
		twice[at] = twice[at+1]
		long := risingKeys(10, 5)
		long[at] += strings.Repeat("k", 60)
		list = append(list, keys, twice, long)
	}
	return list
}

// bad: nodes that can't be.
func bad() []api.Node {
	list := []api.Node{
		{}, {Keys: []string{"a"}}, {Kids: []int{1}}, {Kids: []int{1, 2}}, {Cells: []api.Cell{in("")}}, {Keys: []string{"a"}, Cells: []api.Cell{in("")}}, {Keys: []string{"a"}, Cells: []api.Cell{in("")}, Kids: []int{1, 2}}, {Keys: []string{"a"}, Kids: []int{1}}, {Keys: []string{"a"}, Kids: []int{1, 2, 3}}, {Keys: []string{"a", "b"}, Kids: []int{1, 2}},
		{Leaf: true, Keys: []string{"a"}}, {Leaf: true, Cells: []api.Cell{in("")}}, {Leaf: true, Keys: []string{"a"}, Cells: []api.Cell{in(""), in("")}}, {Leaf: true, Keys: []string{"a", "b"}, Cells: []api.Cell{in("")}}, {Leaf: true, Kids: []int{1}}, {Leaf: true, Kids: []int{0}}, {Leaf: true, Keys: []string{"a"}, Cells: []api.Cell{in("")}, Kids: []int{1, 2}}, {Leaf: true, Keys: []string{"a"}, Kids: []int{1, 2}},
		innerOf(1, risingKeys(4095, 3)...), {Keys: risingKeys(4096, 4), Kids: slices.Repeat([]int{1, 2}, 2049)[:4097]}, {Keys: []string{"a"}, Kids: []int{5, 5}}, {Keys: []string{"a", "b"}, Kids: []int{5, 6, 5}}, {Keys: []string{"a", "b"}, Kids: []int{6, 5, 5}}, {Keys: []string{"a", "b", "c"}, Kids: []int{5, 6, 7, 5}},
	}
	for _, keys := range badKeys() {
		list = append(list, leafOf(in("v"), keys...), innerOf(1, keys...))
	}
	for _, c := range badCells() {
		list = append(list, leafOf(c, "a"), leafOf(c, "a", "b"))
		for at := range 3 {
			n := leafOf(in("v"), "a", "b", "c")
			n.Cells[at] = c
			list = append(list, n)
		}
	}
	for _, page := range badPages() {
		for at := range 4 {
			n := innerOf(3, "a", "b", "c")
			n.Kids[at] = page
			list = append(list, n)
		}
	}
	return list
}

// stays asks whether a call leaves a node as it was handed in, and the spare room behind its lists too.
func stays(t *testing.T, name string, n api.Node, call func(api.Node)) {
	t.Helper()
	room := api.Node{Leaf: n.Leaf, Keys: append(slices.Clone(n.Keys), "spare", "room"), Cells: append(slices.Clone(n.Cells), far(77, 7), far(78, 8)), Kids: append(slices.Clone(n.Kids), 77, 7, 7)}
	held := copyOf(room)
	call(api.Node{Leaf: n.Leaf, Keys: room.Keys[:len(n.Keys)], Cells: room.Cells[:len(n.Cells)], Kids: room.Kids[:len(n.Kids)]})
	if !same(room, held) {
		t.Errorf("%s: %s isn't as it was", name, told(n))
	}
}

// P8.1

func TestGood(t *testing.T) {
	for _, n := range append(samples(), great()...) {
		if !node.Good(n) || !wantGood(n) {
			t.Fatalf("%s is good", told(n))
		}
	}
	for _, n := range bad() {
		if node.Good(n) || wantGood(n) {
			t.Errorf("%s isn't good", told(n))
		}
	}
}

// TestGoodOfChangedNodes: good nodes of which one thing is another, by the chapter's words.
func TestGoodOfChangedNodes(t *testing.T) {
	r := source()
	numbers := append(badPages(), 1, 2, 3, 39, 40, 41, 42, 4094, 4095, 4999, 5000, 5001)
	goods := 0
	for range 20000 {
		n := someNode(r, 5, 3)
		switch at := r.IntN(8); {
		case at == 0:
			n.Leaf = !n.Leaf
		case at == 1 && len(n.Keys) > 0:
			n.Keys[r.IntN(len(n.Keys))] = someBytes(r, 3)
		case at == 2 && len(n.Cells) > 0:
			n.Cells[r.IntN(len(n.Cells))].Size = numbers[r.IntN(len(numbers))]
		case at == 3 && len(n.Cells) > 0:
			n.Cells[r.IntN(len(n.Cells))].Page = numbers[r.IntN(len(numbers))]
		case at == 4 && len(n.Cells) > 0:
			n.Cells[r.IntN(len(n.Cells))].Data = someBytes(r, 42)
		case at == 5 && len(n.Kids) > 0:
			n.Kids[r.IntN(len(n.Kids))] = numbers[r.IntN(len(numbers))]
		case at == 6 && len(n.Kids) > 0:
			n.Kids[r.IntN(len(n.Kids))] = n.Kids[r.IntN(len(n.Kids))]
		case at == 7 && len(n.Keys) > 0:
			n.Keys = n.Keys[1:]
		}
		if node.Good(n) != wantGood(n) {
			t.Fatalf("Good of %s: %t", told(n), node.Good(n))
		}
		if wantGood(n) {
			goods++
		}
	}
	if goods < 2000 || goods > 18000 {
		t.Errorf("%d of them are good", goods)
	}
}

func TestSizeByHand(t *testing.T) {
	k64, v40 := strings.Repeat("k", 64), strings.Repeat("v", 40)
	for _, c := range []struct {
		n    api.Node
		want int
	}{
		{api.Node{Leaf: true}, 3}, {leafOf(in(""), ""), 5}, {leafOf(in("v"), "k"), 7}, {leafOf(in(v40), k64), 3 + 65 + 41}, {leafOf(far(41, 1), "k"), 3 + 2 + 5}, {leafOf(far(127, 4095), "k"), 3 + 2 + 5}, {leafOf(far(128, 1), "k"), 3 + 2 + 6}, {leafOf(far(5000, 1), "k", "l"), 3 + 2*8},
		{innerOf(5, "k"), 3 + 4 + 6}, {innerOf(1, ""), 3 + 4 + 5}, {innerOf(1, "a", "bc", k64), 3 + 4 + 6 + 7 + 69}, {innerOf(1, risingKeys(4094, 3)...), 3 + 4 + 4094*8}, {leafOf(in(v40), risingKeys(100, 64)...), 3 + 100*(65+41)},
	} {
		if got := node.Size(c.n); got != c.want {
			t.Errorf("Size of %s: %d, not %d", told(c.n), got, c.want)
		}
	}
}

func TestSize(t *testing.T) {
	for _, n := range append(samples(), great()...) {
		if got := node.Size(n); got != len(wantBytes(n)) {
			t.Fatalf("Size of %s: %d", told(n), got)
		}
	}
	for _, n := range bad() {
		if got := node.Size(n); got != 0 {
			t.Errorf("Size of %s: %d", told(n), got)
		}
	}
	for size := 190; size <= 238; size++ {
		if got := node.Size(ofSize(size)); got != size {
			t.Errorf("%d, not %d", got, size)
		}
	}
}

// P8.3

func TestFindByHand(t *testing.T) {
	keys := []string{"", "b", "b\x00", "bb", "d", "\xff"}
	for _, n := range []api.Node{leafOf(in("v"), keys...), innerOf(9, keys...)} {
		for _, c := range []struct {
			key  string
			want int
			is   bool
		}{
			{"", 0, true}, {"\x00", 1, false}, {"a", 1, false}, {"azzz", 1, false}, {"b", 1, true}, {"b\x00", 2, true}, {"b\x00\x00", 3, false}, {"ba", 3, false}, {"bb", 3, true}, {"bbb", 4, false}, {"c", 4, false}, {"d", 4, true}, {"d\x00", 5, false}, {"\x7f", 5, false}, {"\x80", 5, false}, {"\xfe\xff", 5, false}, {"\xff", 5, true}, {"\xff\x00", 6, false}, {strings.Repeat("\xff", 200), 6, false}, {strings.Repeat("b", 65), 4, false},
		} {
			if at, is := node.Find(n, c.key); at != c.want || is != c.is {
				t.Errorf("Find of %q: %d, %t", c.key, at, is)
			}
		}
	}
	for _, key := range []string{"", "a", strings.Repeat("k", 100)} {
		if at, is := node.Find(api.Node{Leaf: true}, key); at != 0 || is {
			t.Errorf("Find of %q among none: %d, %t", key, at, is)
		}
	}
}

func TestFindCountsWhatIsBelow(t *testing.T) {
	r := source()
	for _, n := range samples() {
		asked := []string{"", someBytes(r, 3), someBytes(r, 70), strings.Repeat("\xff", 65)}
		for _, k := range n.Keys {
			asked = append(asked, k, k+"\x00", strings.TrimSuffix(k, "k"))
		}
		for _, key := range asked {
			below, is := 0, false
			for _, k := range n.Keys {
				if k < key {
					below++
				}
				is = is || k == key
			}
			if at, got := node.Find(n, key); at != below || got != is {
				t.Fatalf("Find of %q in %s: %d, %t", key, told(n), at, got)
			}
		}
	}
	for _, n := range great() {
		for _, i := range []int{0, 1, len(n.Keys) / 2, len(n.Keys) - 1} {
			if at, is := node.Find(n, n.Keys[i]); at != i || !is {
				t.Errorf("Find of the key %d: %d, %t", i, at, is)
			}
			if at, is := node.Find(n, n.Keys[i]+"\x00"); at != i+1 || is {
				t.Errorf("Find of what is above the key %d: %d, %t", i, at, is)
			}
		}
	}
}

func TestFindOfBadNodes(t *testing.T) {
	for _, n := range bad() {
		asked := append([]string{"", "a", "b", "z", "\xff\xff"}, n.Keys[:min(len(n.Keys), 20)]...)
		for _, key := range asked {
			if at, is := node.Find(n, key); at != 0 || is {
				t.Errorf("Find of %.20q in %s: %d, %t", key, told(n), at, is)
			}
		}
	}
}

// P8.4

func TestNodesStay(t *testing.T) {
	for _, n := range slices.Concat(samples()[:200], great()[:9], bad()) {
		stays(t, "Good", n, func(n api.Node) { node.Good(n) })
		stays(t, "Size", n, func(n api.Node) { node.Size(n) })
		stays(t, "Encode", n, func(n api.Node) { node.Encode(n) })
		stays(t, "Find", n, func(n api.Node) { node.Find(n, "b") })
	}
}
