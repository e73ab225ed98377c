package journal_test

import (
	"encoding/binary"
	"math/rand/v2"
	"slices"
	"strconv"
	"strings"
	"testing"

	"cahier/api"
	"cahier/disk"
	"cahier/journal"
	"cahier/seal"
)

const torn = "" // in a list of sectors: one that is torn

// laid: a disk whose file "journal" has these sectors, safe; its "data" has a page for each letter.
func laid(t *testing.T, letters string, sectors ...string) *disk.Disk {
	t.Helper()
	d := withData(t, letters)
	noughts := strings.Repeat("\x00", api.Sector)
	all := ""
	for _, s := range sectors {
		if s == torn {
			s = noughts
		}
		all += s
	}
	want(t, "Load journal", d.Load("journal", all), api.OK)
	for i, s := range sectors {
		if s == torn {
			want(t, "Write", d.Write("journal", i, noughts), api.OK)
			d.Off()
			d.On([]int{api.FateTorn})
		}
	}
	return d
}

// P13.4

func TestFindWithoutAJournal(t *testing.T) {
	d := withData(t, "abc")
	want(t, "Load", d.Load("journals", foot(t, 0, 3, 0)), api.OK)
	d.Arm(1, api.FaultIO, 9)
	nothing(t, d, api.OK)
	d.Off()
	nothing(t, d, api.OK)
	if d.Ops() != 0 {
		t.Error(d.Ops(), "operations")
	}
}

// findCase is what the file holds (sectors), what counts of it, and how many sectors are read.
type findCase struct {
	what    string
	sectors []string
	pages   int // -1: nothing counts
	records string
	numbers []int
	reads   int
}

func (c findCase) ask(t *testing.T) {
	t.Helper()
	d := laid(t, "", c.sectors...)
	ahead := d.Ops()
	n, list, is, e := journal.Find(d)
	if d.Ops()-ahead != c.reads {
		t.Errorf("%s: %d sectors are read, not %d", c.what, d.Ops()-ahead, c.reads)
	}
	if c.pages < 0 {
		if n != 0 || len(list) != 0 || is || e != api.OK {
			t.Errorf("%s: %d pages, %d records, %v, %d, not nothing", c.what, n, len(list), is, e)
		}
		return
	}
	var records []api.Page
	for i, n := range c.numbers {
		records = append(records, api.Page{N: n, Data: page(c.records[i])})
	}
	if n != c.pages || !is || e != api.OK || !slices.Equal(list, records) {
		t.Errorf("%s: %d pages, %d records, %v, %d, not %d pages, %d records", c.what, n, len(list), is, e, c.pages, len(records))
	}
}

func TestFindNothing(t *testing.T) {
	rec, end := record(t, 1, 'b'), foot(t, 1, 3, 0)
	odd := sealed(t, 1, 1, salt, page('b'))
	for _, c := range []findCase{
		{"no sectors", nil, -1, "", nil, 0},
		{"junk", []string{strings.Repeat("junk", 64)}, -1, "", nil, 1},
		{"noughts", []string{strings.Repeat("\x00", 256), rec, end}, -1, "", nil, 1},
		{"torn", []string{torn, rec, end}, -1, "", nil, 1},
		{"a record", []string{rec}, -1, "", nil, 1},
		{"records", []string{rec, rec, rec}, -1, "", nil, 3},
		{"a torn foot", []string{rec, torn}, -1, "", nil, 2},
		{"a torn record", []string{rec, torn, foot(t, 2, 3, 0)}, -1, "", nil, 2},
		{"a page ahead", []string{odd, end}, -1, "", nil, 1},
		{"a page between", []string{rec, odd, foot(t, 2, 3, 0)}, -1, "", nil, 2},
		{"a record of another salt", []string{sealed(t, 2, 1, 8, page('b')), rec, foot(t, 2, 3, 0)}, -1, "", nil, 2},
		{"a foot of another salt", []string{rec, sealed(t, 3, 1, 8, footData(3, 0)), end}, -1, "", nil, 2},
		{"a record of 4096", []string{sealed(t, 2, 4096, salt, page('b')), end}, -1, "", nil, 1},
		{"a record of 2^32 - 1", []string{sealed(t, 2, 1<<32-1, salt, page('b')), end}, -1, "", nil, 1},
		{"a foot of fewer records", []string{rec, rec, end, rec}, -1, "", nil, 3},
		{"a foot of more records", []string{rec, foot(t, 2, 3, 0), rec}, -1, "", nil, 2},
		{"a foot of a record too many", []string{foot(t, 1, 3, 0), rec}, -1, "", nil, 1},
		{"a first foot behind one", []string{rec, foot(t, 1, 3, 1), rec}, -1, "", nil, 2},
		{"a foot of 4097 pages", []string{rec, foot(t, 1, 4097, 0), rec}, -1, "", nil, 2},
		{"a foot of 2^32 - 1 pages", []string{rec, foot(t, 1, 1<<32-1, 0), rec}, -1, "", nil, 2},
		{"a foot of no pages", []string{rec, foot(t, 1, 0, 0), rec}, -1, "", nil, 2},
		{"a foot of as many pages as the record's number", []string{rec, foot(t, 1, 1, 0), rec}, -1, "", nil, 2},
		{"a foot below the first record", []string{record(t, 7, 'h'), rec, foot(t, 2, 7, 0), rec}, -1, "", nil, 3},
	} {
		c.ask(t)
	}
	for _, kind := range []int{0, 1, 4, 5, 6, 2 + 1<<8, 3 + 1<<31} {
		findCase{"a foot of another kind", []string{rec, sealed(t, kind, 1, salt, footData(3, 0)), end}, -1, "", nil, 2}.ask(t)
		findCase{"a record of another kind", []string{sealed(t, kind, 1, salt, page('b')), end, rec}, -1, "", nil, 1}.ask(t)
	}
	for _, at := range []int{8, 9, 100, 231} {
		data := []byte(footData(3, 0))
		data[at] = 1
		findCase{"no noughts", []string{rec, sealed(t, 3, 1, salt, string(data)), end}, -1, "", nil, 2}.ask(t)
	}
}

func TestFindSomething(t *testing.T) {
	rec, last := record(t, 1, 'b'), record(t, 2, 'c')
	end, second := foot(t, 1, 3, 0), foot(t, 1, 3, 1)
	bare, odd := foot(t, 0, 3, 0), sealed(t, 1, 1, salt, page('b'))
	for _, c := range []findCase{
		{"a foot", []string{foot(t, 0, 0, 0)}, 0, "", nil, 1},
		{"a foot of all pages", []string{foot(t, 0, 4096, 0)}, 4096, "", nil, 1},
		{"a foot of the least pages", []string{rec, foot(t, 1, 2, 0)}, 2, "b", []int{1}, 2},
		{"the last page of all", []string{record(t, 4095, 'z'), foot(t, 1, 4096, 0)}, 4096, "z", []int{4095}, 2},
		{"page 0", []string{record(t, 0, 'a'), foot(t, 1, 1, 0)}, 1, "a", []int{0}, 2},
		{"a page twice", []string{rec, record(t, 1, 'x'), foot(t, 2, 3, 0)}, 3, "bx", []int{1, 1}, 3},
		{"not rising", []string{last, rec, foot(t, 2, 3, 0), record(t, 0, 'a'), second}, 3, "cba", []int{2, 1, 0}, 5},
		{"records behind", []string{rec, end, last, last}, 3, "b", []int{1}, 4},
		{"a torn record behind", []string{rec, end, torn, last, foot(t, 2, 3, 1)}, 3, "b", []int{1}, 3},
		{"a torn foot behind", []string{rec, end, last, torn, rec}, 3, "b", []int{1}, 4},
		{"noughts behind", []string{rec, end, strings.Repeat("\x00", 256), second}, 3, "b", []int{1}, 3},
		{"two feet", []string{rec, end, last, second}, 3, "bc", []int{1, 2}, 4},
		{"a foot behind a foot", []string{rec, end, foot(t, 0, 3, 1), last, foot(t, 1, 3, 2)}, 3, "bc", []int{1, 2}, 5},
		{"a bare foot ahead", []string{bare, rec, second}, 3, "b", []int{1}, 3},
		{"a foot of all records", []string{rec, end, last, foot(t, 2, 3, 1), last}, 3, "b", []int{1}, 4},
		{"a foot of fewer records", []string{rec, end, last, foot(t, 0, 3, 1), last}, 3, "b", []int{1}, 4},
		{"a foot twice", []string{rec, end, last, end, last}, 3, "b", []int{1}, 4},
		{"a foot left out", []string{rec, end, last, foot(t, 1, 3, 2), last}, 3, "b", []int{1}, 4},
		{"a foot of fewer pages", []string{foot(t, 0, 5, 0), rec, foot(t, 1, 4, 1), rec}, 5, "", nil, 3},
		{"a foot of more pages", []string{foot(t, 0, 5, 0), rec, foot(t, 1, 6, 1), rec}, 5, "", nil, 3},
		{"a record above the pages", []string{rec, end, record(t, 3, 'd'), rec, rec}, 3, "b", []int{1}, 5},
		{"a foot behind a record above the pages", []string{rec, end, record(t, 3, 'd'), second, rec}, 3, "b", []int{1}, 4},
		{"a record of 4096 behind", []string{rec, end, sealed(t, 2, 4096, salt, page('x')), foot(t, 1, 4096, 1)}, 3, "b", []int{1}, 3},
		{"another salt behind", []string{rec, end, sealed(t, 2, 2, salt+1<<32, page('c')), second}, 3, "b", []int{1}, 3},
		{"a foot of another salt behind", []string{rec, end, last, sealed(t, 3, 1, 0, footData(3, 1)), last}, 3, "b", []int{1}, 4},
		{"a page behind", []string{rec, end, odd, second}, 3, "b", []int{1}, 3},
	} {
		c.ask(t)
	}
}

// A sector of which a byte is changed is where what counts ends.
func TestFindAChangedByte(t *testing.T) {
	sectors := []string{
		record(t, 1, 'b'), record(t, 4, 'e'), foot(t, 2, 5, 0),
		record(t, 0, 'a'), foot(t, 1, 5, 1), record(t, 2, 'c'),
	}
	for i := range sectors {
		for at := range api.Sector {
			changed := slices.Clone(sectors)
			changed[i] = changed[i][:at] + string([]byte{changed[i][at] ^ 1}) + changed[i][at+1:]
			c := findCase{"byte " + strconv.Itoa(at) + " of sector " + strconv.Itoa(i), changed, 5, "bea", []int{1, 4, 0}, i + 1}
			switch {
			case i < 3:
				c.pages = -1
			case i < 5:
				c.numbers = c.numbers[:2]
			}
			c.ask(t)
		}
	}
}

func TestFindAnswersTheDisksErrors(t *testing.T) {
	sectors := []string{record(t, 1, 'b'), foot(t, 1, 3, 0), record(t, 0, 'a'), foot(t, 1, 3, 1), record(t, 2, 'c')}
	for at := range sectors {
		for kind, e := range map[int]api.Errno{api.FaultIO: api.ErrIO, api.FaultPower: api.ErrDown} {
			d := laid(t, "abc", sectors...)
			ahead := d.Ops()
			d.Arm(at+1, kind, 0)
			nothing(t, d, e)
			if d.Ops()-ahead != at+1 {
				t.Error(d.Ops()-ahead, "operations, not", at+1)
			}
		}
	}
	d := laid(t, "abc", sectors...)
	d.Off()
	nothing(t, d, api.ErrDown)
	d.On(nil)
	found(t, d, 3, api.Page{N: 1, Data: page('b')}, api.Page{N: 0, Data: page('a')})
}

func TestFindMakes(t *testing.T) {
	sectors := []string{record(t, 1, 'b'), foot(t, 1, 3, 0), torn, record(t, 1, 'b')}
	find := func(d *disk.Disk) func() api.Errno {
		return func() api.Errno {
			_, _, _, e := journal.Find(d)
			return e
		}
	}
	makes(t, "Find", func() (*disk.Disk, func() api.Errno) {
		d := laid(t, "abc", sectors...)
		return d, find(d)
	}, api.OK, reads(0), reads(1), reads(2))
	makes(t, "Find of what waits", func() (*disk.Disk, func() api.Errno) {
		d := withData(t, "abc")
		note(t, begin(t, d, 3), 0, "ab")
		return d, find(d)
	}, api.OK, reads(0), reads(1))
}

// P13.7
func TestFindAnswersNewMemory(t *testing.T) {
	d := laid(t, "", record(t, 1, 'b'), record(t, 2, 'c'), foot(t, 2, 3, 0))
	_, one, _, _ := journal.Find(d)
	_, two, _, _ := journal.Find(d)
	one[0] = api.Page{}
	_ = append(one[:1], api.Page{N: 9})
	if two[0].N != 1 || two[1].N != 2 {
		t.Error("two answers share a list")
	}
	found(t, d, 3, api.Page{N: 1, Data: page('b')}, api.Page{N: 2, Data: page('c')})
}

// right: whether all these sectors stand as the chapter words it.
func right(sectors []string) bool {
	var salt uint64
	var numbers []int
	pages, feet, loose := 0, 0, 0
	for i, text := range sectors {
		s, e := seal.Open(text)
		if e != api.OK {
			return false
		}
		if i == 0 {
			salt = s.Salt
		}
		if s.Salt != salt {
			return false
		}
		switch s.Kind {
		case 2:
			if s.Number > 4095 {
				return false
			}
			numbers = append(numbers, s.Number)
			loose++
		case 3:
			told := int(binary.BigEndian.Uint32([]byte(s.Data)))
			if feet == 0 {
				pages = told
			}
			if s.Number != loose || told != pages || told > 4096 || s.Data != footData(told, feet) {
				return false
			}
			for _, n := range numbers {
				if n >= told {
					return false
				}
			}
			feet++
			loose = 0
		default:
			return false
		}
	}
	return true
}

// counts: what counts of sectors by the chapter's words, looked for from the end on; how many of them are read.
func counts(sectors []string) (pages int, list []api.Page, is bool, reads int) {
	good := len(sectors)
	for !right(sectors[:good]) {
		good--
	}
	reads = min(good+1, len(sectors))
	for ; good > 0; good-- {
		if last, _ := seal.Open(sectors[good-1]); last.Kind == 3 {
			pages = int(binary.BigEndian.Uint32([]byte(last.Data)))
			break
		}
	}
	for _, text := range sectors[:good] {
		if s, _ := seal.Open(text); s.Kind == 2 {
			list = append(list, api.Page{N: s.Number, Data: s.Data})
		}
	}
	return pages, list, good > 0, reads
}

// anyFile: sectors that are mostly those of a journal.
func anyFile(t *testing.T, r *rand.Rand) []string {
	t.Helper()
	often := r.IntN(60) + 10
	off := func(n int) int {
		if r.IntN(often) == 0 {
			return max(n+r.IntN(3)-1, 0)
		}
		return n
	}
	pages := [...]int{0, 1, 2, 5, 4094, 4096}[r.IntN(6)]
	var sectors []string
	feet, loose := 0, 0
	for range r.IntN(14) {
		s := uint64(off(salt))
		switch {
		case r.IntN(often) == 0:
			sectors = append(sectors, torn)
		case r.IntN(3) == 0:
			sectors = append(sectors, sealed(t, off(3), off(loose), s, footData(off(pages), off(feet))))
			feet, loose = feet+1, 0
		case pages > 0:
			n := [...]int{0, pages / 2, pages - 1}[r.IntN(3)]
			sectors = append(sectors, sealed(t, off(2), off(n), s, page(byte(r.IntN(256)))))
			loose++
		}
	}
	return sectors
}

func TestFindIsAsTheChapterWordsIt(t *testing.T) {
	r := rand.New(rand.NewPCG(13, 4))
	some, none, cut := 0, 0, 0
	for range 6000 {
		sectors := anyFile(t, r)
		d := laid(t, "", sectors...)
		ahead := d.Ops()
		pages, list, is, e := journal.Find(d)
		wantPages, wantList, wantIs, reads := counts(sectors)
		if e != api.OK || pages != wantPages || is != wantIs || !slices.Equal(list, wantList) || d.Ops()-ahead != reads {
			t.Fatalf("%d pages, %d records, %v, %d, %d reads, not %d, %d, %v, %d reads",
				pages, len(list), is, e, d.Ops()-ahead, wantPages, len(wantList), wantIs, reads)
		}
		switch {
		case !is:
			none++
		case reads < len(sectors):
			cut++
		default:
			some++
		}
	}
	if some < 500 || none < 500 || cut < 200 {
		t.Error(some, none, cut)
	}
}

// Whatever bytes stand in the file, Find ends.
func TestFindOfAnyBytes(t *testing.T) {
	r := rand.New(rand.NewPCG(13, 5))
	for range 500 {
		data := make([]byte, r.IntN(2000))
		for i := range data {
			data[i] = byte(r.Uint32())
		}
		d := disk.New(10)
		want(t, "Load", d.Load("journal", string(data)), api.OK)
		nothing(t, d, api.OK)
		want(t, "Back", journal.Back(d), api.OK)
		if len(d.Names()) != 0 {
			t.Error(d.Names())
		}
	}
}
