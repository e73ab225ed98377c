package journal_test

import (
	"encoding/binary"
	"math"
	"slices"
	"strconv"
	"strings"
	"testing"

	"cahier/api"
	"cahier/disk"
	"cahier/journal"
	"cahier/seal"
)

// page: a page's bytes, unlike for unlike letters, and unlike from each end.
func page(letter byte) string {
	return "\x00" + strings.Repeat(string([]byte{letter}), api.Payload-2) + "\xff"
}

// sealed: a sector by the chapter's numbers.
func sealed(t *testing.T, kind, number int, salt uint64, data string) string {
	t.Helper()
	s, e := seal.Close(api.Sealed{Kind: kind, Number: number, Salt: salt, Data: data})
	if e != api.OK {
		t.Fatalf("no sector of the kind %d with the number %d: %d", kind, number, e)
	}
	return s
}

const salt = 7 // of all journals of the tests, where nothing else is said

func record(t *testing.T, n int, letter byte) string {
	t.Helper()
	return sealed(t, 2, n, salt, page(letter))
}

func footData(pages, feet int) string {
	data := make([]byte, 232)
	binary.BigEndian.PutUint32(data, uint32(pages))
	binary.BigEndian.PutUint32(data[4:], uint32(feet))
	return string(data)
}

func foot(t *testing.T, records, pages, feet int) string {
	t.Helper()
	return sealed(t, 3, records, salt, footData(pages, feet))
}

func main(t *testing.T, n int, letter byte) string {
	t.Helper()
	return sealed(t, 1, n, 0, page(letter))
}

func want(t *testing.T, what string, got, want api.Errno) {
	t.Helper()
	if got != want {
		t.Errorf("%s: %d, not %d", what, got, want)
	}
}

// begin: a journal that was started.
func begin(t *testing.T, d *disk.Disk, pages int) *journal.Journal {
	t.Helper()
	j, e := journal.Start(d, pages, salt)
	if e != api.OK || j == nil {
		t.Fatalf("Start: %v, %d", j, e)
	}
	return j
}

// note notes a page for each letter, from page n on.
func note(t *testing.T, j *journal.Journal, n int, letters string) {
	t.Helper()
	for i := range len(letters) {
		want(t, "Note "+strconv.Itoa(n+i), j.Note(n+i, page(letters[i])), api.OK)
	}
}

// holds asks a file's sectors.
func holds(t *testing.T, d *disk.Disk, name string, sectors ...string) {
	t.Helper()
	if d.Size(name) != len(sectors) {
		t.Errorf("%s has %d sectors, not %d", name, d.Size(name), len(sectors))
		return
	}
	for i, s := range sectors {
		if got, e := d.Read(name, i); e != api.OK || got != s {
			t.Errorf("%s, sector %d: %d, or other bytes", name, i, e)
		}
	}
}

// withData: a disk whose "data" has a page for each letter, safe.
func withData(t *testing.T, letters string) *disk.Disk {
	t.Helper()
	d := disk.New(100)
	data := ""
	for i := range len(letters) {
		data += main(t, i, letters[i])
	}
	want(t, "Load data", d.Load("data", data), api.OK)
	return d
}

// op is an operation of a disk.
type op func(d *disk.Disk) api.Errno

func reads(i int) op {
	return func(d *disk.Disk) api.Errno {
		_, e := d.Read("journal", i)
		return e
	}
}

func writes(name string, i int, data string) op {
	return func(d *disk.Disk) api.Errno { return d.Write(name, i, data) }
}

func syncs(name string) op {
	return func(d *disk.Disk) api.Errno { return d.Sync(name) }
}

func cuts(name string, n int) op {
	return func(d *disk.Disk) api.Errno { return d.Cut(name, n) }
}

func drops(name string) op {
	return func(d *disk.Disk) api.Errno { return d.Drop(name) }
}

// alike: two disks have the same files, with the same sectors.
func alike(t *testing.T, what string, got, want *disk.Disk) {
	t.Helper()
	if !slices.Equal(got.Names(), want.Names()) {
		t.Errorf("%s: the files are %q, not %q", what, got.Names(), want.Names())
		return
	}
	for _, name := range got.Names() {
		if got.Size(name) != want.Size(name) {
			t.Errorf("%s: %s has %d sectors, not %d", what, name, got.Size(name), want.Size(name))
		}
		for i := range got.Size(name) {
			s, e := got.Read(name, i)
			wantS, wantE := want.Read(name, i)
			if s != wantS || e != wantE {
				t.Errorf("%s: sector %d of %s isn't as it should be: %d, %d", what, i, name, e, wantE)
			}
		}
	}
}

// makes asks that a call makes just these operations, in this order: a call
// that is cut off in any of them leaves what those ahead of it leave, now and
// behind a loss of power. Set up anew for each time, it answers a disk and the call.
func makes(t *testing.T, what string, setup func() (*disk.Disk, func() api.Errno), answer api.Errno, ops ...op) {
	t.Helper()
	for cut := range len(ops) + 1 {
		for _, kind := range []int{api.FaultIO, api.FaultPower} {
			for _, fates := range [][]int{nil, {0}, {1}, {2}, {1, 0}, {0, 2, 1}} {
				told := what + ", cut off at operation " + strconv.Itoa(cut+1)
				got, call := setup()
				like, _ := setup()
				ahead := got.Ops()
				got.Arm(cut+1, kind, 0)
				e := call()
				switch {
				case cut == len(ops):
					want(t, what, e, answer)
				case kind == api.FaultIO:
					want(t, told, e, api.ErrIO)
				default:
					want(t, told, e, api.ErrDown)
				}
				if n := min(cut+1, len(ops)); got.Ops()-ahead != n {
					t.Errorf("%s: %d operations, not %d", told, got.Ops()-ahead, n)
				}
				got.Arm(0, 0, 0)
				for _, o := range ops[:cut] {
					o(like)
				}
				if !got.Down() && fates == nil {
					alike(t, told, got, like)
				}
				got.Off()
				like.Off()
				got.On(fates)
				like.On(fates)
				alike(t, told+", behind a loss of power", got, like)
			}
		}
	}
}

// found asks what counts.
func found(t *testing.T, d *disk.Disk, pages int, list ...api.Page) {
	t.Helper()
	n, got, is, e := journal.Find(d)
	if n != pages || !is || e != api.OK || !slices.Equal(got, list) {
		t.Errorf("Find: %d pages, %d records, %v, %d, not %d pages, %d records", n, len(got), is, e, pages, len(list))
	}
}

func nothing(t *testing.T, d *disk.Disk, err api.Errno) {
	t.Helper()
	if n, got, is, e := journal.Find(d); n != 0 || len(got) != 0 || is || e != err {
		t.Errorf("Find: %d pages, %d records, %v, %d, not nothing and %d", n, len(got), is, e, err)
	}
}

func TestExamples(t *testing.T) {
	d := disk.New(100)
	j := begin(t, d, 3)
	note(t, j, 1, "bc")
	want(t, "Note again", j.Note(1, page('x')), api.OK)
	want(t, "Seal", j.Seal(), api.OK)
	holds(t, d, "journal", record(t, 1, 'b'), record(t, 2, 'c'), foot(t, 2, 3, 0))
	found(t, d, 3, api.Page{N: 1, Data: page('b')}, api.Page{N: 2, Data: page('c')})

	d = disk.New(100)
	note(t, begin(t, d, 3), 1, "b")
	d.Off()
	d.On([]int{api.FateKept})
	nothing(t, d, api.OK)
}

func TestNames(t *testing.T) {
	if journal.Name != "journal" || journal.Main != "data" {
		t.Error(journal.Name, journal.Main)
	}
}

func TestNil(t *testing.T) {
	for _, pages := range []int{-1, 0, 1, 4097} {
		if j, e := journal.Start(nil, pages, 1); j != nil || e != api.ErrNil {
			t.Error("Start", pages, j, e)
		}
	}
	nothing(t, nil, api.ErrNil)
	want(t, "Back", journal.Back(nil), api.ErrNil)
	var j *journal.Journal
	want(t, "Note", j.Note(0, page('a')), api.ErrNil)
	want(t, "Note of nothing", j.Note(-1, ""), api.ErrNil)
	want(t, "Seal", j.Seal(), api.ErrNil)
	want(t, "End", j.End(), api.ErrNil)
	if j.Has(0) || j.Has(-1) {
		t.Error("a nil journal has a page")
	}
}

// P13.1

func TestStart(t *testing.T) {
	for _, c := range []struct {
		pages int
		want  api.Errno
	}{
		{math.MinInt, api.ErrArg}, {-1, api.ErrArg}, {0, api.OK}, {1, api.OK}, {4095, api.OK}, {4096, api.OK},
		{4097, api.ErrArg}, {math.MaxInt, api.ErrArg},
	} {
		d := withData(t, "ab")
		want(t, "Load", d.Load("journals", "x"), api.OK)
		names, ops := d.Names(), d.Ops()
		d.Arm(1, api.FaultPower, 0)
		j, e := journal.Start(d, c.pages, math.MaxUint64)
		want(t, "Start with "+strconv.Itoa(c.pages), e, c.want)
		if (j != nil) != (e == api.OK) {
			t.Error("Start", c.pages, j, e)
		}
		if d.Ops() != ops || d.Down() || !slices.Equal(d.Names(), names) {
			t.Errorf("Start with %d pages works on the disk", c.pages)
		}
	}
}

func TestStartWhereAJournalIs(t *testing.T) {
	for what, lay := range map[string]func(d *disk.Disk){
		"no sectors": func(d *disk.Disk) { d.Load("journal", "") },
		"junk":       func(d *disk.Disk) { d.Load("journal", "junk") },
		"one unsynced": func(d *disk.Disk) {
			note(t, begin(t, d, 1), 0, "a")
		},
		"one sealed": func(d *disk.Disk) {
			want(t, "Seal", begin(t, d, 1).Seal(), api.OK)
		},
		"one, without power": func(d *disk.Disk) {
			d.Load("journal", "junk")
			d.Off()
		},
	} {
		d := disk.New(10)
		lay(d)
		bytes, ops := d.Bytes("journal"), d.Ops()
		for pages, e := range map[int]api.Errno{-1: api.ErrArg, 0: api.ErrState, 4096: api.ErrState, 4097: api.ErrArg} {
			if j, got := journal.Start(d, pages, 1); j != nil || got != e {
				t.Errorf("%s: Start with %d pages: %v, %d, not %d", what, pages, j, got, e)
			}
		}
		if d.Bytes("journal") != bytes || d.Ops() != ops {
			t.Error(what, "Start works on the disk")
		}
	}
}

func TestStartBehindAnEnd(t *testing.T) {
	d := disk.New(10)
	j := begin(t, d, 2)
	begin(t, d, 2) // one that wrote nothing isn't there
	note(t, j, 0, "ab")
	want(t, "Seal", j.Seal(), api.OK)
	want(t, "End", j.End(), api.OK)
	k, e := journal.Start(d, 1, 9)
	want(t, "Start", e, api.OK)
	if k.Has(0) {
		t.Error("a new journal has a page")
	}
	want(t, "Note", k.Note(1, page('c')), api.ErrArg)
	want(t, "Note", k.Note(0, page('c')), api.OK)
	want(t, "Seal", k.Seal(), api.OK)
	holds(t, d, "journal", sealed(t, 2, 0, 9, page('c')), sealed(t, 3, 1, 9, footData(1, 0)))
}

// P13.2

func TestNoteRefuses(t *testing.T) {
	for _, pages := range []int{0, 1, 5, 4096} {
		d := disk.New(10)
		j := begin(t, d, pages)
		d.Arm(1, api.FaultIO, 100)
		for _, n := range []int{math.MinInt, -1, pages, pages + 1, 1 << 32, math.MaxInt} {
			want(t, "Note "+strconv.Itoa(n), j.Note(n, page('a')), api.ErrArg)
			if j.Has(n) {
				t.Errorf("%d is noted", n)
			}
		}
		for _, data := range []string{"", "a", page('a')[1:], page('a') + "a", strings.Repeat("a", api.Sector)} {
			want(t, "Note "+strconv.Itoa(len(data)), j.Note(0, data), api.ErrArg)
			if j.Has(0) {
				t.Error("0 is noted with bytes", len(data))
			}
		}
		if d.Ops() != 0 || d.Size("journal") != -1 {
			t.Error("a Note that is refused works on the disk")
		}
	}
}

func TestNote(t *testing.T) {
	d := disk.New(100)
	j := begin(t, d, 4096)
	for i, n := range []int{4095, 0, 17, 4094} {
		if j.Has(n) {
			t.Errorf("%d is noted already", n)
		}
		want(t, "Note", j.Note(n, page(byte(i))), api.OK)
		if !j.Has(n) || d.Size("journal") != i+1 || d.Ops() != i+1 {
			t.Errorf("Note %d: %v, %d sectors, %d operations", n, j.Has(n), d.Size("journal"), d.Ops())
		}
	}
	for _, n := range []int{math.MinInt, -1, 1, 16, 18, 4096, math.MaxInt} {
		if j.Has(n) {
			t.Errorf("%d is noted", n)
		}
	}
	for _, n := range []int{0, 4095} {
		want(t, "Note again", j.Note(n, page('x')), api.OK)
		want(t, "Note again with few bytes", j.Note(n, "x"), api.ErrArg)
	}
	if d.Ops() != 4 {
		t.Error("a Note of what was noted works on the disk")
	}
	holds(t, d, "journal", record(t, 4095, 0), record(t, 0, 1), record(t, 17, 2), record(t, 4094, 3))
	if !slices.Equal(d.Names(), []string{"journal"}) {
		t.Error("a Note makes other files", d.Names())
	}
}

// Sectors go behind all that the file has, whoever wrote them.
func TestBehindAllSectors(t *testing.T) {
	setup := func() (*disk.Disk, *journal.Journal) {
		d := disk.New(100)
		j := begin(t, d, 3)
		want(t, "Write", d.Write("journal", 0, record(t, 2, 'c')), api.OK)
		want(t, "Write", d.Write("journal", 1, record(t, 2, 'c')), api.OK)
		return d, j
	}
	makes(t, "a Note", func() (*disk.Disk, func() api.Errno) {
		d, j := setup()
		return d, func() api.Errno { return j.Note(0, page('a')) }
	}, api.OK, writes("journal", 2, record(t, 0, 'a')))
	makes(t, "a Seal", func() (*disk.Disk, func() api.Errno) {
		d, j := setup()
		return d, j.Seal
	}, api.OK, writes("journal", 2, foot(t, 0, 3, 0)), syncs("journal"))
}

// All pages of the greatest database can be noted.
func TestNoteAll(t *testing.T) {
	d := disk.New(api.MaxRoom)
	j := begin(t, d, api.MaxPages)
	var list []api.Page
	for n := range api.MaxPages {
		want(t, "Note", j.Note(n, page(byte(n))), api.OK)
		list = append(list, api.Page{N: n, Data: page(byte(n))})
	}
	want(t, "Seal", j.Seal(), api.OK)
	found(t, d, api.MaxPages, list...)
}

func TestNoteMakesOneWrite(t *testing.T) {
	setup := func(ahead string) func() (*disk.Disk, func() api.Errno) {
		return func() (*disk.Disk, func() api.Errno) {
			d := withData(t, "abcdef")
			j := begin(t, d, 6)
			note(t, j, 0, ahead)
			return d, func() api.Errno { return j.Note(5, page('f')) }
		}
	}
	makes(t, "a first Note", setup(""), api.OK, writes("journal", 0, record(t, 5, 'f')))
	makes(t, "a third Note", setup("ab"), api.OK, writes("journal", 2, record(t, 5, 'f')))
	makes(t, "a Note of what was noted", setup("abcdef"), api.OK)
}

func TestNoteThatFailsHasntNoted(t *testing.T) {
	full := func(room int) *disk.Disk {
		d := disk.New(room)
		want(t, "Load", d.Load("data", main(t, 0, 'a')), api.OK)
		return d
	}
	d := full(2)
	j := begin(t, d, 3)
	note(t, j, 0, "a")
	want(t, "Note without room", j.Note(1, page('b')), api.ErrFull)
	if !j.Has(0) || j.Has(1) {
		t.Error("without room", j.Has(0), j.Has(1))
	}
	want(t, "End", j.End(), api.OK)

	d = full(100)
	for i := range api.MaxFiles - 1 {
		want(t, "Load", d.Load("f"+strconv.Itoa(i), ""), api.OK)
	}
	j = begin(t, d, 3)
	want(t, "Note without a file", j.Note(1, page('b')), api.ErrFull)
	want(t, "Seal without a file", begin(t, d, 3).Seal(), api.ErrFull)
	if j.Has(1) {
		t.Error("without a file")
	}
	want(t, "End", j.End(), api.OK)

	for kind, e := range map[int]api.Errno{api.FaultIO: api.ErrIO, api.FaultPower: api.ErrDown} {
		d = full(100)
		j = begin(t, d, 3)
		note(t, j, 0, "a")
		d.Arm(1, kind, 0)
		want(t, "Note with a fault", j.Note(1, page('b')), e)
		if !j.Has(0) || j.Has(1) {
			t.Error("with a fault", j.Has(0), j.Has(1))
		}
		d.On(nil)
		want(t, "End", j.End(), api.OK)
		if d.Size("journal") != -1 || !j.Has(0) || j.Has(1) {
			t.Error("behind the End", d.Size("journal"), j.Has(0), j.Has(1))
		}
	}
}

// P13.3

func TestSealAndFeet(t *testing.T) {
	d := disk.New(100)
	j := begin(t, d, 9)
	note(t, j, 2, "cde")
	want(t, "Seal", j.Seal(), api.OK)
	note(t, j, 8, "i")
	want(t, "Seal", j.Seal(), api.OK)
	want(t, "Note again", j.Note(3, page('x')), api.OK)
	ops := d.Ops()
	want(t, "Seal of nothing", j.Seal(), api.OK)
	if d.Ops() != ops {
		t.Error("a Seal of nothing works on the disk")
	}
	note(t, j, 0, "ab")
	want(t, "Seal", j.Seal(), api.OK)
	want(t, "Seal of nothing", j.Seal(), api.OK)
	note(t, j, 5, "f")
	d.Off()
	d.On(nil)
	holds(t, d, "journal",
		record(t, 2, 'c'), record(t, 3, 'd'), record(t, 4, 'e'), foot(t, 3, 9, 0),
		record(t, 8, 'i'), foot(t, 1, 9, 1),
		record(t, 0, 'a'), record(t, 1, 'b'), foot(t, 2, 9, 2))
	found(t, d, 9,
		api.Page{N: 2, Data: page('c')}, api.Page{N: 3, Data: page('d')}, api.Page{N: 4, Data: page('e')},
		api.Page{N: 8, Data: page('i')}, api.Page{N: 0, Data: page('a')}, api.Page{N: 1, Data: page('b')})
}

func TestFootOfTheLeastAndTheMost(t *testing.T) {
	for _, pages := range []int{0, 1, 255, 256, 4096} {
		for _, s := range []uint64{0, 1, math.MaxUint64} {
			d := disk.New(100)
			j, _ := journal.Start(d, pages, s)
			want(t, "Seal", j.Seal(), api.OK)
			holds(t, d, "journal", sealed(t, 3, 0, s, footData(pages, 0)))
			found(t, d, pages)
		}
	}
}

func TestSealMakes(t *testing.T) {
	setup := func(sealed, loose string) func() (*disk.Disk, func() api.Errno) {
		return func() (*disk.Disk, func() api.Errno) {
			d := withData(t, "abcdef")
			j := begin(t, d, 6)
			note(t, j, 0, sealed)
			if sealed != "" {
				want(t, "Seal", j.Seal(), api.OK)
			}
			note(t, j, len(sealed), loose)
			return d, j.Seal
		}
	}
	sync := syncs("journal")
	makes(t, "a Seal of nothing", setup("", ""), api.OK, writes("journal", 0, foot(t, 0, 6, 0)), sync)
	makes(t, "a first Seal", setup("", "ab"), api.OK, sync, writes("journal", 2, foot(t, 2, 6, 0)), sync)
	makes(t, "a second Seal", setup("ab", "c"), api.OK, sync, writes("journal", 4, foot(t, 1, 6, 1)), sync)
	makes(t, "a Seal behind a Seal", setup("ab", ""), api.OK)
	// A foot without records is a foot too.
	makes(t, "a Seal of nothing twice", func() (*disk.Disk, func() api.Errno) {
		d := disk.New(100)
		j := begin(t, d, 0)
		want(t, "Seal", j.Seal(), api.OK)
		return d, j.Seal
	}, api.OK)
	makes(t, "a Seal behind one of nothing", func() (*disk.Disk, func() api.Errno) {
		d := disk.New(100)
		j := begin(t, d, 3)
		want(t, "Seal", j.Seal(), api.OK)
		note(t, j, 2, "c")
		return d, j.Seal
	}, api.OK, sync, writes("journal", 2, foot(t, 1, 3, 1)), sync)
}

func TestEndMakes(t *testing.T) {
	makes(t, "an End of nothing", func() (*disk.Disk, func() api.Errno) {
		d := withData(t, "ab")
		return d, begin(t, d, 2).End
	}, api.OK)
	makes(t, "an End", func() (*disk.Disk, func() api.Errno) {
		d := withData(t, "ab")
		j := begin(t, d, 2)
		note(t, j, 0, "a")
		want(t, "Seal", j.Seal(), api.OK)
		note(t, j, 1, "b")
		return d, j.End
	}, api.OK, drops("journal"))
	makes(t, "an End behind an End", func() (*disk.Disk, func() api.Errno) {
		d := withData(t, "ab")
		j := begin(t, d, 2)
		note(t, j, 0, "a")
		want(t, "End", j.End(), api.OK)
		if !j.Has(0) || j.Has(1) {
			t.Error("behind the End", j.Has(0), j.Has(1))
		}
		return d, j.End
	}, api.OK)
	makes(t, "an End behind Back", func() (*disk.Disk, func() api.Errno) {
		d := withData(t, "ab")
		j := begin(t, d, 2)
		note(t, j, 0, "a")
		want(t, "Back", journal.Back(d), api.OK)
		return d, j.End
	}, api.OK)
}

// A journal that met an error, or whose power went, can still be ended, and tells what was noted.
func TestEndBehindErrors(t *testing.T) {
	for at := range 3 {
		for _, kind := range []int{api.FaultIO, api.FaultPower} {
			d := withData(t, "ab")
			j := begin(t, d, 2)
			note(t, j, 1, "b")
			d.Arm(at+1, kind, 0)
			if e := j.Seal(); e != api.ErrIO && e != api.ErrDown {
				t.Errorf("Seal with a fault at %d: %d", at, e)
			}
			if kind == api.FaultPower {
				want(t, "End without power", j.End(), api.ErrDown)
				d.On([]int{api.FateKept})
			}
			want(t, "End", j.End(), api.OK)
			if !slices.Equal(d.Names(), []string{"data"}) || j.Has(0) || !j.Has(1) {
				t.Error(d.Names(), j.Has(0), j.Has(1))
			}
		}
	}
}
