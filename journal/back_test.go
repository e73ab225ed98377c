package journal_test

import (
	"slices"
	"strings"
	"testing"

	"cahier/api"
	"cahier/disk"
	"cahier/journal"
)

// P13.5

// backs asks what Back makes of a disk with these pages of "data" (none: without the file) and these sectors of "journal".
func backs(t *testing.T, what, letters string, sectors []string, answer api.Errno, ops ...op) {
	t.Helper()
	makes(t, what, func() (*disk.Disk, func() api.Errno) {
		d := laid(t, letters, sectors...)
		if letters == "" {
			want(t, "Drop data", d.Drop("data"), api.OK)
		}
		return d, func() api.Errno { return journal.Back(d) }
	}, answer, ops...)
}

func TestBackWhereNothingCounts(t *testing.T) {
	makes(t, "Back without a journal", func() (*disk.Disk, func() api.Errno) {
		d := withData(t, "abc")
		return d, func() api.Errno { return journal.Back(d) }
	}, api.OK)
	end := drops("journal")
	rec := record(t, 1, 'x')
	backs(t, "Back of no sectors", "abc", nil, api.OK, end)
	backs(t, "Back of junk", "abc", []string{strings.Repeat("junk", 64), rec}, api.OK, reads(0), end)
	backs(t, "Back of a torn sector", "abc", []string{torn, rec}, api.OK, reads(0), end)
	backs(t, "Back without a foot", "abc", []string{rec, rec}, api.OK, reads(0), reads(1), end)
	backs(t, "Back of a wrong foot", "abc", []string{rec, foot(t, 1, 1, 0), rec}, api.OK, reads(0), reads(1), end)
	backs(t, "Back without a foot and data", "", []string{rec}, api.OK, reads(0), end)
}

func TestBack(t *testing.T) {
	end, sync := drops("journal"), syncs("data")
	backs(t, "Back", "abc", []string{record(t, 1, 'x'), foot(t, 1, 3, 0)}, api.OK,
		reads(0), reads(1), writes("data", 1, main(t, 1, 'x')), sync, end)
	backs(t, "Back of pages that don't rise", "abcdef",
		[]string{record(t, 4, 'v'), record(t, 0, 'w'), foot(t, 2, 5, 0), record(t, 3, 'x'), foot(t, 1, 5, 1), record(t, 1, 'y')}, api.OK,
		reads(0), reads(1), reads(2), reads(3), reads(4), reads(5),
		writes("data", 0, main(t, 0, 'w')), writes("data", 3, main(t, 3, 'x')), writes("data", 4, main(t, 4, 'v')),
		cuts("data", 5), sync, end)
	backs(t, "Back of pages told twice", "abc",
		[]string{record(t, 2, 'v'), record(t, 1, 'w'), record(t, 2, 'x'), foot(t, 3, 3, 0), record(t, 1, 'y'), record(t, 0, 'z'), foot(t, 2, 3, 1)}, api.OK,
		reads(0), reads(1), reads(2), reads(3), reads(4), reads(5), reads(6),
		writes("data", 0, main(t, 0, 'z')), writes("data", 1, main(t, 1, 'w')), writes("data", 2, main(t, 2, 'v')), sync, end)
	backs(t, "Back of more pages than data has", "abc", []string{record(t, 2, 'x'), foot(t, 1, 9, 0)}, api.OK,
		reads(0), reads(1), writes("data", 2, main(t, 2, 'x')), sync, end)
	backs(t, "Back of a page behind data", "abc", []string{record(t, 3, 'x'), foot(t, 1, 9, 0)}, api.OK,
		reads(0), reads(1), writes("data", 3, main(t, 3, 'x')), sync, end)
}

func TestBackOfABareFoot(t *testing.T) {
	end, sync := drops("journal"), syncs("data")
	none, three := []string{foot(t, 0, 0, 0)}, []string{foot(t, 0, 3, 0)}
	backs(t, "Back to no pages", "abc", none, api.OK, reads(0), cuts("data", 0), sync, end)
	backs(t, "Back to fewer pages", "abcd", three, api.OK, reads(0), cuts("data", 3), sync, end)
	backs(t, "Back to the same pages", "abc", three, api.OK, reads(0), sync, end)
	backs(t, "Back to more pages", "ab", three, api.OK, reads(0), sync, end)
	backs(t, "Back to no pages without data", "", none, api.OK, reads(0), end)
	backs(t, "Back to pages without data", "", three, api.OK, reads(0), end)
	makes(t, "Back to no pages of no sectors", func() (*disk.Disk, func() api.Errno) {
		d := laid(t, "", none...)
		return d, func() api.Errno { return journal.Back(d) }
	}, api.OK, reads(0), sync, end)
}

func TestBackMakesData(t *testing.T) {
	backs(t, "Back without data", "", []string{record(t, 1, 'x'), record(t, 0, 'y'), foot(t, 2, 4, 0)}, api.OK,
		reads(0), reads(1), reads(2),
		writes("data", 0, main(t, 0, 'y')), writes("data", 1, main(t, 1, 'x')), syncs("data"), drops("journal"))
}

func TestBackOfPagesThatAreMissing(t *testing.T) {
	backs(t, "Back without data", "", []string{record(t, 5, 'x'), foot(t, 1, 9, 0)}, api.ErrBad,
		reads(0), reads(1), writes("data", 5, main(t, 5, 'x')))
	backs(t, "Back of a page behind what is missing", "abc", []string{record(t, 4, 'x'), record(t, 1, 'y'), record(t, 8, 'z'), foot(t, 3, 9, 0)}, api.ErrBad,
		reads(0), reads(1), reads(2), reads(3), writes("data", 1, main(t, 1, 'y')), writes("data", 4, main(t, 4, 'x')))
	d := laid(t, "abc", record(t, 4, 'x'), foot(t, 1, 9, 0))
	want(t, "Back", journal.Back(d), api.ErrBad)
	holds(t, d, "journal", record(t, 4, 'x'), foot(t, 1, 9, 0))
	// Once the page ahead of it is there, it can be done.
	want(t, "Write", d.Write("data", 3, main(t, 3, 'd')), api.OK)
	want(t, "Back", journal.Back(d), api.OK)
	holds(t, d, "data", main(t, 0, 'a'), main(t, 1, 'b'), main(t, 2, 'c'), main(t, 3, 'd'), main(t, 4, 'x'))
}

func TestBackWithoutRoom(t *testing.T) {
	d := laid(t, "ab", record(t, 1, 'x'), record(t, 2, 'y'), foot(t, 2, 3, 0))
	d.Room(5)
	want(t, "Back", journal.Back(d), api.ErrFull)
	holds(t, d, "journal", record(t, 1, 'x'), record(t, 2, 'y'), foot(t, 2, 3, 0))
	d.Room(6)
	want(t, "Back", journal.Back(d), api.OK)
	holds(t, d, "data", main(t, 0, 'a'), main(t, 1, 'x'), main(t, 2, 'y'))

	d = laid(t, "", record(t, 0, 'x'), foot(t, 1, 3, 0))
	want(t, "Drop", d.Drop("data"), api.OK)
	for i := range api.MaxFiles - 1 {
		want(t, "Load", d.Load("f"+string(rune('0'+i)), ""), api.OK)
	}
	want(t, "Back without a file", journal.Back(d), api.ErrFull)
}

func TestBackWithoutPower(t *testing.T) {
	sectors := []string{record(t, 1, 'x'), foot(t, 1, 3, 0)}
	d := laid(t, "abc", sectors...)
	d.Off()
	want(t, "Back", journal.Back(d), api.ErrDown)
	d.On(nil)
	holds(t, d, "journal", sectors...)

	d = laid(t, "abc")
	d.Off()
	want(t, "Back of nothing", journal.Back(d), api.ErrDown)
	d = withData(t, "abc")
	d.Off()
	want(t, "Back without a journal", journal.Back(d), api.OK)
}

// Files beside the two play no part.
func TestBackLeavesOtherFiles(t *testing.T) {
	d := laid(t, "abc", record(t, 1, 'x'), foot(t, 1, 2, 0))
	for _, name := range []string{"log", "data2", "journals"} {
		want(t, "Load", d.Load(name, foot(t, 0, 0, 0)), api.OK)
	}
	want(t, "Back", journal.Back(d), api.OK)
	if !slices.Equal(d.Names(), []string{"data", "data2", "journals", "log"}) {
		t.Error(d.Names())
	}
	holds(t, d, "data", main(t, 0, 'a'), main(t, 1, 'x'))
	for _, name := range []string{"log", "data2", "journals"} {
		holds(t, d, name, foot(t, 0, 0, 0))
	}
}

// Whatever Back does, it is what Find tells that it does.
func TestBackDoesWhatFindTells(t *testing.T) {
	d := withData(t, "abcd")
	j := begin(t, d, 4)
	note(t, j, 1, "bc")
	want(t, "Seal", j.Seal(), api.OK)
	note(t, j, 3, "d")
	for i := range 6 {
		want(t, "Write", d.Write("data", i, main(t, i, 'x')), api.OK)
	}
	want(t, "Back", journal.Back(d), api.OK)
	// Page 3 was noted and not sealed, page 0 not noted: both stay as they were written.
	holds(t, d, "data", main(t, 0, 'x'), main(t, 1, 'b'), main(t, 2, 'c'), main(t, 3, 'x'))
	if d.Size("journal") != -1 {
		t.Error("the journal is there")
	}
	want(t, "Back again", journal.Back(d), api.OK)
	holds(t, d, "data", main(t, 0, 'x'), main(t, 1, 'b'), main(t, 2, 'c'), main(t, 3, 'x'))
	d.Off()
	d.On(nil)
	holds(t, d, "data", main(t, 0, 'x'), main(t, 1, 'b'), main(t, 2, 'c'), main(t, 3, 'x'))
}
