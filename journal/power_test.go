package journal_test

import (
	"math/rand/v2"
	"testing"

	"cahier/api"
	"cahier/disk"
	"cahier/journal"
)

// P13.6

// change is a change of a database: what is asked of the journal and of "data", one behind the other.
type change []func(d *disk.Disk, j *journal.Journal) api.Errno

func (c *change) note(n int, letter byte) {
	*c = append(*c, func(_ *disk.Disk, j *journal.Journal) api.Errno { return j.Note(n, page(letter)) })
}

func (c *change) seal() {
	*c = append(*c, func(_ *disk.Disk, j *journal.Journal) api.Errno { return j.Seal() })
}

func (c *change) write(i int, data string) {
	*c = append(*c, func(d *disk.Disk, _ *journal.Journal) api.Errno { return d.Write("data", i, data) })
}

func (c *change) sync() {
	*c = append(*c, func(d *disk.Disk, _ *journal.Journal) api.Errno { return d.Sync("data") })
}

// asOf asks that "data" is what a database of these letters was, and no journal is there.
func asOf(t *testing.T, d *disk.Disk, letters string) {
	t.Helper()
	if d.Size("journal") != -1 {
		t.Fatal("the journal is there")
	}
	if max(d.Size("data"), 0) != len(letters) {
		t.Fatalf("%d sectors, not %d", d.Size("data"), len(letters))
	}
	for i := range len(letters) {
		if s, e := d.Read("data", i); e != api.OK || s != main(t, i, letters[i]) {
			t.Fatalf("sector %d isn't what it was: %d", i, e)
		}
	}
}

// undone: the power goes in the operation number at of a change (from 1), then in those of Back that cuts names, one Back
// behind the other; the database is what it was. It tells whether the power went in the change.
func (c change) undone(t *testing.T, letters string, at int, cuts []int, fates []int) bool {
	t.Helper()
	d := disk.New(100)
	if letters != "" {
		d = withData(t, letters)
	}
	j := begin(t, d, len(letters))
	d.Arm(at, api.FaultPower, 0)
	for i, do := range c {
		if e := do(d, j); e != api.OK && e != api.ErrDown {
			t.Fatalf("step %d: %d", i, e)
		}
		if d.Down() {
			break
		}
	}
	went := d.Down()
	d.Off()
	d.On(fates)
	for _, cut := range cuts {
		d.Arm(cut, api.FaultPower, 0)
		if e := journal.Back(d); e != api.OK && e != api.ErrDown {
			t.Fatalf("Back: %d", e)
		}
		d.Off()
		d.On(fates)
	}
	want(t, "Back", journal.Back(d), api.OK)
	asOf(t, d, letters)
	d.Off()
	d.On([]int{api.FateTorn})
	asOf(t, d, letters)
	return went
}

// lists: all lists of so many of the three fates.
func lists(n int) [][]int {
	if n == 0 {
		return [][]int{nil}
	}
	var all [][]int
	for _, l := range lists(n - 1) {
		for _, fate := range []int{api.FateLost, api.FateKept, api.FateTorn} {
			all = append(all, append([]int{fate}, l...))
		}
	}
	return all
}

// ordinary is a change of a database "abc" in two spans: page 1; then page 2, and two pages more.
func ordinary(t *testing.T) change {
	t.Helper()
	var c change
	c.note(1, 'b')
	c.seal()
	c.write(1, main(t, 1, 'x'))
	c.write(3, main(t, 3, 'x'))
	c.note(2, 'c')
	c.seal()
	c.write(2, main(t, 2, 'y'))
	c.write(1, main(t, 1, 'y'))
	c.write(4, main(t, 4, 'y'))
	c.note(0, 'a')
	c.sync()
	c.write(3, main(t, 3, 'z'))
	return c
}

// In whichever operation of a change the power goes, whatever becomes of what waits.
func TestPowerInAChange(t *testing.T) {
	c := ordinary(t)
	at := 1
	for went := true; went; at++ {
		for n := range 6 {
			for _, fates := range lists(n) {
				went = c.undone(t, "abc", at, nil, fates)
			}
		}
	}
	if at < 15 {
		t.Error("the power went in", at-2, "operations")
	}
}

// And in whichever operation of Back, and of a second one.
func TestPowerInBack(t *testing.T) {
	c := ordinary(t)
	for at := range 17 {
		for first := range 15 {
			for _, fates := range lists(3) {
				c.undone(t, "abc", at+1, []int{first + 1}, fates)
				c.undone(t, "abc", at+1, []int{first + 1, 14 - first}, fates)
			}
		}
	}
}

// A database that had no pages, and no file.
func TestPowerInAFirstChange(t *testing.T) {
	var c change
	c.seal()
	c.write(0, main(t, 0, 'x'))
	c.write(1, main(t, 1, 'x'))
	c.sync()
	c.write(2, main(t, 2, 'x'))
	for at := range 8 {
		for cut := range 6 {
			for _, fates := range lists(4) {
				c.undone(t, "", at+1, []int{cut}, fates)
			}
		}
	}
}

// anyChange: a change in which only pages that are noted and sealed are written, or those behind the pages of the start.
func anyChange(t *testing.T, r *rand.Rand, letters string) change {
	t.Helper()
	var c change
	var loose, free []int
	noted := map[int]int{}
	size := len(letters)
	isSealed := r.IntN(2) == 0
	if isSealed {
		c.seal()
	}
	for range r.IntN(30) {
		switch k := r.IntN(12); {
		case k < 3 && len(letters) > 0:
			n := r.IntN(len(letters))
			c.note(n, letters[n])
			if noted[n]++; noted[n] == 1 {
				loose = append(loose, n)
			}
		case k < 5:
			c.seal()
			free, loose, isSealed = append(free, loose...), nil, true
		case k < 9 && len(free) > 0:
			n := free[r.IntN(len(free))]
			c.write(n, main(t, n, byte(r.IntN(256))))
		case k < 11 && isSealed:
			n := len(letters) + r.IntN(size-len(letters)+1)
			size = max(size, n+1)
			c.write(n, main(t, n, byte(r.IntN(256))))
		case k == 11 && size > 0:
			c.sync()
		}
	}
	return c
}

func TestPowerInAnyChange(t *testing.T) {
	r := rand.New(rand.NewPCG(13, 6))
	went := 0
	for range 20000 {
		letters := "abcdefgh"[:r.IntN(9)]
		var cuts, fates []int
		for range r.IntN(4) {
			cuts = append(cuts, r.IntN(30)+1)
		}
		for range r.IntN(8) {
			fates = append(fates, r.IntN(3))
		}
		if anyChange(t, r, letters).undone(t, letters, r.IntN(50)+1, cuts, fates) {
			went++
		}
	}
	if went < 2000 {
		t.Error("the power went", went, "times")
	}
}

// What was noted behind the last Seal that answered OK counts all, up to a foot that was kept, or not.
func TestPowerInASeal(t *testing.T) {
	for at := 1; at <= 5; at++ {
		for n := range 4 {
			for _, fates := range lists(n) {
				d := withData(t, "abcd")
				j := begin(t, d, 4)
				note(t, j, 2, "c")
				want(t, "Seal", j.Seal(), api.OK)
				d.Arm(at, api.FaultPower, 0)
				isSealed := j.Note(3, page('d')) == api.OK && j.Note(0, page('a')) == api.OK && j.Seal() == api.OK
				d.Off()
				d.On(fates)
				_, list, is, e := journal.Find(d)
				if !is || e != api.OK || len(list) != 1 && len(list) != 3 || isSealed && len(list) != 3 {
					t.Fatalf("power at %d, fates %d: %d records, %v, %d", at, fates, len(list), is, e)
				}
			}
		}
	}
}
