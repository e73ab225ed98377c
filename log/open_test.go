package log_test

import (
	"math"
	"strconv"
	"strings"
	"testing"

	"cahier/api"
	"cahier/disk"
	"cahier/log"
)

// P14.1

// torn: in the place of a sector, it is torn.
const torn = ""

// laying: a disk whose "log" has these sectors, safe.
func laying(t *testing.T, sectors ...string) *disk.Disk {
	t.Helper()
	d := disk.New(100)
	want(t, "Load", d.Load("data", "what stands beside"), api.OK)
	want(t, "Load", d.Load("log", ""), api.OK)
	var fates []int
	for i, s := range sectors {
		fate := api.FateKept
		if s == torn {
			s, fate = strings.Repeat("t", api.Sector), api.FateTorn
		}
		want(t, "Write", d.Write("log", i, s), api.OK)
		fates = append(fates, fate)
	}
	d.Off()
	d.On(fates)
	if d.Size("log") != len(sectors) {
		t.Fatal("the sectors can't be laid", d.Size("log"), len(sectors))
	}
	return d
}

// opens asks Open of a file of these sectors: it reads so many of them, then does what is last, if anything; the log has
// the frames of list.
func opens(t *testing.T, what string, sectors []string, readable int, last []op, list []laid) {
	t.Helper()
	setup := func() (*disk.Disk, func() api.Errno) {
		d := laying(t, sectors...)
		return d, func() api.Errno {
			l, e := log.Open(d)
			if (l != nil) != (e == api.OK) {
				t.Errorf("%s: Open: %v, %d", what, l, e)
			}
			return e
		}
	}
	makes(t, what, setup, append(reads(readable), last...)...)
	d := laying(t, sectors...)
	tells(t, what, open(t, d), list...)
	// What is left is a log of just these, which a second Open only reads.
	ops := d.Ops()
	again := open(t, d)
	if d.Ops()-ops != max(d.Size("log"), 0) {
		t.Errorf("%s: opened again: %d operations, not %d", what, d.Ops()-ops, d.Size("log"))
	}
	tells(t, what+", opened again", again, list...)
}

func TestOpenOfNoFile(t *testing.T) {
	makes(t, "Open of no file", func() (*disk.Disk, func() api.Errno) {
		d := disk.New(100)
		want(t, "Load", d.Load("data", "x"), api.OK)
		return d, func() api.Errno {
			tells(t, "no file", open(t, d))
			return api.OK
		}
	})
	d := disk.New(100)
	d.Off()
	if l, e := log.Open(d); e != api.OK || l.Len() != 0 || d.Ops() != 0 {
		t.Error("without power and file no operation is asked for", e)
	}
}

func TestOpenWithoutPower(t *testing.T) {
	for _, sectors := range [][]string{nil, {top(t)}, sectors(t, frames("aBc")...)} {
		d := laying(t, sectors...)
		d.Off()
		if l, e := log.Open(d); l != nil || e != api.ErrDown {
			t.Error("Open without power", l, e)
		}
	}
}

// A file of which nothing is right is dropped, whatever stands behind its first sector.
func TestOpenOfWrongTops(t *testing.T) {
	last := func(s string) string { return s[:len(s)-1] + "\x01" }
	first := func(s string) string { return "\x01" + s[1:] }
	makes(t, "Open of a file without sectors", func() (*disk.Disk, func() api.Errno) {
		d := laying(t)
		return d, func() api.Errno { _, e := log.Open(d); return e }
	}, drop())
	for what, s := range map[string]string{
		"torn":               torn,
		"noughts":            strings.Repeat("\x00", api.Sector),
		"junk":               strings.Repeat("j", api.Sector),
		"a spoilt sum":       last(top(t)),
		"spoilt data":        first(top(t)),
		"a spoilt kind":      top(t)[:235] + "\x05" + top(t)[236:],
		"a frame":            sealed(t, 5, 1, 0, noughts),
		"a commit":           sealed(t, 6, 1, 0, noughts),
		"a page":             sealed(t, 1, 1, 0, noughts),
		"a foot":             sealed(t, 3, 1, 0, noughts),
		"no kind":            sealed(t, 0, 1, 0, noughts),
		"a great kind":       sealed(t, 4+1<<8, 1, 0, noughts),
		"the number 0":       sealed(t, 4, 0, 0, noughts),
		"the number 2":       sealed(t, 4, 2, 0, noughts),
		"a great number":     sealed(t, 4, 1<<31+1, 0, noughts),
		"a salt":             sealed(t, 4, 1, 1, noughts),
		"a great salt":       sealed(t, 4, 1, 1<<63, noughts),
		"a byte at the end":  sealed(t, 4, 1, 0, last(noughts)),
		"a byte at the head": sealed(t, 4, 1, 0, first(noughts)),
		"other data":         sealed(t, 4, 1, 0, page('x')),
	} {
		opens(t, what, []string{s}, 1, []op{drop()}, nil)
		opens(t, what+", and frames for a top", append([]string{s}, sectors(t, frames("aB")...)[1:]...), 1, []op{drop()}, nil)
		if s != torn {
			hung := []string{s, frames("A")[0].over(t, s)}
			opens(t, what+", and frames that hang on it", hung, 1, []op{drop()}, nil)
		}
		opens(t, what+", and a log", append([]string{s}, sectors(t, frames("aB")...)...), 1, []op{drop()}, nil)
	}
}

func TestOpenOfRightSectors(t *testing.T) {
	for _, c := range []struct{ all, committed string }{
		{"", ""}, {"a", ""}, {"abc", ""}, {"A", "A"}, {"aA", "aA"}, {"aB", "aB"}, {"Ab", "A"}, {"aBc", "aB"}, {"AA", "AA"},
		{"aBcdE", "aBcdE"}, {"aBcdEfgabc", "aBcdE"}, {"AbABbaabA", "AbABbaabA"}, {"zyxwZzyxw", "zyxwZ"},
	} {
		all := sectors(t, frames(c.all)...)
		var last []op
		if len(c.committed) < len(c.all) {
			last = []op{cut(1 + len(c.committed))}
		}
		opens(t, "a log of "+c.all, all, len(all), last, frames(c.committed))
		d := laying(t, all...)
		open(t, d)
		file(t, "a log of "+c.all, d, all[:1+len(c.committed)]...)
	}
}

// What is right ends with the first sector that isn't, and no other one is read.
func TestOpenOfWrongFrames(t *testing.T) {
	for _, ahead := range []string{"", "a", "A", "aB", "aBc", "aBAba"} {
		before := sectors(t, frames(ahead)...)
		salt := sumOf(before[len(before)-1])
		committed := frames(ahead)
		for len(committed) > 0 && !committed[len(committed)-1].commit {
			committed = committed[:len(committed)-1]
		}
		for what, s := range map[string]string{
			"torn":             torn,
			"noughts":          strings.Repeat("\x00", api.Sector),
			"junk":             strings.Repeat("j", api.Sector),
			"a top":            top(t),
			"a page":           sealed(t, 1, 1, salt, page('x')),
			"a record":         sealed(t, 2, 1, salt, page('x')),
			"a foot":           sealed(t, 3, 1, salt, page('x')),
			"a top's kind":     sealed(t, 4, 1, salt, page('x')),
			"the kind 7":       sealed(t, 7, 1, salt, page('x')),
			"the kind 0":       sealed(t, 0, 1, salt, page('x')),
			"a great kind":     sealed(t, 6+1<<16, 1, salt, page('x')),
			"the number 4096":  sealed(t, 6, 4096, salt, page('x')),
			"a frame's 4096":   sealed(t, 5, 4096, salt, page('x')),
			"a great number":   sealed(t, 6, math.MaxUint32, salt, page('x')),
			"a salt above":     sealed(t, 6, 1, salt+1, page('x')),
			"a salt below":     sealed(t, 6, 1, salt-1, page('x')),
			"a salt of 0":      sealed(t, 6, 1, 0, page('x')),
			"another high one": sealed(t, 6, 1, salt^1<<63, page('x')),
			"spoilt":           "\x01" + sealed(t, 6, 1, salt, page('x'))[1:],
		} {
			what = "behind a log of " + ahead + ": " + what
			reading := len(before) + 1
			ops := []op{cut(1 + len(committed))}
			opens(t, what, append(before[:len(before):len(before)], s), reading, ops, committed)
			hung := append(before[:len(before):len(before)], s)
			for _, f := range frames("bA") {
				behind := hung[len(hung)-1]
				if behind == torn {
					behind = before[len(before)-1]
				}
				hung = append(hung, f.over(t, behind))
			}
			opens(t, what+", and frames that hang on it", hung, reading, ops, committed)
		}
	}
}

// Each frame hangs on all ahead of it: none can be missing, stand twice, elsewhere, or in another log.
func TestOpenOfFramesElsewhere(t *testing.T) {
	all := sectors(t, frames("aBcD")...)
	other := sectors(t, frames("eBcD")...)
	for _, c := range []struct {
		what      string
		sectors   []string
		readable  int
		committed string
	}{
		{"without the first one", []string{all[0], all[2], all[3], all[4]}, 2, ""},
		{"without the second one", []string{all[0], all[1], all[3], all[4]}, 3, ""},
		{"without the third one", []string{all[0], all[1], all[2], all[4]}, 4, "aB"},
		{"one twice", []string{all[0], all[1], all[2], all[2], all[3], all[4]}, 4, "aB"},
		{"turned round", []string{all[0], all[2], all[1], all[3], all[4]}, 2, ""},
		{"of another log", []string{all[0], all[1], all[2], other[3], other[4]}, 4, "aB"},
		{"of another log at first", []string{all[0], other[1], all[2], all[3], all[4]}, 3, ""},
		{"the log twice", append(append([]string(nil), all...), all...), 6, "aBcD"},
	} {
		opens(t, c.what, c.sectors, c.readable, []op{cut(1 + len(c.committed))}, frames(c.committed))
	}
}

// The ends of numbers, bytes of all kinds.
func TestOpenOfTheEnds(t *testing.T) {
	list := []laid{{4095, 0, false}, {0, 255, false}, {4095, 'x', true}, {0, 0, true}}
	all := sectors(t, list...)
	opens(t, "the ends", all, len(all), nil, list)
}

// Each sector is read in its turn: a torn one ends what is read, wherever it stands.
func TestOpenReads(t *testing.T) {
	const letters = "aBcdEFg"
	for at := range len(letters) + 1 {
		all := sectors(t, frames(letters)...)
		all[at] = torn
		var list []laid
		for i, f := range frames(letters[:max(at-1, 0)]) {
			if f.commit {
				list = frames(letters[:i+1])
			}
		}
		last := drop()
		if at > 0 {
			last = cut(1 + len(list))
		}
		opens(t, "torn at "+strconv.Itoa(at), all, at+1, []op{last}, list)
	}
}

// A file that is as it was written in an earlier life, or that nobody synced, is opened as it is.
func TestOpenOfWhatWaits(t *testing.T) {
	d := disk.New(100)
	l := adds(t, d, "aBc")
	again := open(t, d)
	tells(t, "opened over what waits", again, frames("aB")...)
	if l.Len() != 3 {
		t.Error("the first log", l.Len())
	}
	add(t, again, "dE")
	want(t, "Sync", again.Sync(), api.OK)
	d.Off()
	d.On(nil)
	tells(t, "behind a loss of power", open(t, d), frames("aBdE")...)
}

// An error of the disk leaves the file to a later Open.
func TestOpenBehindErrors(t *testing.T) {
	for _, letters := range []string{"", "aBc", "aB", "abc"} {
		for at := range 5 {
			d := laying(t, sectors(t, frames(letters)...)...)
			d.Arm(at+1, api.FaultIO, 0)
			l, e := log.Open(d)
			if e != api.OK && (e != api.ErrIO || l != nil) {
				t.Errorf("Open: %v, %d", l, e)
			}
			d.Arm(0, 0, 0)
			list := frames(letters)
			for len(list) > 0 && !list[len(list)-1].commit {
				list = list[:len(list)-1]
			}
			tells(t, "opened again", open(t, d), list...)
		}
	}
}
