package log_test

import (
	"math"
	"math/rand/v2"
	"testing"

	"cahier/api"
	"cahier/disk"
	"cahier/log"
)

// model is the chapter's log, slow: a list of frames, and whether there is a file.
type model struct {
	list   []laid
	isFile bool
}

func (m *model) add(f laid) int {
	ops := 1
	if !m.isFile {
		ops, m.isFile = 2, true
	}
	m.list = append(m.list, f)
	return ops
}

func (m *model) back(n int) (int, api.Errno) {
	switch {
	case n < 0 || n > len(m.list):
		return 0, api.ErrArg
	case n == len(m.list):
		return 0, api.OK
	}
	m.list = m.list[:n]
	return 1, api.OK
}

func (m *model) file() int {
	if m.isFile {
		return 1
	}
	return 0
}

func (m *model) end() int {
	ops := m.file()
	*m = model{}
	return ops
}

func (m *model) open() int {
	ops := m.file() + len(m.list)
	all := len(m.list)
	for len(m.list) > 0 && !m.list[len(m.list)-1].commit {
		m.list = m.list[:len(m.list)-1]
	}
	if len(m.list) < all {
		ops++
	}
	return ops
}

// anyNumber: mostly one of some pages, sometimes an end of numbers.
func anyNumber(r *rand.Rand) int {
	ends := []int{math.MinInt, -1, 0, 4095, 4096, math.MaxInt}
	if r.IntN(10) == 0 {
		return ends[r.IntN(len(ends))]
	}
	return r.IntN(12)
}

// step does one call on a log and on the model; it answers both errors, how many operations the model has, and the log.
func (m *model) step(r *rand.Rand, d *disk.Disk, l *log.Log) (*log.Log, api.Errno, api.Errno, int) {
	switch k := r.IntN(60); {
	case k < 40:
		f := laid{n: anyNumber(r), letter: byte(r.IntN(256)), commit: r.IntN(4) == 0}
		data := page(f.letter)
		if r.IntN(20) == 0 {
			data = data[r.IntN(3):]
		}
		e := l.Add(f.n, data, f.commit)
		if f.n < 0 || f.n >= 4096 || len(data) != 232 {
			return l, e, api.ErrArg, 0
		}
		return l, e, api.OK, m.add(f)
	case k < 46:
		return l, l.Sync(), api.OK, m.file()
	case k < 54:
		n := anyNumber(r)
		if r.IntN(4) > 0 {
			n = len(m.list) - r.IntN(4)
		}
		e := l.Back(n)
		ops, want := m.back(n)
		return l, e, want, ops
	case k < 59:
		again, e := log.Open(d)
		return again, e, api.OK, m.open()
	}
	return l, l.End(), api.OK, m.end()
}

func TestModel(t *testing.T) {
	r := rand.New(rand.NewPCG(14, 1))
	longest := 0
	for range 200 {
		d := disk.New(200)
		l := open(t, d)
		m := &model{}
		for i := range 100 {
			ops := d.Ops()
			var got, want api.Errno
			var n int
			l, got, want, n = m.step(r, d, l)
			if l == nil || got != want || d.Ops()-ops != n {
				t.Fatalf("step %d: %d, not %d; %d operations, not %d", i, got, want, d.Ops()-ops, n)
			}
			tells(t, "the model", l, m.list...)
			if m.isFile {
				file(t, "the model", d, sectors(t, m.list...)...)
			} else {
				file(t, "the model", d)
			}
			longest = max(longest, len(m.list))
			if t.Failed() {
				t.FailNow()
			}
		}
	}
	if longest < 30 {
		t.Error("no log is longer than", longest)
	}
}
