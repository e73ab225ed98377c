package log

import (
	"strings"

	"cahier/api"
	"cahier/seal"
)

// frame is what is kept of a frame: its Data stays on the disk.
type frame struct {
	page int
	sum  uint64 // of its sector: the next one's salt
}

// place: the sector of the frame number i, from 0; the top stands ahead of all.
func place(i int) int { return i + 1 }

// top: the first sector. Close takes its numbers and its bytes, so that error can't be.
func top() string {
	sector, _ := seal.Close(api.Sealed{Kind: api.KindTop, Number: 1, Data: strings.Repeat("\x00", api.Payload)})
	return sector
}

// sealed: what a frame's sector says.
func sealed(n int, data string, commit bool, salt uint64) api.Sealed {
	kind := api.KindFrame
	if commit {
		kind = api.KindCommit
	}
	return api.Sealed{Kind: kind, Number: n, Salt: salt, Data: data}
}

// sum: that of the last sector, on which the next frame hangs.
func (l *Log) sum() uint64 {
	if len(l.frames) == 0 {
		return seal.Sum(top())
	}
	return l.frames[len(l.frames)-1].sum
}

// take: a frame stands behind all others.
func (l *Log) take(f frame) {
	l.last[f.page] = len(l.frames)
	l.frames = append(l.frames, f)
}

// takeRight takes what the sector number i says, if that is right behind those
// ahead of it. It tells whether it is, and whether what is committed ends there.
func (l *Log) takeRight(i int, sector string) (isRight, isEnd bool) {
	if i == 0 {
		is := sector == top()
		return is, is
	}
	s, e := seal.Open(sector)
	isFrame := s.Kind == api.KindFrame || s.Kind == api.KindCommit
	if e != api.OK || !isFrame || s.Number >= api.MaxPages || s.Salt != l.sum() {
		return false, false
	}
	l.take(frame{page: s.Number, sum: seal.Sum(sector)})
	return true, s.Kind == api.KindCommit
}

// keep: only the first n frames are left.
func (l *Log) keep(n int) {
	l.frames = l.frames[:n]
	clear(l.last)
	for i, f := range l.frames {
		l.last[f.page] = i
	}
}
