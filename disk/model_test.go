package disk_test

import (
	"fmt"
	"math/rand/v2"
	"slices"
	"strings"
	"testing"

	"cahier/api"
	"cahier/disk"
)

// What a model's sector can be beside its bytes.
const (
	none = "none"
	torn = "torn"
)

type spot struct {
	name string
	i    int
}

// model is a disk by the chapter's words alone: what each sector is, and what
// it is if the power goes, looked for sector by sector; it has no limits of names.
type model struct {
	size       map[string]int
	sure       map[string]bool
	now, safe  map[spot]string
	waits      map[spot]bool
	faults     map[int]int // by the operation's number from the beginning on
	room       int
	down       bool
	ops, lives int
}

func newModel(room int) *model {
	return &model{
		size: map[string]int{}, sure: map[string]bool{}, now: map[spot]string{}, safe: map[spot]string{},
		waits: map[spot]bool{}, faults: map[int]int{}, room: room,
	}
}

func (m *model) lay(at spot, now, safe string, waits bool) {
	m.now[at], m.safe[at], m.waits[at] = now, safe, waits
}

func (m *model) lift(name string, from int) {
	for at := range m.now {
		if at.name == name && at.i >= from {
			delete(m.now, at)
			delete(m.safe, at)
			delete(m.waits, at)
		}
	}
}

func (m *model) off() {
	m.faults = map[int]int{}
	if !m.down {
		m.lives++
	}
	m.down = true
}

// refused: what every operation asks first.
func (m *model) refused(fit bool) api.Errno {
	if !fit {
		return api.ErrArg
	}
	if m.down {
		return api.ErrDown
	}
	m.ops++
	switch m.faults[m.ops] {
	case api.FaultIO:
		return api.ErrIO
	case api.FaultPower:
		m.off()
		return api.ErrDown
	}
	return api.OK
}

func (m *model) there(name string) bool {
	_, ok := m.size[name]
	return ok
}

func (m *model) write(name string, i int, data string) api.Errno {
	if e := m.refused(i >= 0 && len(data) == 256); e != api.OK {
		return e
	}
	if i > m.size[name] {
		return api.ErrNone
	}
	if !m.there(name) && len(m.size) == 8 || i == m.size[name] && len(m.now)+1 > m.room {
		return api.ErrFull
	}
	at := spot{name, i}
	safe := none
	if i < m.size[name] {
		safe = m.safe[at]
	}
	m.lay(at, data, safe, true)
	m.size[name] = max(m.size[name], i+1)
	return api.OK
}

func (m *model) sync(name string) api.Errno {
	if e := m.refused(true); e != api.OK {
		return e
	}
	if !m.there(name) {
		return api.ErrNone
	}
	for i := range m.size[name] {
		at := spot{name, i}
		m.lay(at, m.now[at], m.now[at], false)
	}
	m.sure[name] = true
	return api.OK
}

func (m *model) cut(name string, n int) api.Errno {
	if e := m.refused(n >= 0); e != api.OK {
		return e
	}
	if !m.there(name) || m.size[name] < n {
		return api.ErrNone
	}
	m.lift(name, n)
	m.size[name], m.sure[name] = n, true
	return api.OK
}

func (m *model) drop(name string) api.Errno {
	if e := m.refused(true); e != api.OK {
		return e
	}
	if !m.there(name) {
		return api.ErrNone
	}
	m.remove(name)
	return api.OK
}

func (m *model) remove(name string) {
	m.lift(name, 0)
	delete(m.size, name)
	delete(m.sure, name)
}

func (m *model) read(name string, i int) (string, api.Errno) {
	if e := m.refused(true); e != api.OK {
		return "", e
	}
	switch s, ok := m.now[spot{name, i}]; {
	case !ok:
		return "", api.ErrNone
	case s == torn:
		return "", api.ErrTorn
	default:
		return s, api.OK
	}
}

func (m *model) load(name, data string) api.Errno {
	if !m.there(name) && len(m.size) == 8 {
		return api.ErrFull
	}
	m.remove(name)
	m.size[name], m.sure[name] = 0, true
	for data != "" {
		data += strings.Repeat("\x00", max(256-len(data), 0))
		m.lay(spot{name, m.size[name]}, data[:256], data[:256], false)
		m.size[name]++
		data = data[256:]
	}
	return api.OK
}

func (m *model) names() []string {
	var list []string
	for name := range m.size {
		list = append(list, name)
	}
	slices.Sort(list)
	return list
}

func (m *model) on(fates []int) {
	if !m.down {
		return
	}
	m.down = false
	k := 0
	for _, name := range m.names() {
		end := 0
		for i := range m.size[name] {
			at := spot{name, i}
			if m.waits[at] && len(fates) > 0 {
				switch fates[k%len(fates)] {
				case 1:
					m.safe[at] = m.now[at]
				case 2:
					m.safe[at] = torn
				}
			}
			if m.waits[at] {
				k++
			}
			if m.safe[at] != none {
				end = i + 1
			}
		}
		if end == 0 && !m.sure[name] {
			m.remove(name)
			continue
		}
		m.sure[name] = true
		m.lift(name, end)
		m.size[name] = end
		for i := range end {
			at := spot{name, i}
			if m.safe[at] == none {
				m.safe[at] = strings.Repeat("\x00", 256)
			}
			m.lay(at, m.safe[at], m.safe[at], false)
		}
	}
}

func (m *model) arm(at, kind, more int) {
	m.faults = map[int]int{}
	if at < 1 || kind != 1 && kind != 2 {
		return
	}
	m.faults[m.ops+at] = kind
	for i := range more {
		if kind == 1 {
			m.faults[m.ops+at+i+1] = kind
		}
	}
}

func (m *model) bytes(name string) string {
	all := ""
	for i := range m.size[name] {
		if s := m.now[spot{name, i}]; s == torn {
			all += strings.Repeat("\x00", 256)
		} else {
			all += s
		}
	}
	return all
}

// pair is a disk and its model, both asked the same.
type pair struct {
	d    *disk.Disk
	m    *model
	next func(n int) int
}

func (p *pair) name() string { return string(rune('a' + p.next(10))) }

func (p *pair) data() string { return sector(byte('a' + p.next(26))) }

// place: mostly a sector of the file, or the one behind it.
func (p *pair) place(name string) int { return p.next(p.m.size[name]+3) - 1 }

func (p *pair) fates() []int {
	var list []int
	for range p.next(6) {
		list = append(list, p.next(5)-1)
	}
	return list
}

// step asks one thing of both, and tells what it was, and what they answered.
func (p *pair) step() (string, api.Errno, api.Errno) {
	name := p.name()
	switch k := p.next(40); {
	case k < 14:
		i, data := p.place(name), p.data()
		return fmt.Sprintf("Write(%s, %d, %.1s..)", name, i, data), p.d.Write(name, i, data), p.m.write(name, i, data)
	case k < 19:
		return "Sync " + name, p.d.Sync(name), p.m.sync(name)
	case k < 22:
		n := p.place(name)
		return fmt.Sprintf("Cut(%s, %d)", name, n), p.d.Cut(name, n), p.m.cut(name, n)
	case k < 23:
		return "Drop " + name, p.d.Drop(name), p.m.drop(name)
	case k < 26:
		i := p.place(name)
		s, e := p.d.Read(name, i)
		want, wantE := p.m.read(name, i)
		if s != want {
			return fmt.Sprintf("Read(%s, %d), %.1s.. and %.1s..", name, i, s, want), e, -1
		}
		return fmt.Sprintf("Read(%s, %d)", name, i), e, wantE
	case k < 27:
		data := strings.Repeat("loaded ", p.next(150))
		return fmt.Sprintf("Load(%s, %d bytes)", name, len(data)), p.d.Load(name, data), p.m.load(name, data)
	}
	return p.befall(), 0, 0
}

// befall does what isn't asked of files.
func (p *pair) befall() string {
	switch p.next(4) {
	case 0:
		n := p.next(40) - 2
		p.d.Room(n)
		p.m.room = max(n, 0)
		return fmt.Sprintf("Room(%d)", n)
	case 1:
		at, kind, more := p.next(8)-1, p.next(4), p.next(5)-1
		p.d.Arm(at, kind, more)
		p.m.arm(at, kind, more)
		return fmt.Sprintf("Arm(%d, %d, %d)", at, kind, more)
	case 2:
		if p.next(3) > 0 {
			return "nothing"
		}
		p.d.Off()
		p.m.off()
		return "Off"
	}
	list := p.fates()
	p.d.On(list)
	p.m.on(list)
	return fmt.Sprintf("On(%d)", list)
}

// alike tells in what the disk isn't as its model.
func (p *pair) alike() string {
	if p.d.Ops() != p.m.ops || p.d.Life() != p.m.lives || p.d.Down() != p.m.down {
		return fmt.Sprintf("%d operations, %d lives, down: %t", p.d.Ops(), p.d.Life(), p.d.Down())
	}
	if !slices.Equal(p.d.Names(), p.m.names()) {
		return fmt.Sprintf("names %q, not %q", p.d.Names(), p.m.names())
	}
	for _, name := range p.m.names() {
		if p.d.Size(name) != p.m.size[name] || p.d.Bytes(name) != p.m.bytes(name) {
			return fmt.Sprintf("%s: %d sectors, not %d, or other bytes", name, p.d.Size(name), p.m.size[name])
		}
	}
	return ""
}

// play holds a disk to its model over so many steps.
func play(t *testing.T, next func(n int) int, steps int) {
	t.Helper()
	room := next(40)
	p := &pair{disk.New(room), newModel(room), next}
	var told []string
	for range steps {
		what, got, want := p.step()
		told = append(told, what)
		if fault := p.alike(); got != want || fault != "" {
			t.Fatalf("%d, not %d; %s; behind\n%s", got, want, fault, strings.Join(told, "\n"))
		}
	}
}

func TestDiskIsAsTheChapterWordsIt(t *testing.T) {
	for seed := range uint64(400) {
		play(t, rand.New(rand.NewPCG(seed, 3)).IntN, 300)
	}
}
