package pager_test

import (
	"encoding/binary"
	"slices"
	"strconv"
	"strings"
	"testing"

	"cahier/api"
	"cahier/disk"
	"cahier/head"
	"cahier/pager"
	"cahier/seal"
	"cahier/spare"
)

// page: a page's bytes, unlike for unlike letters, and unlike from each end.
func page(letter byte) string {
	return "\x00" + strings.Repeat(string([]byte{letter}), api.Payload-2) + "\xff"
}

var noughts = strings.Repeat("\x00", api.Payload)

func want(t *testing.T, what string, got, want api.Errno) {
	t.Helper()
	if got != want {
		t.Errorf("%s: %d, not %d", what, got, want)
	}
}

func open(t *testing.T, d *disk.Disk, size int) *pager.Pager {
	t.Helper()
	p, e := pager.Open(d, size)
	if p == nil || e != api.OK {
		t.Fatalf("Open: %v, %d", p, e)
	}
	return p
}

// database is a head, and pages from 1 on; "" is one that can't be read.
type database struct {
	head  api.Head
	pages []string
}

func (b *database) Get(n int) (string, api.Errno) {
	if b.pages[n-1] == "" {
		return "", api.ErrBad
	}
	return b.pages[n-1], api.OK
}

func (b *database) Put(n int, data string) api.Errno {
	b.pages[n-1] = data
	return api.OK
}

func (b database) copied() database {
	return database{b.head, slices.Clone(b.pages)}
}

func (b database) is(c database) bool {
	return b.head == c.head && slices.Equal(b.pages, c.pages)
}

// seen: the database that a pager tells.
func seen(t *testing.T, p *pager.Pager) database {
	t.Helper()
	b := database{head: p.Head()}
	for n := 1; n < b.head.Pages; n++ {
		data, e := p.Get(n)
		if e != api.OK && (e != api.ErrBad || data != "") {
			t.Fatalf("Get(%d): %d bytes, %d", n, len(data), e)
		}
		b.pages = append(b.pages, data)
	}
	for _, n := range []int{-1, 0, b.head.Pages, b.head.Pages + 1} {
		if data, e := p.Get(n); data != "" || e != api.ErrPage {
			t.Fatalf("Get(%d) of %d pages: %d bytes, %d", n, b.head.Pages, len(data), e)
		}
	}
	return b
}

// holds asks that a pager tells just this database.
func holds(t *testing.T, what string, p *pager.Pager, b database) {
	t.Helper()
	if got := seen(t, p); !got.is(b) {
		t.Fatalf("%s: %s, not %s", what, got, b)
	}
}

// String: a database in short.
func (b database) String() string {
	s := "[" + strconv.Itoa(b.head.Mode) + " #" + strconv.FormatUint(b.head.Change, 10) + " root " + strconv.Itoa(b.head.Root) + " trunk " + strconv.Itoa(b.head.Trunk) + " spare " + strconv.Itoa(b.head.Spare) + " pages " + strconv.Itoa(b.head.Pages) + ":"
	for _, data := range b.pages {
		s += " " + strconv.Quote((data + "--")[1:2])
	}
	return s + "]"
}

// sealed: what a sector says, if it can be read.
func sealed(file string, i int) (api.Sealed, bool) {
	if len(file) < 256*(i+1) {
		return api.Sealed{}, false
	}
	s, e := seal.Open(file[256*i : 256*(i+1)])
	return s, e == api.OK
}

// onDisk: the database that a disk has with no call under way, by the chapter's words.
func onDisk(t *testing.T, d *disk.Disk) database {
	t.Helper()
	if d.Size("journal") >= 0 {
		t.Fatal("there is a journal")
	}
	main, frames := d.Bytes("data"), map[int]string{}
	if main == "" {
		return database{head: api.Head{Mode: 1, Pages: 1}}
	}
	in := func(n int) string {
		if data, is := frames[n]; is {
			return data
		}
		if s, is := sealed(main, n); is && s.Kind == 1 && s.Number == n {
			return s.Data
		}
		return ""
	}
	h, e := head.Decode(in(0))
	if e != api.OK || h.Mode == 2 {
		frames = committed(d.Bytes("log"))
		h, e = head.Decode(in(0))
		if e != api.OK || h.Mode != 2 {
			t.Fatalf("the head in the log: %+v, %d", h, e)
		}
	}
	b := database{head: h}
	for n := 1; n < h.Pages; n++ {
		b.pages = append(b.pages, in(n))
	}
	return b
}

// committed: the last committed frames of a log's pages, by chapter 14's words.
func committed(file string) map[int]string {
	all, now := map[int]string{}, map[int]string{}
	top, is := sealed(file, 0)
	if !is || top.Kind != 4 || top.Number != 1 || top.Salt != 0 || top.Data != noughts {
		return all
	}
	for i := 1; ; i++ {
		s, is := sealed(file, i)
		if !is || s.Kind != 5 && s.Kind != 6 || s.Salt != binary.BigEndian.Uint64([]byte(file[256*i-8:256*i])) {
			return all
		}
		now[s.Number] = s.Data
		if s.Kind == 6 {
			for n, data := range now {
				all[n] = data
			}
		}
	}
}

// op is a call of a pager.
type op struct {
	what   string
	n      int
	letter byte
}

// ops: calls from words like "begin new put:1:a commit".
func ops(words string) []op {
	var list []op
	for _, w := range strings.Fields(words) {
		parts := strings.Split(w, ":")
		o := op{what: parts[0]}
		if len(parts) > 1 {
			o.n, _ = strconv.Atoi(parts[1])
		}
		if len(parts) > 2 {
			o.letter = parts[2][0]
		}
		list = append(list, o)
	}
	return list
}

// answer is what a call answers: a page, or a number.
type answer struct {
	data string
	n    int
	e    api.Errno
}

// String: an answer in short.
func (a answer) String() string {
	return strconv.Quote((a.data + "--")[1:2]) + " " + strconv.Itoa(a.n) + " error " + strconv.Itoa(int(a.e))
}

// call calls a pager.
func (o op) call(p *pager.Pager) answer {
	switch o.what {
	case "ready":
		return answer{e: p.Ready()}
	case "get":
		data, e := p.Get(o.n)
		return answer{data: data, e: e}
	case "put":
		return answer{e: p.Put(o.n, page(o.letter))}
	case "new":
		n, e := p.New()
		return answer{n: n, e: e}
	case "free":
		return answer{e: p.Free(o.n)}
	case "root":
		return answer{e: p.Root(o.n)}
	case "reset":
		return answer{e: p.Reset()}
	case "begin":
		return answer{e: p.Begin()}
	case "commit":
		return answer{e: p.Commit()}
	case "rollback":
		return answer{e: p.Rollback()}
	case "save":
		return answer{e: p.Save()}
	case "back":
		return answer{e: p.Back(o.n)}
	case "release":
		return answer{e: p.Release(o.n)}
	case "mode":
		return answer{e: p.Mode(o.n)}
	case "checkpoint":
		return answer{e: p.Checkpoint()}
	}
	panic(o.what)
}

// model is the chapter's pager in plain pages, all copied over and over.
type model struct {
	database          // as it is now
	safe     database // as it is committed
	saves    []database
	busy     bool
	made     bool
}

func newModel() *model {
	fresh := database{head: api.Head{Mode: 1, Pages: 1}}
	return &model{database: fresh, safe: fresh.copied()}
}

// modelOf: the model of what is committed.
func modelOf(b database) *model {
	return &model{database: b.copied(), safe: b.copied()}
}

func (m *model) copied() *model {
	c := *m
	c.database, c.safe = m.database.copied(), m.safe.copied()
	c.saves = nil
	for _, s := range m.saves {
		c.saves = append(c.saves, s.copied())
	}
	return &c
}

// ends a transaction.
func (m *model) ends(b database) {
	*m = *modelOf(b)
}

func (m *model) isPage(n int) bool { return n >= 1 && n < m.head.Pages }

// did: something was changed.
func (m *model) did() answer {
	m.made = true
	return answer{}
}

// call does on the model what a call does on a pager that meets no error.
func (m *model) call(o op) answer {
	switch o.what {
	case "ready":
		return answer{}
	case "get":
		if !m.isPage(o.n) {
			return answer{e: api.ErrPage}
		}
		data, e := m.Get(o.n)
		return answer{data: data, e: e}
	case "begin", "mode", "checkpoint":
		if m.busy {
			return answer{e: api.ErrState}
		}
		return m.outside(o)
	}
	if !m.busy {
		return answer{e: api.ErrState}
	}
	switch o.what {
	case "put", "new", "free", "root", "reset":
		return m.change(o)
	}
	return m.inside(o)
}

func (m *model) outside(o op) answer {
	switch {
	case o.what == "begin":
		m.busy = true
	case o.what == "mode" && o.n != 1 && o.n != 2:
		return answer{e: api.ErrArg}
	case o.what == "mode" && o.n != m.head.Mode:
		m.head.Mode = o.n
		m.head.Change++
		m.ends(m.database)
	}
	return answer{}
}

func (m *model) inside(o op) answer {
	switch o.what {
	case "commit":
		if m.made {
			m.head.Change++
		}
		m.ends(m.database)
		return answer{}
	case "rollback":
		m.ends(m.safe)
		return answer{}
	case "save":
		if len(m.saves) == 16 {
			return answer{e: api.ErrMany}
		}
		m.saves = append(m.saves, m.database.copied())
		return answer{}
	}
	if o.n < 1 || o.n > len(m.saves) {
		return answer{e: api.ErrArg}
	}
	if o.what == "back" {
		m.database = m.saves[o.n-1].copied()
		m.saves = m.saves[:o.n]
	} else {
		m.saves = m.saves[:o.n-1]
	}
	return answer{}
}

func (m *model) change(o op) answer {
	switch o.what {
	case "new":
		n, h, e := spare.Take(m.head, &m.database)
		if e != api.OK {
			return answer{e: e}
		}
		if h.Pages > m.head.Pages {
			m.pages = append(m.pages, "")
		}
		m.head, m.pages[n-1] = h, noughts
		m.made = true
		return answer{n: n}
	case "reset":
		m.head = api.Head{Mode: m.head.Mode, Pages: 1, Change: m.head.Change}
		m.pages = nil
		return m.did()
	case "root":
		if o.n < 0 || o.n > m.head.Pages-1 {
			return answer{e: api.ErrPage}
		}
		m.head.Root = o.n
		return m.did()
	}
	if !m.isPage(o.n) {
		return answer{e: api.ErrPage}
	}
	if o.what == "put" {
		m.Put(o.n, page(o.letter))
		return m.did()
	}
	h, e := spare.Give(m.head, &m.database, o.n)
	if e != api.OK {
		return answer{e: e}
	}
	m.head = h
	return m.did()
}

// world is a disk, a pager over it, and the model of what it has to be.
type world struct {
	t    *testing.T
	d    *disk.Disk
	p    *pager.Pager
	size int
	m    *model
}

func newWorld(t *testing.T, size int) *world {
	t.Helper()
	d := disk.New(api.MaxRoom)
	return &world{t: t, d: d, p: open(t, d, size), size: size, m: newModel()}
}

// plays calls that meet no error of the disk: each answers what the model does.
func (w *world) plays(words string) {
	w.t.Helper()
	for _, o := range ops(words) {
		w.play(o)
	}
}

func (w *world) play(o op) {
	w.t.Helper()
	got, want := o.call(w.p), w.m.call(o)
	if got != want {
		w.t.Fatalf("%v: %v, not %v of %s", o, got, want, w.m.database)
	}
	w.same()
}

// same asks what the pager tells besides pages.
func (w *world) same() {
	w.t.Helper()
	if w.p.Head() != w.m.head || w.p.Busy() != w.m.busy || w.p.Saves() != len(w.m.saves) {
		w.t.Fatalf("%+v, %t, %d savepoints, not %s, %t, %d", w.p.Head(), w.p.Busy(), w.p.Saves(), w.m.database, w.m.busy, len(w.m.saves))
	}
}

// whole asks all that the pager tells, and what stands on the disk.
func (w *world) whole() {
	w.t.Helper()
	w.same()
	holds(w.t, "the pager", w.p, w.m.database)
	if b := onDisk(w.t, w.d); !b.is(w.m.safe) {
		w.t.Fatalf("on the disk: %s, not %s", b, w.m.safe)
	}
}

// again: the power goes, what waits is lost, and another pager is opened.
func (w *world) again(fates ...int) {
	w.t.Helper()
	w.d.Off()
	w.d.On(fates)
	w.reopen()
}

// reopen: another pager is opened, whose transaction isn't the former one's.
func (w *world) reopen() {
	w.t.Helper()
	w.p = open(w.t, w.d, w.size)
	w.m.ends(w.m.safe)
	w.whole()
}
