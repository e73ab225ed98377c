package pager_test

import (
	"encoding/binary"
	"slices"
	"strings"
	"testing"

	"cahier/api"
	"cahier/disk"
	"cahier/head"
	"cahier/pager"
	"cahier/seal"
)

// P15.1

// sector: a sealed one.
func sector(t *testing.T, kind, number int, salt uint64, data string) string {
	t.Helper()
	s, e := seal.Close(api.Sealed{Kind: kind, Number: number, Salt: salt, Data: data})
	if e != api.OK {
		t.Fatal(e)
	}
	return s
}

// first: a head's page.
func first(t *testing.T, h api.Head) string {
	t.Helper()
	s, e := head.Encode(h)
	if e != api.OK {
		t.Fatal(e)
	}
	return s
}

// mainFile: the sectors of a database in the main file.
func mainFile(t *testing.T, b database) []string {
	t.Helper()
	list := []string{sector(t, 1, 0, 0, first(t, b.head))}
	for i, data := range b.pages {
		list = append(list, sector(t, 1, i+1, 0, data))
	}
	return list
}

// frame is one of a log.
type frame struct {
	n      int
	data   string
	commit bool
}

// logFile: the sectors of a log.
func logFile(t *testing.T, frames ...frame) []string {
	t.Helper()
	list := []string{sector(t, 4, 1, 0, noughts)}
	for _, f := range frames {
		kind := 5
		if f.commit {
			kind = 6
		}
		ahead := list[len(list)-1]
		list = append(list, sector(t, kind, f.n, binary.BigEndian.Uint64([]byte(ahead[248:])), f.data))
	}
	return list
}

// journalFile: the sectors of a journal with a foot, over so many pages.
func journalFile(t *testing.T, pages int, records ...api.Page) []string {
	t.Helper()
	var list []string
	for _, r := range records {
		list = append(list, sector(t, 2, r.N, 9, r.Data))
	}
	numbers := binary.BigEndian.AppendUint32(nil, uint32(pages))
	return append(list, sector(t, 3, len(records), 9, string(numbers)+noughts[4:]))
}

// load lays files on a disk.
func load(t *testing.T, files map[string][]string) *disk.Disk {
	t.Helper()
	d := disk.New(api.MaxRoom)
	for name, sectors := range files {
		want(t, "Load", d.Load(name, strings.Join(sectors, "")), api.OK)
	}
	return d
}

// some: a database of three pages.
func some(mode int) database {
	return database{
		head:  api.Head{Mode: mode, Pages: 4, Root: 2, Change: 7},
		pages: []string{page('a'), page('b'), page('c')},
	}
}

// with: a database with another page, or none that can be read.
func (b database) with(n int, data string) database {
	b = b.copied()
	b.pages[n-1] = data
	return b
}

func TestOpenOfNothing(t *testing.T) {
	if p, e := pager.Open(nil, 3); p != nil || e != api.ErrNil {
		t.Error(p, e)
	}
	fresh := database{head: api.Head{Mode: 1, Pages: 1}}
	own := some(2)
	whole := logFile(t, frame{1, page('x'), false}, frame{0, first(t, own.head), true})
	for _, files := range []map[string][]string{
		{},
		{"data": nil},
		{"log": whole},
		{"data": nil, "log": whole},
		{"Data": mainFile(t, own)},
	} {
		d := load(t, files)
		holds(t, "nothing", open(t, d, 3), fresh)
		if d.Ops() != 0 || d.Bytes("log") != strings.Join(files["log"], "") {
			t.Error(files, d.Ops())
		}
	}
}

func TestOpenWithoutPower(t *testing.T) {
	for _, files := range []map[string][]string{{}, {"data": mainFile(t, some(1))}} {
		d := load(t, files)
		d.Off()
		if p, e := pager.Open(d, 3); p != nil || e != api.ErrDown {
			t.Error(p, e)
		}
		d.On(nil)
		open(t, d, 3)
	}
}

// With the journal's mode what stands in a log, or behind the pages, plays no part.
func TestOpenOfAMainFile(t *testing.T) {
	b := some(1)
	other := some(2)
	logs := [][]string{
		nil,
		logFile(t, frame{1, page('x'), false}, frame{0, first(t, other.head), true}),
		{"junk"},
	}
	for _, behind := range []string{"", "junk", sector(t, 1, 4, 0, page('x'))} {
		for _, frames := range logs {
			d := load(t, map[string][]string{"data": append(mainFile(t, b), behind), "log": frames})
			holds(t, "a main file", open(t, d, 2), b)
			if d.Bytes("log") != strings.Join(frames, "")+strings.Repeat("\x00", (256-len(strings.Join(frames, ""))%256)%256) {
				t.Error("the log was changed")
			}
		}
	}
}

func TestOpenOfALog(t *testing.T) {
	b := some(2)
	next := b.with(1, page('x')).with(3, page('z'))
	next.head.Root = 3
	next.head.Change = 8
	frames := []frame{{1, page('w'), false}, {3, page('z'), true}, {1, page('x'), false}, {9, page('!'), false}, {0, first(t, next.head), true}}
	d := load(t, map[string][]string{"data": mainFile(t, b), "log": logFile(t, frames...)})
	holds(t, "a log", open(t, d, 2), next)
	// What isn't committed, or behind what isn't right, is gone.
	short := slices.Concat(frames, []frame{{2, page('!'), false}, {1, page('!'), false}})
	d = load(t, map[string][]string{"data": mainFile(t, b), "log": logFile(t, short...)})
	holds(t, "a log that isn't ended", open(t, d, 2), next)
	if d.Size("log") != 6 {
		t.Error(d.Size("log"))
	}
	torn := logFile(t, frames...)
	torn[4] = strings.Repeat("\x00", 256)
	now := b.with(1, page('w')).with(3, page('z'))
	d = load(t, map[string][]string{"data": mainFile(t, b), "log": torn})
	holds(t, "a log that was spoilt", open(t, d, 2), now)
	// A log that says nothing.
	for _, sectors := range [][]string{nil, {"junk"}, logFile(t), logFile(t, short[0])} {
		d = load(t, map[string][]string{"data": mainFile(t, b), "log": sectors})
		holds(t, "a log of nothing", open(t, d, 2), b)
	}
	d = load(t, map[string][]string{"data": mainFile(t, b)})
	holds(t, "no log", open(t, d, 2), b)
}

// dark: sectors from which the page n can't be read.
func dark(t *testing.T, n int, data string) map[string]string {
	t.Helper()
	good := sector(t, 1, n, 0, data)
	return map[string]string{
		"noughts":        strings.Repeat("\x00", 256),
		"another byte":   "x" + good[1:],
		"another seal":   good[:255] + string([]byte{good[255] ^ 1}),
		"another kind":   sector(t, 6, n, 0, data),
		"a record":       sector(t, 2, n, 0, data),
		"another number": sector(t, 1, n+1, 0, data),
	}
}

func TestHeadThatCannotBeRead(t *testing.T) {
	for _, mode := range []int{1, 2} {
		b := some(mode)
		ways := dark(t, 0, first(t, b.head))
		ways["no head"] = sector(t, 1, 0, 0, page('h'))
		ways["no fit head"] = sector(t, 1, 0, 0, "cahier01"+noughts[8:])
		ways["torn"] = "torn"
		for what, bad := range ways {
			next := some(2)
			unfit := "cahier02" + first(t, next.head)[8:]
			logs := map[string][]string{
				"no file":         nil,
				"junk":            {"junk"},
				"no head":         logFile(t, frame{1, page('x'), true}),
				"not committed":   logFile(t, frame{1, page('x'), true}, frame{0, first(t, next.head), false}),
				"the other mode":  logFile(t, frame{0, first(t, some(1).head), true}),
				"no fit head":     logFile(t, frame{0, unfit, true}),
				"no fit head now": logFile(t, frame{0, first(t, next.head), true}, frame{0, unfit, true}),
				"a head":          logFile(t, frame{0, unfit, true}, frame{3, page('x'), false}, frame{0, first(t, next.head), true}),
			}
			for in, frames := range logs {
				d := load(t, map[string][]string{"data": mainFile(t, b)})
				spoil(t, d, 0, bad)
				if frames != nil {
					want(t, "Load", d.Load("log", strings.Join(frames, "")), api.OK)
				}
				p, e := pager.Open(d, 3)
				if in != "a head" {
					if p != nil || e != api.ErrBad {
						t.Errorf("%s, in the log %s: %v, %d", what, in, p, e)
					}
					continue
				}
				if p == nil || e != api.OK {
					t.Fatalf("%s, in the log %s: %v, %d", what, in, p, e)
				}
				holds(t, what, p, next.with(3, page('x')))
			}
		}
	}
}

// The main file's head says that there is a log; what that says of the head holds, if it says something.
func TestHeadInTheLog(t *testing.T) {
	b := some(2)
	unfit := strings.Repeat("x", 232)
	for what, f := range map[string]frame{"the other mode": {0, first(t, some(1).head), true}, "no head": {0, unfit, true}} {
		d := load(t, map[string][]string{"data": mainFile(t, b), "log": logFile(t, f)})
		if p, e := pager.Open(d, 3); p != nil || e != api.ErrBad {
			t.Errorf("%s: %v, %d", what, p, e)
		}
	}
	d := load(t, map[string][]string{"data": mainFile(t, b), "log": logFile(t, frame{2, page('x'), true})})
	p := open(t, d, 3)
	holds(t, "a log without a head", p, b.with(2, page('x')))
	want(t, "Checkpoint", p.Checkpoint(), api.OK)
	holds(t, "a log without a head", open(t, d, 3), b.with(2, page('x')))
}

// spoil gives the main file another sector, or a torn one.
func spoil(t *testing.T, d *disk.Disk, n int, bytes string) {
	t.Helper()
	if bytes != "torn" {
		want(t, "Write", d.Write("data", n, bytes), api.OK)
		want(t, "Sync", d.Sync("data"), api.OK)
		return
	}
	want(t, "Write", d.Write("data", n, strings.Repeat("x", 256)), api.OK)
	d.Off()
	d.On([]int{api.FateTorn})
}

// A change that was cut off is undone ahead of all else.
func TestOpenWithAJournal(t *testing.T) {
	for _, mode := range []int{1, 2} {
		b := some(mode)
		records := []api.Page{{N: 2, Data: b.pages[1]}, {N: 0, Data: first(t, b.head)}, {N: 2, Data: page('x')}}
		changed := mainFile(t, b.with(2, page('x')).with(3, page('c')))
		changed[0] = "junk" + changed[0][4:]
		changed = append(changed, sector(t, 1, 4, 0, page('x')))
		d := load(t, map[string][]string{"data": changed, "journal": journalFile(t, 4, records...)})
		holds(t, "a journal", open(t, d, 3), b)
		if d.Size("journal") != -1 || d.Bytes("data") != strings.Join(mainFile(t, b), "") {
			t.Error(d.Names(), d.Size("data"))
		}
		// Of one without a foot nothing counts.
		sectors := journalFile(t, 4, api.Page{N: 1, Data: page('!')}, records[1])
		d = load(t, map[string][]string{"data": mainFile(t, b), "journal": sectors[:2]})
		holds(t, "a journal without a foot", open(t, d, 3), b)
		if d.Size("journal") != -1 {
			t.Error(d.Names())
		}
		// One that asks for pages where none can be.
		d = load(t, map[string][]string{"journal": journalFile(t, 4, api.Page{N: 3, Data: page('!')})})
		if p, e := pager.Open(d, 3); p != nil || e != api.ErrBad {
			t.Error(p, e)
		}
	}
	// The first change of all.
	d := load(t, map[string][]string{"data": mainFile(t, some(1)), "journal": journalFile(t, 0)})
	holds(t, "a first change", open(t, d, 3), database{head: api.Head{Mode: 1, Pages: 1}})
}

// disks: such as an Open has much to do with, and what it then tells.
func disks(t *testing.T) map[string]func() (*disk.Disk, database) {
	t.Helper()
	cut := journalFile(t, 4, api.Page{N: 0, Data: first(t, some(1).head)}, api.Page{N: 1, Data: page('y')})
	tail := logFile(t, frame{1, page('y'), false}, frame{0, first(t, some(2).head), true}, frame{2, page('!'), false})
	return map[string]func() (*disk.Disk, database){
		"a main file": func() (*disk.Disk, database) {
			return load(t, map[string][]string{"data": mainFile(t, some(1))}), some(1)
		},
		"a journal": func() (*disk.Disk, database) {
			files := append(mainFile(t, some(1)), "junk")
			return load(t, map[string][]string{"data": files, "journal": cut}), some(1).with(1, page('y'))
		},
		"a log": func() (*disk.Disk, database) {
			return load(t, map[string][]string{"data": mainFile(t, some(2)), "log": tail}), some(2).with(1, page('y'))
		},
		"a log that is junk": func() (*disk.Disk, database) {
			return load(t, map[string][]string{"data": mainFile(t, some(2)), "log": {"junk"}}), some(2)
		},
		"a journal and a log": func() (*disk.Disk, database) {
			back := journalFile(t, 4, api.Page{N: 0, Data: first(t, some(2).head)}, api.Page{N: 2, Data: page('z')})
			d := load(t, map[string][]string{"data": mainFile(t, some(1)), "journal": back, "log": tail})
			return d, some(2).with(1, page('y')).with(2, page('z'))
		},
	}
}

// An error of the disk is the answer; then an Open finds what it would have found.
func TestOpenMeetsErrors(t *testing.T) {
	for what, make := range disks(t) {
		at, ended := 1, false
		for ; !ended; at++ {
			for _, more := range []int{0, 3} {
				d, b := make()
				d.Arm(at, api.FaultIO, more)
				ahead := d.Ops()
				p, e := pager.Open(d, 3)
				d.Arm(0, 0, 0)
				if ended = ahead+at > d.Ops(); ended {
					want(t, what, e, api.OK)
					holds(t, what, p, b)
					break
				}
				if p != nil || e != api.ErrIO {
					t.Fatalf("%s, the operation %d fails: %v, %d", what, at, p, e)
				}
				holds(t, what, open(t, d, 3), b)
			}
		}
		if at < 2 {
			t.Error(what, "meets no error")
		}
	}
}

// P15.3: pages that can't be read

func TestPagesThatCannotBeRead(t *testing.T) {
	for _, mode := range []int{1, 2} {
		b := some(mode)
		for n := 1; n <= 3; n++ {
			ways := dark(t, n, b.pages[n-1])
			ways["torn"] = "torn"
			for what, bad := range ways {
				d := load(t, map[string][]string{"data": mainFile(t, b)})
				spoil(t, d, n, bad)
				p := open(t, d, 2)
				holds(t, what, p, b.with(n, ""))
				holds(t, what, p, b.with(n, ""))
				if mode == 2 {
					// It is of no matter once the log has the page.
					d.Load("log", strings.Join(logFile(t, frame{n, page('x'), true}), ""))
					holds(t, what, open(t, d, 2), b.with(n, page('x')))
				}
			}
		}
		// With fewer sectors than pages.
		for n := 1; n <= 3; n++ {
			d := load(t, map[string][]string{"data": mainFile(t, b)[:n]})
			short := b
			for k := n; k <= 3; k++ {
				short = short.with(k, "")
			}
			holds(t, "a short file", open(t, d, 2), short)
		}
	}
}

// A trunk that can't be read is told, and the transaction goes on.
func TestTrunkThatCannotBeRead(t *testing.T) {
	for _, mode := range []int{1, 2} {
		b := some(mode)
		b.head.Trunk, b.head.Spare, b.head.Root = 2, 1, 0
		d := load(t, map[string][]string{"data": mainFile(t, b)})
		spoil(t, d, 2, "torn")
		p := open(t, d, 2)
		want(t, "Begin", p.Begin(), api.OK)
		for _, o := range ops("new free:1") {
			if got := o.call(p); got != (answer{e: api.ErrBad}) {
				t.Errorf("%s: %v", o.what, got)
			}
		}
		want(t, "Put", p.Put(1, page('x')), api.OK)
		want(t, "Commit", p.Commit(), api.OK)
		now := b.with(2, "").with(1, page('x'))
		now.head.Change++
		holds(t, "a trunk", open(t, d, 2), now)
	}
}

// A page that can't be read is written as any other, and can be read then; the others that can't be still can't.
func TestWritingPagesThatCannotBeRead(t *testing.T) {
	for _, mode := range []int{1, 2} {
		b := some(mode)
		trials := map[string]func() (*disk.Disk, database){
			"torn": func() (*disk.Disk, database) {
				d := load(t, map[string][]string{"data": mainFile(t, b)})
				spoil(t, d, 2, "torn")
				return d, b.with(2, "")
			},
			"two": func() (*disk.Disk, database) {
				d := load(t, map[string][]string{"data": mainFile(t, b)})
				spoil(t, d, 1, "torn")
				spoil(t, d, 2, strings.Repeat("\x00", 256))
				return d, b.with(1, "").with(2, "")
			},
			"short": func() (*disk.Disk, database) {
				d := load(t, map[string][]string{"data": mainFile(t, b)[:1]})
				return d, b.with(1, "").with(2, "").with(3, "")
			},
		}
		for _, make := range trials {
			for _, words := range []string{"begin put:2:x commit", "begin put:3:x put:2:y commit checkpoint", "begin new put:1:x commit checkpoint", "begin new put:4:x commit mode:2 mode:1"} {
				d, had := make()
				w := &world{t: t, d: d, p: open(t, d, 2), size: 2, m: modelOf(had)}
				w.plays(words)
				w.whole()
				w.again()
				failsOverDark(t, words, make)
			}
		}
	}
}

// failsOverDark: a transaction that can't be committed leaves what can't be read so, too.
func failsOverDark(t *testing.T, words string, make func() (*disk.Disk, database)) {
	t.Helper()
	for at := 1; ; at++ {
		d, had := make()
		w := &world{t: t, d: d, p: open(t, d, 1), size: 1, m: modelOf(had)}
		for _, o := range ops(words) {
			if o.what != "commit" {
				w.play(o)
				continue
			}
			ahead := w.d.Ops()
			w.d.Arm(at, api.FaultIO, 0)
			got := o.call(w.p)
			if w.d.Ops()-ahead < at {
				return
			}
			w.d.Arm(0, 0, 0)
			if got.e == api.OK {
				w.m.call(o)
			} else {
				want(t, "Commit", got.e, api.ErrAbort)
				w.m.ends(w.m.safe)
			}
			w.whole()
			w.again()
			break
		}
	}
}
