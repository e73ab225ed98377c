package log_test

import (
	"encoding/binary"
	"math"
	"slices"
	"strconv"
	"strings"
	"testing"

	"cahier/api"
	"cahier/disk"
	"cahier/log"
	"cahier/seal"
)

// page: a page's bytes, unlike for unlike letters, and unlike from each end.
func page(letter byte) string {
	return "\x00" + strings.Repeat(string([]byte{letter}), api.Payload-2) + "\xff"
}

var noughts = strings.Repeat("\x00", api.Payload)

// sealed: a sector by the chapter's numbers.
func sealed(t *testing.T, kind, number int, salt uint64, data string) string {
	t.Helper()
	s, e := seal.Close(api.Sealed{Kind: kind, Number: number, Salt: salt, Data: data})
	if e != api.OK {
		t.Fatalf("no sector of the kind %d with the number %d: %d", kind, number, e)
	}
	return s
}

// sumOf: the number in a sector's last 8 bytes.
func sumOf(sector string) uint64 {
	return binary.BigEndian.Uint64([]byte(sector[248:]))
}

func top(t *testing.T) string {
	t.Helper()
	return sealed(t, 4, 1, 0, noughts)
}

// laid is what is handed to an Add.
type laid struct {
	n      int
	letter byte
	commit bool
}

// frames: one for each letter, of the page that the letter's place from a on tells; a great letter ends a transaction.
func frames(letters string) []laid {
	var list []laid
	for i := range len(letters) {
		c := letters[i]
		small := c | 0x20
		list = append(list, laid{n: int(small - 'a'), letter: c, commit: c != small})
	}
	return list
}

// over: a frame's sector behind the one ahead of it.
func (f laid) over(t *testing.T, ahead string) string {
	t.Helper()
	kind := 5
	if f.commit {
		kind = 6
	}
	return sealed(t, kind, f.n, sumOf(ahead), page(f.letter))
}

// sectors: those of a log of these frames, the top ahead.
func sectors(t *testing.T, list ...laid) []string {
	t.Helper()
	all := []string{top(t)}
	for _, f := range list {
		all = append(all, f.over(t, all[len(all)-1]))
	}
	return all
}

func want(t *testing.T, what string, got, want api.Errno) {
	t.Helper()
	if got != want {
		t.Errorf("%s: %d, not %d", what, got, want)
	}
}

func load(t *testing.T, sectors ...string) *disk.Disk {
	t.Helper()
	d := disk.New(100)
	want(t, "Load", d.Load("log", strings.Join(sectors, "")), api.OK)
	return d
}

func open(t *testing.T, d *disk.Disk) *log.Log {
	t.Helper()
	l, e := log.Open(d)
	if l == nil || e != api.OK {
		t.Fatalf("Open: %v, %d", l, e)
	}
	return l
}

// adds opens a disk's log, and adds these frames.
func adds(t *testing.T, d *disk.Disk, letters string) *log.Log {
	t.Helper()
	l := open(t, d)
	add(t, l, letters)
	return l
}

func add(t *testing.T, l *log.Log, letters string) {
	t.Helper()
	for _, f := range frames(letters) {
		want(t, "Add", l.Add(f.n, page(f.letter), f.commit), api.OK)
	}
}

// file asks the sectors of the file; none: there is no file.
func file(t *testing.T, what string, d *disk.Disk, sectors ...string) {
	t.Helper()
	if max(d.Size("log"), 0) != len(sectors) || d.Size("log") == 0 || d.Bytes("log") != strings.Join(sectors, "") {
		t.Errorf("%s: %d sectors, not %d, or other bytes", what, d.Size("log"), len(sectors))
	}
}

// tells asks a log that has just these frames.
func tells(t *testing.T, what string, l *log.Log, list ...laid) {
	t.Helper()
	if l.Len() != len(list) {
		t.Errorf("%s: Len is %d, not %d", what, l.Len(), len(list))
	}
	last := map[int]byte{}
	var pages []int
	for _, f := range list {
		last[f.n] = f.letter
		pages = append(pages, f.n)
	}
	slices.Sort(pages)
	pages = slices.Compact(pages)
	if !slices.Equal(l.Pages(), pages) {
		t.Errorf("%s: Pages are %d, not %d", what, l.Pages(), pages)
	}
	for _, n := range append(pages, math.MinInt, -1, 0, 1, 2, 3, 25, 26, 4095, 4096, math.MaxInt) {
		letter, has := last[n]
		data := ""
		if has {
			data = page(letter)
		}
		if s, is, e := l.Get(n); s != data || is != has || e != api.OK {
			t.Errorf("%s: Get(%d): %.2q, %v, %d, not %c", what, n, s, is, e, letter)
		}
	}
}

// op is an operation of a disk.
type op func(d *disk.Disk) api.Errno

// reads: the first sectors, one by one.
func reads(n int) []op {
	var ops []op
	for i := range n {
		ops = append(ops, read(i))
	}
	return ops
}

func read(i int) op {
	return func(d *disk.Disk) api.Errno {
		_, e := d.Read("log", i)
		return e
	}
}

func write(i int, data string) op {
	return func(d *disk.Disk) api.Errno { return d.Write("log", i, data) }
}

func sync() op { return func(d *disk.Disk) api.Errno { return d.Sync("log") } }

func cut(n int) op { return func(d *disk.Disk) api.Errno { return d.Cut("log", n) } }

func drop() op { return func(d *disk.Disk) api.Errno { return d.Drop("log") } }

// alike: two disks have the same files, with the same sectors.
func alike(t *testing.T, what string, got, want *disk.Disk) {
	t.Helper()
	if !slices.Equal(got.Names(), want.Names()) {
		t.Errorf("%s: the files are %q, not %q", what, got.Names(), want.Names())
		return
	}
	for _, name := range got.Names() {
		if got.Size(name) != want.Size(name) {
			t.Errorf("%s: %s has %d sectors, not %d", what, name, got.Size(name), want.Size(name))
		}
		for i := range got.Size(name) {
			s, e := got.Read(name, i)
			wantS, wantE := want.Read(name, i)
			if s != wantS || e != wantE {
				t.Errorf("%s: sector %d of %s isn't as it should be: %d, %d", what, i, name, e, wantE)
			}
		}
	}
}

// makes asks that a call makes just these operations, in this order: a call
// that is cut off in any of them leaves what those ahead of it leave, now and
// behind a loss of power. Set up anew for each time, it answers a disk and the call.
func makes(t *testing.T, what string, setup func() (*disk.Disk, func() api.Errno), ops ...op) {
	t.Helper()
	for at := range len(ops) + 1 {
		for _, kind := range []int{api.FaultIO, api.FaultPower} {
			for _, fates := range [][]int{nil, {0}, {1}, {2}, {1, 0}, {0, 2, 1}} {
				told := what + ", cut off at operation " + strconv.Itoa(at+1)
				got, call := setup()
				like, _ := setup()
				ahead := got.Ops()
				got.Arm(at+1, kind, 0)
				e := call()
				switch {
				case at == len(ops):
					want(t, what, e, api.OK)
				case kind == api.FaultIO:
					want(t, told, e, api.ErrIO)
				default:
					want(t, told, e, api.ErrDown)
				}
				if n := min(at+1, len(ops)); got.Ops()-ahead != n {
					t.Errorf("%s: %d operations, not %d", told, got.Ops()-ahead, n)
				}
				got.Arm(0, 0, 0)
				for _, o := range ops[:at] {
					o(like)
				}
				if !got.Down() && fates == nil {
					alike(t, told, got, like)
				}
				got.Off()
				like.Off()
				got.On(fates)
				like.On(fates)
				alike(t, told+", behind a loss of power", got, like)
			}
		}
	}
}

func TestName(t *testing.T) {
	if log.Name != "log" {
		t.Error(log.Name)
	}
}

func TestExamples(t *testing.T) {
	d := disk.New(100)
	l := open(t, d)
	want(t, "Add", l.Add(3, page('a'), false), api.OK)
	want(t, "Add", l.Add(4, page('b'), true), api.OK)
	want(t, "Sync", l.Sync(), api.OK)
	want(t, "Add", l.Add(3, page('c'), false), api.OK)
	tells(t, "a log", l, laid{3, 'a', false}, laid{4, 'b', true}, laid{3, 'c', false})
	tells(t, "opened", open(t, d), laid{3, 'a', false}, laid{4, 'b', true})

	for _, c := range []struct {
		fates []int
		want  string
	}{{[]int{1, 1, 2, 1}, ""}, {[]int{1, 1, 1, 2}, ""}, {[]int{2, 1, 1, 1}, ""}, {[]int{1, 1, 1, 1}, "abC"}} {
		d = disk.New(100)
		adds(t, d, "abC")
		d.Off()
		d.On(c.fates)
		tells(t, "with fates "+strconv.Itoa(c.fates[2]), open(t, d), frames(c.want)...)
	}
}

func TestNil(t *testing.T) {
	if l, e := log.Open(nil); l != nil || e != api.ErrNil {
		t.Error("Open", l, e)
	}
	var l *log.Log
	want(t, "Add", l.Add(0, page('a'), true), api.ErrNil)
	want(t, "Add of nothing", l.Add(-1, "", false), api.ErrNil)
	want(t, "Sync", l.Sync(), api.ErrNil)
	want(t, "Back", l.Back(0), api.ErrNil)
	want(t, "Back of too many", l.Back(1), api.ErrNil)
	want(t, "End", l.End(), api.ErrNil)
	for _, n := range []int{-1, 0, 4096} {
		if s, is, e := l.Get(n); s != "" || is || e != api.ErrNil {
			t.Error("Get", s, is, e)
		}
	}
	if l.Len() != 0 || len(l.Pages()) != 0 {
		t.Error("a nil log has frames")
	}
}

// P14.2

func TestAddRefuses(t *testing.T) {
	for _, letters := range []string{"", "aB"} {
		d := disk.New(100)
		l := adds(t, d, letters)
		bytes, ops := d.Bytes("log"), d.Ops()
		d.Arm(1, api.FaultPower, 0)
		for _, n := range []int{math.MinInt, -1, 4096, 4097, 1 << 32, math.MaxInt} {
			want(t, "Add "+strconv.Itoa(n), l.Add(n, page('x'), true), api.ErrArg)
		}
		for _, data := range []string{"", "x", page('x')[1:], page('x') + "x", strings.Repeat("x", api.Sector)} {
			want(t, "Add of bytes "+strconv.Itoa(len(data)), l.Add(0, data, false), api.ErrArg)
		}
		if d.Ops() != ops || d.Bytes("log") != bytes || d.Down() || letters == "" && d.Size("log") != -1 {
			t.Error("an Add that is refused works on the disk")
		}
		d.Arm(0, 0, 0)
		tells(t, "behind refusals", l, frames(letters)...)
		add(t, l, "bA")
		file(t, "behind refusals", d, sectors(t, frames(letters+"bA")...)...)
	}
}

func TestAdd(t *testing.T) {
	d := disk.New(100)
	l := open(t, d)
	var list []laid
	for i, n := range []int{4095, 0, 17, 4095, 0, 0, 4094, 1} {
		f := laid{n: n, letter: byte(i), commit: i%3 == 1}
		want(t, "Add", l.Add(f.n, page(f.letter), f.commit), api.OK)
		list = append(list, f)
		file(t, "Add", d, sectors(t, list...)...)
		tells(t, "Add", l, list...)
	}
	if !slices.Equal(d.Names(), []string{"log"}) {
		t.Error("an Add makes other files", d.Names())
	}
}

func TestAddMakes(t *testing.T) {
	setup := func(ahead string, then func(l *log.Log) api.Errno) func() (*disk.Disk, func() api.Errno) {
		return func() (*disk.Disk, func() api.Errno) {
			d := disk.New(100)
			l := adds(t, d, ahead)
			if then != nil {
				want(t, "ahead of the Add", then(l), api.OK)
			}
			return d, func() api.Errno { return l.Add(2, page('C'), true) }
		}
	}
	back := func(n int) func(l *log.Log) api.Errno {
		return func(l *log.Log) api.Errno { return l.Back(n) }
	}
	first := []op{write(0, top(t)), write(1, sectors(t, frames("C")...)[1])}
	makes(t, "a first Add", setup("", nil), first...)
	makes(t, "a second Add", setup("b", nil), write(2, sectors(t, frames("bC")...)[2]))
	makes(t, "an Add behind a commit", setup("aaB", (*log.Log).Sync), write(4, sectors(t, frames("aaBC")...)[4]))
	makes(t, "an Add behind Back", setup("aBd", back(1)), write(2, sectors(t, frames("aC")...)[2]))
	makes(t, "an Add behind Back to nothing", setup("aBd", back(0)), first[1])
	makes(t, "an Add behind End", setup("aBd", (*log.Log).End), first...)
	makes(t, "an Add behind a Back of nothing", setup("", back(0)), first...)
	makes(t, "an Add to a log that was opened", func() (*disk.Disk, func() api.Errno) {
		d := load(t, sectors(t, frames("aBd")...)...)
		l := open(t, d)
		return d, func() api.Errno { return l.Add(2, page('C'), true) }
	}, write(3, sectors(t, frames("aBC")...)[3]))
	makes(t, "an Add to a top", func() (*disk.Disk, func() api.Errno) {
		d := load(t, top(t))
		l := open(t, d)
		return d, func() api.Errno { return l.Add(2, page('C'), true) }
	}, first[1])
}

func TestSyncMakes(t *testing.T) {
	setup := func(ahead string, then func(l *log.Log) api.Errno) func() (*disk.Disk, func() api.Errno) {
		return func() (*disk.Disk, func() api.Errno) {
			d := disk.New(100)
			l := adds(t, d, ahead)
			want(t, "ahead of the Sync", then(l), api.OK)
			return d, l.Sync
		}
	}
	makes(t, "a Sync of nothing", setup("", (*log.Log).Sync))
	makes(t, "a Sync behind End", setup("aB", (*log.Log).End))
	makes(t, "a Sync", setup("aB", func(*log.Log) api.Errno { return api.OK }), sync())
	makes(t, "a second Sync", setup("aB", (*log.Log).Sync), sync())
	makes(t, "a Sync of a top", setup("aB", func(l *log.Log) api.Errno { return l.Back(0) }), sync())
}

// What failed isn't laid.
func TestAddThatFails(t *testing.T) {
	for room, letters := range []string{"", "", "a", "aB"} {
		d := disk.New(room)
		l := adds(t, d, letters)
		want(t, "Add without room", l.Add(9, page('x'), false), api.ErrFull)
		if pages := []int{0, 1}[:len(letters)]; l.Len() != len(letters) || !slices.Equal(l.Pages(), pages) {
			t.Error("without room", room, l.Len(), l.Pages())
		}
	}
	d := disk.New(100)
	for i := range api.MaxFiles {
		want(t, "Load", d.Load(strconv.Itoa(i), ""), api.OK)
	}
	l := open(t, d)
	want(t, "Add without a file", l.Add(9, page('x'), true), api.ErrFull)
	if l.Len() != 0 || len(l.Pages()) != 0 {
		t.Error("without a file", l.Len(), l.Pages())
	}
	for kind, e := range map[int]api.Errno{api.FaultIO: api.ErrIO, api.FaultPower: api.ErrDown} {
		for at := range 2 {
			for _, letters := range []string{"", "ba"}[:2-at] {
				d := disk.New(100)
				l := adds(t, d, letters)
				d.Arm(at+1, kind, 0)
				want(t, "Add with a fault", l.Add(0, page('x'), true), e)
				if pages := []int{0, 1}[:len(letters)]; l.Len() != len(letters) || !slices.Equal(l.Pages(), pages) {
					t.Error("with a fault", at, kind, l.Len(), l.Pages())
				}
			}
		}
	}
}

// A Sync that failed can be done again.
func TestSyncThatFails(t *testing.T) {
	d := disk.New(100)
	l := adds(t, d, "aB")
	d.Arm(1, api.FaultIO, 0)
	want(t, "Sync with a fault", l.Sync(), api.ErrIO)
	tells(t, "behind a Sync that failed", l, frames("aB")...)
	want(t, "Sync", l.Sync(), api.OK)
	d.Off()
	d.On(nil)
	tells(t, "behind a loss of power", open(t, d), frames("aB")...)
}

// P14.3

func TestGetReadsOnce(t *testing.T) {
	d := disk.New(100)
	l := adds(t, d, "abaBc")
	for n, reads := range map[int]int{0: 1, 1: 1, 2: 1, 3: 0, -1: 0, 4096: 0, math.MaxInt: 0} {
		ops := d.Ops()
		l.Get(n)
		if d.Ops()-ops != reads {
			t.Errorf("Get(%d): %d operations, not %d", n, d.Ops()-ops, reads)
		}
		d.Arm(1, api.FaultIO, 0)
		s, is, e := l.Get(n)
		d.Arm(0, 0, 0)
		if s != "" || is || (e == api.ErrIO) != (reads == 1) || (e == api.OK) != (reads == 0) {
			t.Errorf("Get(%d) with a fault: %.2q, %v, %d", n, s, is, e)
		}
	}
	ops := d.Ops()
	if l.Len() != 5 || !slices.Equal(l.Pages(), []int{0, 1, 2}) || d.Ops() != ops {
		t.Error("Len or Pages", l.Len(), l.Pages(), d.Ops()-ops)
	}
	tells(t, "behind faults", l, frames("abaBc")...)
	d.Arm(1, api.FaultPower, 0)
	if s, is, e := l.Get(0); s != "" || is || e != api.ErrDown {
		t.Errorf("Get when the power goes: %.2q, %v, %d", s, is, e)
	}
	if l.Len() != 5 || !slices.Equal(l.Pages(), []int{0, 1, 2}) {
		t.Error("without power", l.Len(), l.Pages())
	}
}

// The disk is asked at each Get, and a sector that was spoilt since is no page.
func TestGetReadsTheDisk(t *testing.T) {
	d := disk.New(100)
	l := adds(t, d, "abA")
	all := sectors(t, frames("abA")...)
	for _, at := range []int{0, 100, 231, 232, 255} {
		spoilt := []byte(all[3])
		spoilt[at] ^= 1
		want(t, "Write", d.Write("log", 3, string(spoilt)), api.OK)
		if s, is, e := l.Get(0); s != "" || is || e != api.ErrSeal {
			t.Errorf("Get of what was spoilt at %d: %.2q, %v, %d", at, s, is, e)
		}
	}
	want(t, "Write", d.Write("log", 3, all[3]), api.OK)
	tells(t, "mended", l, frames("abA")...)
}

func TestPagesAreNewMemory(t *testing.T) {
	l := adds(t, disk.New(100), "cabA")
	for range 2 {
		pages := l.Pages()
		if !slices.Equal(pages, []int{0, 1, 2}) {
			t.Error(pages)
		}
		_ = append(pages[:0], 9, 9, 9)
	}
	tells(t, "with lists that were written", l, frames("cabA")...)
}

// P14.4

func TestBackRefuses(t *testing.T) {
	for _, letters := range []string{"", "a", "abA"} {
		d := disk.New(100)
		l := adds(t, d, letters)
		ops := d.Ops()
		for _, n := range []int{math.MinInt, -1, len(letters) + 1, 4096, math.MaxInt} {
			want(t, "Back to "+strconv.Itoa(n), l.Back(n), api.ErrArg)
		}
		want(t, "Back of nothing", l.Back(len(letters)), api.OK)
		if d.Ops() != ops || l.Len() != len(letters) || letters == "" && d.Size("log") != -1 {
			t.Error("a Back of nothing works on the disk")
		}
		tells(t, "behind refusals", l, frames(letters)...)
	}
}

func TestBack(t *testing.T) {
	const letters = "abAcbBaC"
	for n := range len(letters) + 1 {
		d := disk.New(100)
		l := adds(t, d, letters)
		if n%2 == 0 {
			want(t, "Sync", l.Sync(), api.OK)
		}
		want(t, "Back", l.Back(n), api.OK)
		what := "Back to " + strconv.Itoa(n)
		tells(t, what, l, frames(letters[:n])...)
		file(t, what, d, sectors(t, frames(letters[:n])...)...)
		want(t, "Back to more", l.Back(n+1), api.ErrArg)
		add(t, l, "dA")
		tells(t, what+" and more", l, frames(letters[:n]+"dA")...)
		file(t, what+" and more", d, sectors(t, frames(letters[:n]+"dA")...)...)
		tells(t, what+" and opened", open(t, d), frames(letters[:n]+"dA")...)
	}
}

func TestBackMakes(t *testing.T) {
	setup := func(letters string, n int, first func(l *log.Log) api.Errno) func() (*disk.Disk, func() api.Errno) {
		return func() (*disk.Disk, func() api.Errno) {
			d := disk.New(100)
			l := adds(t, d, letters)
			want(t, "ahead of the Back", first(l), api.OK)
			return d, func() api.Errno { return l.Back(n) }
		}
	}
	nothing := func(*log.Log) api.Errno { return api.OK }
	makes(t, "a Back of nothing", setup("aBc", 3, nothing))
	makes(t, "a Back of nothing, synced", setup("aBc", 3, (*log.Log).Sync))
	makes(t, "a Back of one", setup("aBc", 2, nothing), cut(3))
	makes(t, "a Back of one, synced", setup("aBc", 2, (*log.Log).Sync), cut(3))
	makes(t, "a Back of two", setup("aBc", 1, (*log.Log).Sync), cut(2))
	makes(t, "a Back of all", setup("aBc", 0, nothing), cut(1))
	makes(t, "a Back of no frames", setup("", 0, nothing))
	makes(t, "a Back behind End", setup("aBc", 0, (*log.Log).End))
	makes(t, "a Back behind a Back", setup("aBc", 0, func(l *log.Log) api.Errno { return l.Back(2) }), cut(1))
	makes(t, "a Back behind a Back of all", setup("aBc", 0, func(l *log.Log) api.Errno { return l.Back(0) }))
}

func TestEnd(t *testing.T) {
	for _, letters := range []string{"", "a", "aBcA"} {
		d := disk.New(100)
		l := adds(t, d, letters)
		for range 2 {
			want(t, "End", l.End(), api.OK)
			file(t, "End", d)
			tells(t, "End", l)
			want(t, "Back", l.Back(1), api.ErrArg)
			want(t, "Sync", l.Sync(), api.OK)
		}
		add(t, l, "dbD")
		file(t, "behind End", d, sectors(t, frames("dbD")...)...)
		tells(t, "behind End", l, frames("dbD")...)
	}
}

func TestEndMakes(t *testing.T) {
	setup := func(letters string, first func(l *log.Log) api.Errno) func() (*disk.Disk, func() api.Errno) {
		return func() (*disk.Disk, func() api.Errno) {
			d := disk.New(100)
			want(t, "Load", d.Load("data", "x"), api.OK)
			l := adds(t, d, letters)
			want(t, "ahead of the End", first(l), api.OK)
			return d, l.End
		}
	}
	makes(t, "an End", setup("aB", (*log.Log).Sync), drop())
	makes(t, "an End of what waits", setup("aB", func(*log.Log) api.Errno { return api.OK }), drop())
	makes(t, "an End of a top", setup("aB", func(l *log.Log) api.Errno { return l.Back(0) }), drop())
	makes(t, "an End of nothing", setup("", (*log.Log).Sync))
	makes(t, "a second End", setup("aB", (*log.Log).End))
}

// A Back or End that failed has taken no frames from the log.
func TestBackAndEndThatFail(t *testing.T) {
	for kind, e := range map[int]api.Errno{api.FaultIO: api.ErrIO, api.FaultPower: api.ErrDown} {
		for what, call := range map[string]func(l *log.Log) api.Errno{
			"Back": func(l *log.Log) api.Errno { return l.Back(1) },
			"End":  (*log.Log).End,
		} {
			d := disk.New(100)
			l := adds(t, d, "baC")
			d.Arm(1, kind, 0)
			want(t, what+" with a fault", call(l), e)
			if l.Len() != 3 || !slices.Equal(l.Pages(), []int{0, 1, 2}) {
				t.Error(what, "with a fault", l.Len(), l.Pages())
			}
			d.Off()
			d.On([]int{api.FateKept})
			if l.Len() != 3 || !slices.Equal(l.Pages(), []int{0, 1, 2}) {
				t.Error(what, "behind a loss of power", l.Len(), l.Pages())
			}
			tells(t, what+" behind a loss of power", open(t, d), frames("baC")...)
		}
	}
}

// Two logs over two disks have nothing in common, nor has a log with its file's later ones what Len and Pages tell.
func TestLogsApart(t *testing.T) {
	d, other := disk.New(100), disk.New(100)
	l, m := adds(t, d, "aB"), adds(t, other, "c")
	add(t, l, "d")
	tells(t, "one", l, frames("aBd")...)
	tells(t, "the other", m, frames("c")...)
	later := open(t, d)
	add(t, later, "eF")
	if l.Len() != 3 || !slices.Equal(l.Pages(), []int{0, 1, 3}) {
		t.Error("a log whose file another one took over", l.Len(), l.Pages())
	}
	tells(t, "the later one", later, frames("aBeF")...)
}

// All the room of a disk can be one log.
func TestManyFrames(t *testing.T) {
	d := disk.New(api.MaxRoom)
	l := open(t, d)
	for i := range api.MaxRoom - 1 {
		if e := l.Add(i%api.MaxPages, page(byte(i>>4)), i%5 == 0); e != api.OK {
			t.Fatal(i, e)
		}
	}
	want(t, "Add without room", l.Add(0, page('x'), true), api.ErrFull)
	l = open(t, d)
	if l.Len() != 16381 || len(l.Pages()) != api.MaxPages || d.Size("log") != 16382 {
		t.Error(l.Len(), len(l.Pages()), d.Size("log"))
	}
	for n, i := range map[int]int{0: 12288, 4092: 16380, 4093: 12285, 4095: 12287} {
		if s, is, e := l.Get(n); s != page(byte(i>>4)) || !is || e != api.OK {
			t.Errorf("Get(%d): %.2q, %v, %d", n, s, is, e)
		}
	}
}
