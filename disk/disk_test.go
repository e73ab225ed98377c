package disk_test

import (
	"math"
	"slices"
	"strconv"
	"strings"
	"testing"

	"cahier/api"
	"cahier/disk"
)

// sector: a sector's bytes, unlike for unlike letters, and unlike from each end.
func sector(letter byte) string {
	return strings.Repeat(string([]byte{letter}), api.Sector-2) + "\x00\xff"
}

var noughts = strings.Repeat("\x00", api.Sector)

func want(t *testing.T, what string, got, want api.Errno) {
	t.Helper()
	if got != want {
		t.Errorf("%s: %d, not %d", what, got, want)
	}
}

// write lays a sector for each letter, from sector i on.
func write(t *testing.T, d *disk.Disk, name string, i int, letters string) {
	t.Helper()
	for k := range len(letters) {
		want(t, "Write "+name, d.Write(name, i+k, sector(letters[k])), api.OK)
	}
}

// holds asks a file's sectors, by a letter each: 0 for bytes 0, ! for a torn one.
func holds(t *testing.T, d *disk.Disk, name, letters string) {
	t.Helper()
	if n := d.Size(name); n != len(letters) {
		t.Errorf("%q has %d sectors, not %d", name, n, len(letters))
	}
	all := ""
	for i := range len(letters) {
		data, err := sector(letters[i]), api.OK
		switch letters[i] {
		case '0':
			data = noughts
		case '!':
			data, err = "", api.ErrTorn
		}
		if s, e := d.Read(name, i); s != data || e != err {
			t.Errorf("%q, sector %d: %.4q, %d, not %c", name, i, s, e, letters[i])
		}
		if err == api.ErrTorn {
			data = noughts
		}
		all += data
	}
	if s, e := d.Read(name, len(letters)); s != "" || e != api.ErrNone {
		t.Errorf("%q, behind its end: %.4q, %d", name, s, e)
	}
	if d.Bytes(name) != all {
		t.Errorf("%q: its bytes aren't those of its sectors", name)
	}
}

func gone(t *testing.T, d *disk.Disk, name string) {
	t.Helper()
	if d.Size(name) != -1 || d.Bytes(name) != "" || slices.Contains(d.Names(), name) {
		t.Errorf("%q is there: %d sectors", name, d.Size(name))
	}
	_, e := d.Read(name, 0)
	want(t, "Read of what is gone", e, api.ErrNone)
}

// blink: the power goes, and comes again.
func blink(d *disk.Disk, fates ...int) {
	d.Off()
	d.On(fates)
}

// operations: those of a file and a number that are fit for all of them.
func operations(name string, i int, data string) map[string]func(d *disk.Disk) api.Errno {
	return map[string]func(d *disk.Disk) api.Errno{
		"Read": func(d *disk.Disk) api.Errno {
			s, e := d.Read(name, i)
			if e != api.OK && s != "" {
				return -1
			}
			return e
		},
		"Write": func(d *disk.Disk) api.Errno { return d.Write(name, i, data) },
		"Sync":  func(d *disk.Disk) api.Errno { return d.Sync(name) },
		"Cut":   func(d *disk.Disk) api.Errno { return d.Cut(name, i) },
		"Drop":  func(d *disk.Disk) api.Errno { return d.Drop(name) },
	}
}

func TestExamples(t *testing.T) {
	d := disk.New(8)
	write(t, d, "f", 0, "a")
	blink(d)
	gone(t, d, "f")
	for _, c := range []struct {
		fate int
		want string
	}{{2, "!"}, {0, "a"}, {1, "b"}} {
		d := disk.New(8)
		write(t, d, "f", 0, "a")
		want(t, "Sync", d.Sync("f"), api.OK)
		write(t, d, "f", 0, "b")
		blink(d, c.fate)
		holds(t, d, "f", c.want)
	}
	write(t, d, "f", 0, "abc")
	blink(d, 0, 0, 1)
	holds(t, d, "f", "00c")
	d.Arm(2, 1, 1)
	for _, e := range []api.Errno{0, api.ErrIO, api.ErrIO, 0} {
		want(t, "Sync", d.Sync("f"), e)
	}
}

// P3.1

func TestNewIsEmptyOnAndUnarmed(t *testing.T) {
	d := disk.New(5)
	if len(d.Names()) != 0 || d.Down() || d.Ops() != 0 || d.Life() != 0 {
		t.Error(d.Names(), d.Down(), d.Ops(), d.Life())
	}
	gone(t, d, "f")
	write(t, d, "f", 0, "abcde")
	other := disk.New(5)
	gone(t, other, "f")
}

// filled writes new sectors, into two files, till there is no room.
func filled(t *testing.T, d *disk.Disk) int {
	t.Helper()
	data := sector('r')
	for n := range api.MaxRoom + 10 {
		switch e := d.Write("f"+strconv.Itoa(n%2), n/2, data); e {
		case api.OK:
		case api.ErrFull:
			return n
		default:
			t.Fatalf("sector %d: %d", n, e)
		}
	}
	return math.MaxInt
}

func TestRoomOfNewAndRoom(t *testing.T) {
	for _, c := range [][2]int{
		{0, 0}, {1, 1}, {2, 2}, {7, 7}, {1000, 1000}, {-1, 0}, {math.MinInt, 0},
		{api.MaxRoom - 1, api.MaxRoom - 1}, {api.MaxRoom, api.MaxRoom}, {api.MaxRoom + 1, api.MaxRoom}, {math.MaxInt, api.MaxRoom},
	} {
		if n := filled(t, disk.New(c[0])); n != c[1] {
			t.Errorf("New(%d): room for %d", c[0], n)
		}
		d := disk.New(3)
		d.Room(c[0])
		if n := filled(t, d); n != c[1] {
			t.Errorf("Room(%d): room for %d", c[0], n)
		}
	}
}

func TestRoomWhateverIsThere(t *testing.T) {
	d := disk.New(6)
	write(t, d, "f", 0, "abc")
	write(t, d, "g", 0, "xyz")
	want(t, "Sync", d.Sync("g"), api.OK)
	d.Room(2)
	holds(t, d, "f", "abc")
	holds(t, d, "g", "xyz")
	write(t, d, "f", 0, "def")
	want(t, "new", d.Write("f", 3, sector('g')), api.ErrFull)
	want(t, "Cut", d.Cut("g", 1), api.OK)
	want(t, "four of two", d.Write("g", 1, sector('g')), api.ErrFull)
	want(t, "Cut", d.Cut("f", 1), api.OK)
	want(t, "two of two", d.Write("g", 1, sector('g')), api.ErrFull)
	d.Room(3)
	write(t, d, "g", 1, "w")
	want(t, "three of three", d.Write("h", 0, sector('g')), api.ErrFull)
	gone(t, d, "h")
	want(t, "Drop", d.Drop("f"), api.OK)
	write(t, d, "h", 0, "h")
	want(t, "Sync", d.Sync("g"), api.OK)
	blink(d)
	write(t, d, "g", 2, "q")
	holds(t, d, "g", "xwq")
	want(t, "three again", d.Write("g", 3, sector('g')), api.ErrFull)
	d.Off()
	d.Room(4)
	d.On([]int{api.FateKept})
	write(t, d, "g", 3, "r")
}

// P3.2

func TestRefusalsInTheirOrder(t *testing.T) {
	var none *disk.Disk
	long := strings.Repeat("n", api.MaxFile+1)
	for _, name := range []string{"", long, strings.Repeat("é", 9), "f"} {
		for what, do := range operations(name, 0, sector('a')) {
			want(t, "of a nil disk "+what, do(none), api.ErrNil)
			if name == "f" {
				continue
			}
			d := disk.New(0)
			d.Arm(1, api.FaultPower, 0)
			want(t, "no name: "+what, do(d), api.ErrArg)
			d.Off()
			want(t, "no name, no power: "+what, do(d), api.ErrArg)
			if d.Ops() != 0 || d.Life() != 1 {
				t.Errorf("%s: %d operations, %d lives", what, d.Ops(), d.Life())
			}
		}
	}
	for what, do := range operations("f", 0, sector('a')) {
		d := disk.New(0)
		d.Off()
		d.Arm(1, api.FaultIO, 5)
		want(t, "no power: "+what, do(d), api.ErrDown)
		if d.Ops() != 0 {
			t.Errorf("%s is counted without power", what)
		}
		d.On(nil)
		want(t, "a fault: "+what, do(d), api.ErrIO)
		d.Arm(1, api.FaultPower, 5)
		want(t, "the power goes in "+what, do(d), api.ErrDown)
		want(t, "behind that "+what, do(d), api.ErrDown)
		if d.Ops() != 2 || d.Life() != 2 || !d.Down() {
			t.Errorf("%s: %d operations, %d lives", what, d.Ops(), d.Life())
		}
	}
}

func TestWrongNumbersAndData(t *testing.T) {
	d := disk.New(9)
	write(t, d, "f", 0, "abc")
	for _, down := range []bool{false, true} {
		if down {
			d.Off()
		}
		for _, n := range []int{-1, -256, math.MinInt} {
			want(t, "Write", d.Write("f", n, sector('x')), api.ErrArg)
			want(t, "Cut", d.Cut("f", n), api.ErrArg)
		}
		for _, size := range []int{0, 1, api.Payload, api.Sector - 1, api.Sector + 1, 2 * api.Sector} {
			want(t, "Write", d.Write("f", 0, strings.Repeat("x", size)), api.ErrArg)
			want(t, "Write", d.Write("g", 7, strings.Repeat("x", size)), api.ErrArg)
		}
	}
	if d.Ops() != 3 {
		t.Errorf("%d operations", d.Ops())
	}
	d.On([]int{api.FateKept})
	holds(t, d, "f", "abc")
	gone(t, d, "g")
}

func TestNamesOfAnyBytes(t *testing.T) {
	names := []string{"\x00", "\xff\xfe", "data", "a/b", "..", " ", "0123456789abcdef", strings.Repeat("é", 8)}
	d := disk.New(20)
	for i, name := range names {
		write(t, d, name, 0, string(rune('a'+i)))
	}
	for i, name := range names {
		holds(t, d, name, string(rune('a'+i)))
	}
	slices.Sort(names)
	if !slices.Equal(d.Names(), names) {
		t.Errorf("%q", d.Names())
	}
}

func TestReadOfWhatIsThereAndWhatIsNot(t *testing.T) {
	d := disk.New(9)
	for _, i := range []int{0, 1, -1, math.MaxInt} {
		if s, e := d.Read("f", i); s != "" || e != api.ErrNone {
			t.Errorf("no file, %d: %q, %d", i, s, e)
		}
	}
	write(t, d, "f", 0, "abc")
	for _, i := range []int{3, 4, -1, math.MinInt, math.MaxInt, 1 << 32} {
		if s, e := d.Read("f", i); s != "" || e != api.ErrNone {
			t.Errorf("%d: %q, %d", i, s, e)
		}
	}
	holds(t, d, "f", "abc")
	write(t, d, "f", 1, "x")
	holds(t, d, "f", "axc")
}

func TestWriteMakesFilesAndGoesOnBehindThem(t *testing.T) {
	d := disk.New(9)
	for _, i := range []int{1, 2, math.MaxInt} {
		want(t, "no file", d.Write("f", i, sector('a')), api.ErrNone)
		gone(t, d, "f")
	}
	write(t, d, "f", 0, "ab")
	for _, i := range []int{3, 4, math.MaxInt} {
		want(t, "beyond the end", d.Write("f", i, sector('c')), api.ErrNone)
	}
	holds(t, d, "f", "ab")
	write(t, d, "f", 2, "c")
	holds(t, d, "f", "abc")
}

func TestWriteRefusesANinthFile(t *testing.T) {
	d := disk.New(100)
	for i := range api.MaxFiles {
		write(t, d, "f"+strconv.Itoa(i), 0, "a")
	}
	want(t, "one more", d.Write("z", 0, sector('z')), api.ErrFull)
	want(t, "one more, beyond its end", d.Write("z", 1, sector('z')), api.ErrNone)
	gone(t, d, "z")
	write(t, d, "f7", 1, "b")
	want(t, "Drop", d.Drop("f3"), api.OK)
	write(t, d, "z", 0, "z")
	want(t, "one more", d.Write("f3", 0, sector('z')), api.ErrFull)
	d.Room(0)
	want(t, "beyond the end, no room", d.Write("f7", 3, sector('z')), api.ErrNone)
	want(t, "no room", d.Write("f7", 2, sector('z')), api.ErrFull)
	blink(d)
	if len(d.Names()) != 0 {
		t.Error(d.Names())
	}
}

func TestWriteMendsWhatIsTorn(t *testing.T) {
	d := disk.New(9)
	write(t, d, "f", 0, "ab")
	blink(d, api.FateTorn)
	holds(t, d, "f", "!!")
	write(t, d, "f", 1, "c")
	holds(t, d, "f", "!c")
	blink(d, api.FateLost)
	holds(t, d, "f", "!!")
	write(t, d, "f", 0, "d")
	want(t, "Sync", d.Sync("f"), api.OK)
	holds(t, d, "f", "d!")
	blink(d, api.FateTorn)
	holds(t, d, "f", "d!")
}

func TestSyncMakesAllSectorsOfOneFileSafe(t *testing.T) {
	d := disk.New(9)
	want(t, "no file", d.Sync("f"), api.ErrNone)
	write(t, d, "f", 0, "abc")
	write(t, d, "g", 0, "xy")
	want(t, "Sync", d.Sync("f"), api.OK)
	holds(t, d, "f", "abc")
	write(t, d, "f", 1, "d")
	write(t, d, "f", 1, "e")
	want(t, "Sync", d.Sync("f"), api.OK)
	blink(d, api.FateTorn)
	holds(t, d, "f", "aec")
	holds(t, d, "g", "!!")
}

func TestCutIsAtOnce(t *testing.T) {
	d := disk.New(20)
	want(t, "no file", d.Cut("f", 0), api.ErrNone)
	write(t, d, "f", 0, "abcd")
	want(t, "Sync", d.Sync("f"), api.OK)
	write(t, d, "f", 1, "x")
	for _, n := range []int{5, 6, math.MaxInt} {
		want(t, "more than there are", d.Cut("f", n), api.ErrNone)
	}
	holds(t, d, "f", "axcd")
	want(t, "all", d.Cut("f", 4), api.OK)
	holds(t, d, "f", "axcd")
	want(t, "Cut", d.Cut("f", 2), api.OK)
	holds(t, d, "f", "ax")
	blink(d)
	holds(t, d, "f", "ab")
	write(t, d, "f", 2, "y")
	want(t, "Cut", d.Cut("f", 2), api.OK)
	write(t, d, "f", 2, "z")
	blink(d)
	holds(t, d, "f", "ab")
	want(t, "Cut", d.Cut("f", 0), api.OK)
	blink(d)
	holds(t, d, "f", "")
	write(t, d, "f", 0, "q")
	blink(d)
	holds(t, d, "f", "")
}

func TestWhatWaitsBehindACutWaitsStill(t *testing.T) {
	for _, c := range []struct {
		fates []int
		want  string
	}{{nil, ""}, {[]int{1, 0}, "a"}, {[]int{0, 1}, "0b"}, {[]int{2, 1}, "!b"}, {[]int{2, 0}, "!"}} {
		d := disk.New(20)
		write(t, d, "f", 0, "abc")
		want(t, "Cut", d.Cut("f", 2), api.OK)
		blink(d, c.fates...)
		holds(t, d, "f", c.want)
	}
}

func TestDropIsAtOnce(t *testing.T) {
	d := disk.New(20)
	want(t, "no file", d.Drop("f"), api.ErrNone)
	write(t, d, "f", 0, "ab")
	want(t, "Sync", d.Sync("f"), api.OK)
	want(t, "Drop", d.Drop("f"), api.OK)
	gone(t, d, "f")
	want(t, "again", d.Drop("f"), api.ErrNone)
	blink(d, api.FateKept)
	gone(t, d, "f")
	write(t, d, "f", 0, "c")
	want(t, "Sync", d.Sync("f"), api.OK)
	want(t, "Drop", d.Drop("f"), api.OK)
	write(t, d, "f", 0, "de")
	holds(t, d, "f", "de")
	blink(d, api.FateLost)
	gone(t, d, "f")
}

func TestOpsCountsWhatIsNotRefused(t *testing.T) {
	d := disk.New(1)
	steps := []func() api.Errno{
		func() api.Errno { return d.Sync("f") },
		func() api.Errno { return d.Write("f", 1, sector('a')) },
		func() api.Errno { return d.Write("f", 0, sector('a')) },
		func() api.Errno { return d.Write("f", 1, sector('a')) },
		func() api.Errno { _, e := d.Read("f", 0); return e },
		func() api.Errno { _, e := d.Read("f", 1); return e },
		func() api.Errno { return d.Cut("f", 9) },
		func() api.Errno { return d.Cut("f", 1) },
		func() api.Errno { return d.Drop("g") },
		func() api.Errno { return d.Drop("f") },
	}
	codes := []api.Errno{api.ErrNone, api.ErrNone, 0, api.ErrFull, 0, api.ErrNone, api.ErrNone, 0, api.ErrNone, 0}
	for i, do := range steps {
		want(t, "step "+strconv.Itoa(i), do(), codes[i])
		d.Size("f")
		d.Bytes("f")
		d.Names()
		d.Load("h", "")
		want(t, "no name", d.Sync(""), api.ErrArg)
		if d.Ops() != i+1 {
			t.Errorf("%d operations behind step %d", d.Ops(), i)
		}
	}
}

// P3.3

// codes: what so many operations on a file answer.
func codes(d *disk.Disk, name string, n int) []api.Errno {
	var list []api.Errno
	for range n {
		list = append(list, d.Sync(name))
	}
	return list
}

func TestArm(t *testing.T) {
	const io, down = api.ErrIO, api.ErrDown
	for _, c := range []struct {
		at, kind, more int
		want           []api.Errno
	}{
		{1, 1, 0, []api.Errno{io, 0, 0, 0, 0}},
		{1, 1, -1, []api.Errno{io, 0, 0, 0, 0}},
		{1, 1, math.MinInt, []api.Errno{io, 0, 0, 0, 0}},
		{1, 1, 1, []api.Errno{io, io, 0, 0, 0}},
		{3, 1, 0, []api.Errno{0, 0, io, 0, 0}},
		{2, 1, 2, []api.Errno{0, io, io, io, 0}},
		{2, 1, math.MaxInt, []api.Errno{0, io, io, io, io}},
		{math.MaxInt, 1, math.MaxInt, []api.Errno{0, 0, 0, 0, 0}},
		{1, 2, 0, []api.Errno{down, down, down, down, down}},
		{4, 2, 3, []api.Errno{0, 0, 0, down, down}},
		{0, 1, 5, []api.Errno{0, 0, 0, 0, 0}},
		{-1, 1, 5, []api.Errno{0, 0, 0, 0, 0}},
		{math.MinInt, 2, 5, []api.Errno{0, 0, 0, 0, 0}},
		{1, 0, 5, []api.Errno{0, 0, 0, 0, 0}},
		{1, 3, 5, []api.Errno{0, 0, 0, 0, 0}},
		{1, -1, 5, []api.Errno{0, 0, 0, 0, 0}},
		{1, math.MaxInt, 5, []api.Errno{0, 0, 0, 0, 0}},
	} {
		d := disk.New(2)
		write(t, d, "f", 0, "a")
		d.Arm(c.at, c.kind, c.more)
		if got := codes(d, "f", 5); !slices.Equal(got, c.want) {
			t.Errorf("Arm(%d, %d, %d): %d", c.at, c.kind, c.more, got)
		}
	}
}

func TestArmForgetsWhatWasArmedAhead(t *testing.T) {
	for _, c := range []struct {
		at, kind, more int
		want           []api.Errno
	}{
		{2, 1, 0, []api.Errno{0, api.ErrIO, 0, 0}},
		{2, 2, 0, []api.Errno{0, api.ErrDown, api.ErrDown, api.ErrDown}},
		{0, 1, 0, []api.Errno{0, 0, 0, 0}},
		{1, 0, 0, []api.Errno{0, 0, 0, 0}},
		{1, 3, 0, []api.Errno{0, 0, 0, 0}},
	} {
		for _, ahead := range [][3]int{{1, 1, 9}, {1, 2, 0}, {3, 1, 9}, {3, 2, 0}} {
			d := disk.New(2)
			write(t, d, "f", 0, "a")
			d.Arm(ahead[0], ahead[1], ahead[2])
			d.Arm(c.at, c.kind, c.more)
			if got := codes(d, "f", 4); !slices.Equal(got, c.want) {
				t.Errorf("Arm%v, Arm(%d, %d, %d): %d", ahead, c.at, c.kind, c.more, got)
			}
		}
	}
	d := disk.New(2)
	write(t, d, "f", 0, "a")
	d.Arm(1, api.FaultIO, 9)
	codes(d, "f", 2)
	d.Arm(2, api.FaultIO, 0)
	if got := codes(d, "f", 3); !slices.Equal(got, []api.Errno{0, api.ErrIO, 0}) {
		t.Errorf("armed amid a fault: %d", got)
	}
}

func TestArmCountsOperationsAlone(t *testing.T) {
	d := disk.New(2)
	write(t, d, "f", 0, "a")
	d.Arm(2, api.FaultIO, 1)
	for range 3 {
		want(t, "no name", d.Sync(""), api.ErrArg)
		want(t, "no bytes", d.Write("f", 0, ""), api.ErrArg)
		want(t, "Load", d.Load("g", "x"), api.OK)
		d.Bytes("f")
	}
	want(t, "first", d.Drop("h"), api.ErrNone)
	want(t, "no name", d.Drop(""), api.ErrArg)
	want(t, "second", d.Drop("h"), api.ErrIO)
	want(t, "no name", d.Cut("f", -1), api.ErrArg)
	want(t, "third", d.Cut("f", 0), api.ErrIO)
	want(t, "fourth", d.Cut("f", 0), api.OK)
}

func TestArmWithoutPower(t *testing.T) {
	d := disk.New(2)
	write(t, d, "f", 0, "a")
	d.Off()
	d.Arm(2, api.FaultIO, 0)
	want(t, "no power", d.Sync("f"), api.ErrDown)
	want(t, "no power", d.Sync("f"), api.ErrDown)
	d.On([]int{api.FateKept})
	if got := codes(d, "f", 3); !slices.Equal(got, []api.Errno{0, api.ErrIO, 0}) {
		t.Errorf("%d", got)
	}
}

func TestFaultsDoNothingElse(t *testing.T) {
	for _, kind := range []int{api.FaultIO, api.FaultPower} {
		for what, do := range operations("f", 1, sector('x')) {
			d := disk.New(9)
			write(t, d, "f", 0, "abc")
			want(t, "Sync", d.Sync("f"), api.OK)
			write(t, d, "f", 2, "d")
			d.Arm(1, kind, 0)
			if e := do(d); e != api.ErrIO && e != api.ErrDown {
				t.Errorf("%s: %d", what, e)
			}
			if kind == api.FaultIO {
				holds(t, d, "f", "abd")
			}
			if d.Bytes("f") != sector('a')+sector('b')+sector('d') {
				t.Errorf("%s, fault %d: it is done", what, kind)
			}
			blink(d)
			holds(t, d, "f", "abc")
		}
	}
}

// P3.4

func TestOffDisarms(t *testing.T) {
	for _, kind := range []int{api.FaultIO, api.FaultPower} {
		d := disk.New(2)
		write(t, d, "f", 0, "a")
		want(t, "Sync", d.Sync("f"), api.OK)
		d.Arm(1, kind, 9)
		blink(d)
		if got := codes(d, "f", 3); !slices.Equal(got, []api.Errno{0, 0, 0}) {
			t.Errorf("armed ahead of Off: %d", got)
		}
		d.Off()
		d.Arm(1, kind, 9)
		blink(d)
		if got := codes(d, "f", 3); !slices.Equal(got, []api.Errno{0, 0, 0}) {
			t.Errorf("armed ahead of a second Off: %d", got)
		}
	}
	d := disk.New(2)
	write(t, d, "f", 0, "a")
	d.Arm(1, api.FaultPower, 9)
	want(t, "power", d.Sync("f"), api.ErrDown)
	d.On([]int{api.FateKept})
	if got := codes(d, "f", 3); !slices.Equal(got, []api.Errno{0, 0, 0}) {
		t.Errorf("behind the power's fault: %d", got)
	}
}

func TestOffAndOnWhenTheyDoNothing(t *testing.T) {
	d := disk.New(9)
	write(t, d, "f", 0, "a")
	d.On([]int{api.FateTorn})
	holds(t, d, "f", "a")
	want(t, "Sync", d.Sync("f"), api.OK)
	write(t, d, "f", 0, "b")
	d.On(nil)
	holds(t, d, "f", "b")
	d.Arm(1, api.FaultIO, 0)
	d.On(nil)
	want(t, "still armed", d.Sync("f"), api.ErrIO)
	for range 3 {
		d.Off()
		if !d.Down() || d.Life() != 1 {
			t.Errorf("down %t, lives %d", d.Down(), d.Life())
		}
	}
	d.On([]int{api.FateLost})
	d.On([]int{api.FateKept})
	if d.Down() || d.Life() != 1 {
		t.Errorf("down %t, lives %d", d.Down(), d.Life())
	}
	holds(t, d, "f", "a")
}

func TestWhatWaitedBeforeAnOnNoLongerWaits(t *testing.T) {
	for _, fate := range []int{api.FateLost, api.FateKept, api.FateTorn} {
		d := disk.New(9)
		write(t, d, "f", 0, "ab")
		want(t, "Sync", d.Sync("f"), api.OK)
		write(t, d, "f", 0, "c")
		blink(d, fate)
		first := d.Bytes("f")
		write(t, d, "f", 1, "d")
		blink(d, api.FateKept, api.FateTorn)
		if d.Bytes("f") != first[:api.Sector]+sector('d') {
			t.Errorf("fate %d: there was a second one", fate)
		}
		holds(t, d, "f", map[int]string{api.FateLost: "ad", api.FateKept: "cd", api.FateTorn: "!d"}[fate])
	}
}

func TestFatesInTheirOrder(t *testing.T) {
	for _, c := range []struct {
		fates   []int
		a, b, z string
	}{
		{[]int{1, 2, 1, 2, 1}, "A!c", "X!", "R"},
		{[]int{1}, "ABc", "XY", "R"},
		{[]int{2}, "!!c", "!!", "!"},
		{[]int{0}, "abc", "xy", "r"},
		{nil, "abc", "xy", "r"},
		{[]int{}, "abc", "xy", "r"},
		{[]int{0, 1}, "aBc", "xY", "r"},
		{[]int{1, 0, 2}, "Abc", "!Y", "r"},
		{[]int{0, 0, 0, 1, 2, 1, 1, 1}, "abc", "xY", "!"},
		{[]int{3, -1, 1, math.MaxInt, math.MinInt}, "abc", "Xy", "r"},
	} {
		d := disk.New(20)
		for name, letters := range map[string]string{"z": "r", "a\xff": "xy", "a": "abc"} {
			write(t, d, name, 0, letters)
			want(t, "Sync", d.Sync(name), api.OK)
		}
		write(t, d, "z", 0, "R")
		write(t, d, "a\xff", 1, "Q")
		write(t, d, "a\xff", 0, "X")
		write(t, d, "a\xff", 1, "Y")
		write(t, d, "a", 1, "B")
		write(t, d, "a", 0, "A")
		held := slices.Clone(c.fates)
		blink(d, c.fates...)
		holds(t, d, "a", c.a)
		holds(t, d, "a\xff", c.b)
		holds(t, d, "z", c.z)
		if !slices.Equal(held, c.fates) {
			t.Errorf("%d became %d", held, c.fates)
		}
	}
}

func TestFilesEndBehindTheirLastSafeSector(t *testing.T) {
	for _, c := range []struct {
		fates []int
		want  string
	}{
		{[]int{1, 1, 1, 1}, "abcd"},
		{[]int{1, 1, 0, 0}, "ab"},
		{[]int{0, 0, 0, 1}, "000d"},
		{[]int{0, 2, 0, 0}, "0!"},
		{[]int{2, 0, 1, 0}, "!0c"},
		{[]int{0, 0, 0, 2}, "000!"},
		{[]int{1, 0, 0, 0}, "a"},
	} {
		d := disk.New(20)
		write(t, d, "f", 0, "abcd")
		blink(d, c.fates...)
		holds(t, d, "f", c.want)
		blink(d, api.FateTorn)
		holds(t, d, "f", c.want)
	}
	d := disk.New(20)
	write(t, d, "f", 0, "a")
	want(t, "Sync", d.Sync("f"), api.OK)
	write(t, d, "f", 1, "bcd")
	blink(d, 0, 1, 0)
	holds(t, d, "f", "a0c")
}

func TestSectorsOfZerosBehindAnOnAreSafe(t *testing.T) {
	d := disk.New(20)
	write(t, d, "f", 0, "abc")
	blink(d, 0, 0, 1)
	want(t, "Cut", d.Cut("f", 2), api.OK)
	blink(d, api.FateTorn)
	holds(t, d, "f", "00")
	write(t, d, "f", 1, "d")
	blink(d, api.FateLost)
	holds(t, d, "f", "00")
}

func TestFilesThatAreSureStay(t *testing.T) {
	for what, sure := range map[string]func(d *disk.Disk){
		"Load":       func(d *disk.Disk) { d.Load("f", "") },
		"Cut":        func(d *disk.Disk) { d.Write("f", 0, sector('a')); d.Cut("f", 0) },
		"Cut of all": func(d *disk.Disk) { d.Write("f", 0, sector('a')); d.Cut("f", 1) },
		"Sync":       func(d *disk.Disk) { d.Write("f", 0, sector('a')); d.Sync("f"); d.Cut("f", 0) },
		"On": func(d *disk.Disk) {
			d.Write("f", 0, sector('a'))
			blink(d, api.FateKept)
			d.Cut("f", 0)
		},
	} {
		d := disk.New(20)
		sure(d)
		for range 3 {
			blink(d)
			holds(t, d, "f", "")
		}
		d.Write("f", 0, sector('b'))
		blink(d)
		holds(t, d, "f", "")
		want(t, "Drop", d.Drop("f"), api.OK)
		d.Write("f", 0, sector('b'))
		blink(d)
		if d.Size("f") != -1 {
			t.Errorf("%s: the file that was made anew is sure", what)
		}
	}
}

func TestFilesThatAreNotSureGo(t *testing.T) {
	d := disk.New(20)
	write(t, d, "f", 0, "abc")
	want(t, "an error", d.Cut("f", 4), api.ErrNone)
	d.Arm(1, api.FaultIO, 0)
	want(t, "an error", d.Sync("f"), api.ErrIO)
	d.Arm(1, api.FaultIO, 0)
	want(t, "an error", d.Cut("f", 0), api.ErrIO)
	d.Arm(1, api.FaultPower, 0)
	want(t, "an error", d.Sync("f"), api.ErrDown)
	if d.Bytes("f") != sector('a')+sector('b')+sector('c') || d.Size("f") != 3 {
		t.Error("without power the file isn't as it was")
	}
	d.On(nil)
	gone(t, d, "f")
}

// P3.5

func TestLoad(t *testing.T) {
	for _, size := range []int{0, 1, 2, 255, 256, 257, 511, 512, 513, 5000, 1<<20 - 1, 1 << 20} {
		data := strings.Repeat("load me\xff", size/8+1)[:size]
		d := disk.New(0)
		want(t, "Load", d.Load("f", data), api.OK)
		for range 2 {
			if n := d.Size("f"); n != (size+255)/256 {
				t.Errorf("%d bytes: %d sectors", size, n)
			}
			all := d.Bytes("f")
			if !strings.HasPrefix(all, data) || strings.Trim(all[size:], "\x00") != "" || len(all) != d.Size("f")*256 {
				t.Errorf("%d bytes: %d bytes of sectors, %.20q", size, len(all), all)
			}
			want(t, "no room", d.Write("f", (size+255)/256, sector('z')), api.ErrFull)
			blink(d, api.FateTorn)
		}
	}
}

func TestLoadRefuses(t *testing.T) {
	for _, down := range []bool{false, true} {
		d := disk.New(0)
		if down {
			d.Off()
		}
		for i := range api.MaxFiles {
			want(t, "Load", d.Load(strconv.Itoa(i), ""), api.OK)
		}
		big := strings.Repeat("b", 1<<20+1)
		want(t, "no name", d.Load("", "x"), api.ErrArg)
		want(t, "a long name", d.Load(strings.Repeat("n", 17), "x"), api.ErrArg)
		want(t, "much, of a ninth file", d.Load("z", big), api.ErrArg)
		want(t, "much", d.Load("3", big), api.ErrArg)
		want(t, "a ninth file", d.Load("z", ""), api.ErrFull)
		want(t, "a ninth file", d.Load(strings.Repeat("n", 16), "x"), api.ErrFull)
		want(t, "the third one anew", d.Load("3", "x"), api.OK)
		if d.Bytes("3") != "x"+noughts[1:] || len(d.Names()) != 8 || d.Size("z") != -1 || d.Down() != down {
			t.Errorf("%q, %q", d.Names(), d.Bytes("3"))
		}
		var none *disk.Disk
		want(t, "nil", none.Load("", big), api.ErrNil)
	}
}

func TestLoadIsNoOperation(t *testing.T) {
	d := disk.New(0)
	d.Arm(1, api.FaultPower, 0)
	want(t, "Load", d.Load("f", "x"), api.OK)
	if d.Ops() != 0 || d.Down() {
		t.Error(d.Ops(), d.Down())
	}
	want(t, "Sync", d.Sync("f"), api.ErrDown)
	want(t, "Load without power", d.Load("g", "y"), api.OK)
	if d.Bytes("g") != "y"+noughts[1:] {
		t.Errorf("%q", d.Bytes("g"))
	}
	d.On([]int{api.FateTorn})
	if d.Bytes("f") != "x"+noughts[1:] || d.Bytes("g") != "y"+noughts[1:] || d.Ops() != 1 {
		t.Errorf("%q, %q, %d", d.Bytes("f"), d.Bytes("g"), d.Ops())
	}
}

func TestLoadTakesTheOldFilesPlace(t *testing.T) {
	d := disk.New(9)
	write(t, d, "f", 0, "abc")
	want(t, "Sync", d.Sync("f"), api.OK)
	write(t, d, "f", 0, "x")
	write(t, d, "g", 0, "xy")
	want(t, "Load", d.Load("f", sector('d')+sector('e')), api.OK)
	holds(t, d, "f", "de")
	d.Off()
	want(t, "Load", d.Load("g", sector('h')), api.OK)
	d.On([]int{api.FateTorn})
	holds(t, d, "f", "de")
	holds(t, d, "g", "h")
	write(t, d, "f", 1, "k")
	blink(d)
	holds(t, d, "f", "de")
	write(t, d, "f", 2, "k")
	blink(d, api.FateTorn)
	holds(t, d, "f", "de!")
}

func TestWhatIsToldWithoutPower(t *testing.T) {
	d := disk.New(9)
	write(t, d, "g", 0, "ab")
	write(t, d, "f", 0, "c")
	blink(d, api.FateKept, api.FateTorn, api.FateKept)
	write(t, d, "f", 0, "d")
	write(t, d, "f", 1, "e")
	d.Off()
	if d.Bytes("g") != noughts+sector('b') || d.Bytes("f") != sector('d')+sector('e') {
		t.Errorf("%q, %q", d.Bytes("g"), d.Bytes("f"))
	}
	if d.Size("g") != 2 || d.Size("f") != 2 || d.Size("h") != -1 || d.Size("") != -1 || d.Bytes("h") != "" || d.Bytes("") != "" {
		t.Error(d.Size("g"), d.Size("f"), d.Size("h"))
	}
	if !slices.Equal(d.Names(), []string{"f", "g"}) || !d.Down() || d.Life() != 2 || d.Ops() != 5 {
		t.Error(d.Names(), d.Down(), d.Life(), d.Ops())
	}
}

func TestNamesRiseAndAreNewMemory(t *testing.T) {
	d := disk.New(9)
	names := []string{"b", "a\x00", "\xff", "a", "B", "ab", "é", "\x00"}
	for _, name := range names {
		want(t, "Write", d.Write(name, 0, sector('a')), api.OK)
	}
	slices.Sort(names)
	for range 2 {
		got := d.Names()
		if !slices.Equal(got, names) {
			t.Errorf("%q", got)
		}
		for i := range got {
			got[i] = "spoilt"
		}
		_ = append(got[:0], "spoilt", "too")
	}
}

func TestNilDisk(t *testing.T) {
	var none *disk.Disk
	none.Room(5)
	none.Arm(1, api.FaultIO, 1)
	none.Off()
	none.On([]int{1, 2})
	if none.Bytes("f") != "" || none.Size("f") != -1 || len(none.Names()) != 0 || !none.Down() || none.Ops() != 0 || none.Life() != 0 {
		t.Error("a nil disk tells something")
	}
	if s, e := none.Read("f", 0); s != "" || e != api.ErrNil {
		t.Errorf("%q, %d", s, e)
	}
	want(t, "Load", none.Load("f", ""), api.ErrNil)
}

// P3.6

func TestWhatIsSafeStaysSafe(t *testing.T) {
	for _, fate := range []int{api.FateLost, api.FateKept, api.FateTorn, 7} {
		d := disk.New(20)
		want(t, "Load", d.Load("e", sector('l')), api.OK)
		write(t, d, "f", 0, "abcd")
		want(t, "Sync", d.Sync("f"), api.OK)
		write(t, d, "g", 0, "xy")
		blink(d, 1, 2)
		for range 4 {
			write(t, d, "h", 0, "wwww")
			d.Arm(2, api.FaultIO, 1)
			d.Read("f", 0)
			want(t, "Drop", d.Drop("f"), api.ErrIO)
			want(t, "Cut", d.Cut("f", 0), api.ErrIO)
			want(t, "beyond the end", d.Write("f", 9, sector('q')), api.ErrNone)
			want(t, "Cut", d.Cut("f", 5), api.ErrNone)
			d.Arm(1, api.FaultPower, 0)
			want(t, "Write", d.Write("f", 0, sector('q')), api.ErrDown)
			want(t, "Drop", d.Drop("f"), api.ErrDown)
			d.On([]int{fate})
			holds(t, d, "e", "l")
			holds(t, d, "f", "abcd")
			holds(t, d, "g", "x!")
		}
		write(t, d, "f", 2, "z")
		blink(d, fate)
		if all := d.Bytes("f"); all[:512] != sector('a')+sector('b') || all[768:] != sector('d') {
			t.Errorf("fate %d: a sector beside the written one is another one", fate)
		}
	}
}
