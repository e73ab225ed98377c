package num_test

import (
	"encoding/binary"
	"math"
	"strings"
	"testing"

	"cahier/api"
	"cahier/num"
)

// samples: the edges of all bytes and groups, and numbers spread between them.
func samples() []uint64 {
	list := []uint64{0, 1, 127, 128, 258, 300, 1<<64 - 1}
	for i := range 64 {
		list = append(list, 1<<i-1, 1<<i, 1<<i+1)
	}
	n := uint64(1)
	for range 2000 {
		n = n*6364136223846793005 + 1442695040888963407
		list = append(list, n, n>>(n>>58))
	}
	return list
}

func TestFixedHasTheLastBytes(t *testing.T) {
	for _, n := range samples() {
		all := string(binary.BigEndian.AppendUint64(nil, n))
		for width := 1; width <= 8; width++ {
			if got := num.Fixed(n, width); got != all[8-width:] {
				t.Fatalf("Fixed(%d, %d): %x", n, width, got)
			}
		}
	}
}

func TestFixedBeyondItsWidths(t *testing.T) {
	const n = 0x0102030405060708
	for _, c := range []struct {
		width int
		want  string
	}{
		{0, "\x08"}, {-1, "\x08"}, {math.MinInt, "\x08"},
		{9, "\x01\x02\x03\x04\x05\x06\x07\x08"}, {64, "\x01\x02\x03\x04\x05\x06\x07\x08"}, {math.MaxInt, "\x01\x02\x03\x04\x05\x06\x07\x08"},
	} {
		if got := num.Fixed(n, c.width); got != c.want {
			t.Errorf("Fixed(n, %d): %x", c.width, got)
		}
	}
}

func TestFixedExamples(t *testing.T) {
	if got := num.Fixed(258, 2); got != "\x01\x02" {
		t.Errorf("%x", got)
	}
	if got := num.Fixed(258, 1); got != "\x02" {
		t.Errorf("%x", got)
	}
}

func TestUnfixedIsTheWayBack(t *testing.T) {
	for _, n := range samples() {
		for width := 1; width <= 8; width++ {
			want := n << (64 - 8*width) >> (64 - 8*width)
			if got, e := num.Unfixed(num.Fixed(n, width)); got != want || e != api.OK {
				t.Fatalf("%d in %d bytes: %d, %d", n, width, got, e)
			}
		}
	}
	for _, s := range []string{"\x00", "\x01\x02", "\xff\x00\xff", "abcdefgh", "\xff\xff\xff\xff\xff\xff\xff\xff"} {
		if n, e := num.Unfixed(s); e != api.OK || num.Fixed(n, len(s)) != s {
			t.Errorf("%x: %d, %d", s, n, e)
		}
	}
}

func TestUnfixedRefusesOtherLengths(t *testing.T) {
	for _, s := range []string{"", "\x00\x00\x00\x00\x00\x00\x00\x00\x01", "123456789", strings.Repeat("x", 16), strings.Repeat("\x00", 5000)} {
		if n, e := num.Unfixed(s); n != 0 || e != api.ErrArg {
			t.Errorf("%d bytes: %d, %d", len(s), n, e)
		}
	}
}

func TestVarHasGroupsOfSevenBits(t *testing.T) {
	for _, n := range samples() {
		if got, want := num.Var(n), string(binary.AppendUvarint(nil, n)); got != want {
			t.Fatalf("Var(%d): %x, not %x", n, got, want)
		}
	}
	for _, c := range []struct {
		n    uint64
		want string
	}{{0, "\x00"}, {127, "\x7f"}, {128, "\x80\x01"}, {300, "\xac\x02"}, {1<<14 - 1, "\xff\x7f"}, {1 << 14, "\x80\x80\x01"}} {
		if got := num.Var(c.n); got != c.want {
			t.Errorf("Var(%d): %x", c.n, got)
		}
	}
}

func TestVarHasAsFewBytesAsItNeeds(t *testing.T) {
	for i := 1; i <= 9; i++ {
		n := uint64(1) << (7 * i)
		if below, from := len(num.Var(n-1)), len(num.Var(n)); below != i || from != i+1 {
			t.Errorf("around 2^%d: %d bytes, %d bytes", 7*i, below, from)
		}
	}
}

func TestUnvarOfVarWithAnyBytesBehind(t *testing.T) {
	for _, n := range samples() {
		s := num.Var(n)
		for _, behind := range []string{"", "\x00", "\x01", "\x80", "\xff", "\x00\x80", "text", strings.Repeat("\xff", 20)} {
			if got, k, e := num.Unvar(s + behind); got != n || k != len(s) || e != api.OK {
				t.Fatalf("Unvar(%x and %x): %d, %d, %d", s, behind, got, k, e)
			}
		}
	}
}

func TestUnvarTellsWhatIsTooShort(t *testing.T) {
	for _, high := range []string{"\x80", "\xff", "\xa5"} {
		for k := range 10 {
			s := strings.Repeat(high, k)
			if n, got, e := num.Unvar(s); n != 0 || got != 0 || e != api.ErrShort {
				t.Errorf("Unvar(%x): %d, %d, %d", s, n, got, e)
			}
		}
	}
	for _, n := range samples() {
		s := num.Var(n)
		for k := range len(s) {
			if got, bytes, e := num.Unvar(s[:k]); got != 0 || bytes != 0 || e != api.ErrShort {
				t.Fatalf("Unvar(%x): %d, %d, %d", s[:k], got, bytes, e)
			}
		}
	}
}

func TestUnvarTellsWhatIsNoNumber(t *testing.T) {
	nine := strings.Repeat("\x80", 9)
	for _, s := range []string{
		"\x80\x00", "\xff\x00", "\x80\x80\x00", "\xff\x80\x80\x00", "\x80\x00\x01", "\x81\x00\x80", nine[1:] + "\x00",
		nine + "\x00", nine + "\x02", nine + "\x7f", nine + "\x80", nine + "\x81", nine + "\xff",
		nine + "\x80\x01", strings.Repeat("\xff", 10), strings.Repeat("\xff", 100), strings.Repeat("\x80", 100),
	} {
		if n, k, e := num.Unvar(s); n != 0 || k != 0 || e != api.ErrForm {
			t.Errorf("Unvar(%x): %d, %d, %d", s, n, k, e)
		}
	}
	if n, k, e := num.Unvar(nine + "\x01"); n != 1<<63 || k != 10 || e != api.OK {
		t.Errorf("a tenth byte 1: %d, %d, %d", n, k, e)
	}
}

// wantUnvar: the errors as the chapter words them, and the numbers by products.
func wantUnvar(s string) (uint64, int, api.Errno) {
	n, unit := uint64(0), uint64(1)
	for i := range len(s) {
		if i == 9 && s[i] != 0 && s[i] != 1 || i > 0 && s[i] == 0 {
			return 0, 0, api.ErrForm
		}
		n += uint64(s[i]%128) * unit
		if s[i] < 128 {
			return n, i + 1, api.OK
		}
		unit *= 128
	}
	return 0, 0, api.ErrShort
}

// askUnvar holds Unvar to wantUnvar, and to Var.
func askUnvar(t *testing.T, s string) {
	t.Helper()
	n, k, e := num.Unvar(s)
	if wantN, wantK, wantE := wantUnvar(s); n != wantN || k != wantK || e != wantE {
		t.Fatalf("Unvar(%x): %d, %d, %d, not %d, %d, %d", s, n, k, e, wantN, wantK, wantE)
	}
	if e == api.OK && num.Var(n) != s[:k] {
		t.Fatalf("Unvar takes %x, Var gives %x", s[:k], num.Var(n))
	}
}

func TestUnvarTakesWhatVarGivesAlone(t *testing.T) {
	for a := range 256 {
		askUnvar(t, string([]byte{byte(a)}))
		for b := range 256 {
			askUnvar(t, string([]byte{byte(a), byte(b)}))
		}
	}
	some := []byte{0x00, 0x01, 0x02, 0x40, 0x7f, 0x80, 0x81, 0xff}
	for k := range 11 {
		for _, high := range []string{"\x80", "\x81", "\xff"} {
			head := strings.Repeat(high, k)
			for i := range len(some) * len(some) * len(some) {
				askUnvar(t, head+string([]byte{some[i%8], some[i/8%8], some[i/64]}))
			}
		}
	}
}

func TestFold(t *testing.T) {
	for _, c := range []struct {
		n    int
		want uint64
	}{
		{0, 0}, {-1, 1}, {1, 2}, {-2, 3}, {2, 4}, {-64, 127}, {64, 128},
		{math.MaxInt, 1<<64 - 2}, {math.MinInt, 1<<64 - 1}, {math.MaxInt - 1, 1<<64 - 4}, {math.MinInt + 1, 1<<64 - 3},
	} {
		if got := num.Fold(c.n); got != c.want {
			t.Errorf("Fold(%d): %d", c.n, got)
		}
		if got := num.Unfold(c.want); got != c.n {
			t.Errorf("Unfold(%d): %d", c.want, got)
		}
	}
}

func TestUnfoldIsTheWayBackOfEveryNumber(t *testing.T) {
	for _, n := range samples() {
		if got := num.Fold(num.Unfold(n)); got != n {
			t.Fatalf("Fold of Unfold(%d): %d", n, got)
		}
		if got := num.Unfold(num.Fold(int(n))); got != int(n) {
			t.Fatalf("Unfold of Fold(%d): %d", int(n), got)
		}
	}
	for n := -3000; n <= 3000; n++ {
		want := uint64(2 * n)
		if n < 0 {
			want = uint64(-2*n - 1)
		}
		if got := num.Fold(n); got != want || num.Unfold(got) != n {
			t.Fatalf("Fold(%d): %d", n, got)
		}
	}
}
