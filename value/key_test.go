package value_test

import (
	"encoding/binary"
	"math"
	"regexp"
	"slices"
	"strings"
	"testing"

	"cahier/api"
	"cahier/value"
)

// wantKey: a good value's Key, as the chapter words it.
func wantKey(v api.Val) string {
	out := []byte{byte(v.Kind)}
	switch v.Kind {
	case 1:
		out = binary.BigEndian.AppendUint64(out, uint64(v.N)^1<<63)
	case 2, 3:
		for i := range len(v.S) {
			out = append(out, v.S[i])
			if v.S[i] == 0 {
				out = append(out, 255)
			}
		}
		out = append(out, 0, 1)
	}
	return string(out)
}

// unkeys asks what Unkey answers, and that nothing is beside an error.
func unkeys(t *testing.T, s string, want api.Val, size int, e api.Errno) {
	t.Helper()
	if v, n, got := value.Unkey(s); v != want || n != size || got != e {
		t.Errorf("Unkey of %d bytes, %.20x: %d %d %.10q, %d, %d, not %d, %d", len(s), s, v.Kind, v.N, v.S, n, got, size, e)
	}
}

// P6.2

func TestKeysByHand(t *testing.T) {
	for _, c := range []struct {
		v    api.Val
		want string
	}{
		{api.Val{}, "\x00"},
		{intOf(1), "\x01\x80\x00\x00\x00\x00\x00\x00\x01"},
		{intOf(0), "\x01\x80\x00\x00\x00\x00\x00\x00\x00"},
		{intOf(-1), "\x01\x7f\xff\xff\xff\xff\xff\xff\xff"},
		{intOf(0x0102030405060708), "\x01\x81\x02\x03\x04\x05\x06\x07\x08"},
		{intOf(math.MinInt), "\x01\x00\x00\x00\x00\x00\x00\x00\x00"},
		{intOf(math.MaxInt), "\x01\xff\xff\xff\xff\xff\xff\xff\xff"},
		{textOf(""), "\x02\x00\x01"},
		{textOf("a\x00"), "\x02a\x00\xff\x00\x01"},
		{textOf("\x00\x01"), "\x02\x00\xff\x01\x00\x01"},
		{textOf("\x00\xff"), "\x02\x00\xff\xff\x00\x01"},
		{textOf("it's\\"), "\x02it's\\\x00\x01"},
		{blobOf(""), "\x03\x00\x01"},
		{blobOf("\x00\x00"), "\x03\x00\xff\x00\xff\x00\x01"},
		{blobOf("\xff\x01"), "\x03\xff\x01\x00\x01"},
	} {
		if got := value.Key(c.v); got != c.want {
			t.Errorf("Key of %d %d %q: %x, not %x", c.v.Kind, c.v.N, c.v.S, got, c.want)
		}
		unkeys(t, c.want, c.v, len(c.want), api.OK)
	}
}

func TestKeyIsAsTheChapterWordsIt(t *testing.T) {
	for _, v := range samples() {
		if got := value.Key(v); got != wantKey(v) {
			t.Fatalf("Key of %d %d %q: %x", v.Kind, v.N, v.S, got)
		}
	}
	for _, v := range bad() {
		if got := value.Key(v); got != "" {
			t.Errorf("Key of %d %d %.10q: %x", v.Kind, v.N, v.S, got)
		}
	}
}

func TestUnkeyIsTheWayBack(t *testing.T) {
	for _, v := range samples() {
		k := wantKey(v)
		for _, behind := range []string{"", "\x00", "\x01", "\xff", "\x00\x01", "z", k} {
			unkeys(t, k+behind, v, len(k), api.OK)
		}
	}
}

func TestUnkeyOfBeginningsIsShort(t *testing.T) {
	unkeys(t, "", api.Val{}, 0, api.ErrShort)
	for _, v := range samples() {
		k := wantKey(v)
		for i := range k {
			if i < 50 || i > len(k)-5 {
				unkeys(t, k[:i], api.Val{}, 0, api.ErrShort)
			}
		}
	}
}

func TestUnkeyRefusesKinds(t *testing.T) {
	for b := 4; b < 256; b++ {
		kind := string([]byte{byte(b)})
		for _, behind := range []string{"", "\x00", "\x00\x01", "12345678", "a\x00\x01"} {
			unkeys(t, kind+behind, api.Val{}, 0, api.ErrForm)
		}
	}
}

func TestUnkeyRefusesWhatStandsBehindANought(t *testing.T) {
	for _, kind := range []string{"\x02", "\x03"} {
		for b := range 256 {
			if b == 1 || b == 255 {
				continue
			}
			for _, ahead := range []string{"", "a", "\x00\xff", "\xff"} {
				s := kind + ahead + string([]byte{0, byte(b)})
				unkeys(t, s, api.Val{}, 0, api.ErrForm)
				unkeys(t, s+"\x00\x01", api.Val{}, 0, api.ErrForm)
			}
		}
	}
}

func TestUnkeyOfTheLongest(t *testing.T) {
	for _, kind := range []int{2, 3} {
		for _, c := range []string{"x", "\x00", "\x01", "\xff"} {
			begin := string([]byte{byte(kind)})
			most := strings.ReplaceAll(strings.Repeat(c, 2000), "\x00", "\x00\xff")
			one := strings.ReplaceAll(c, "\x00", "\x00\xff")
			unkeys(t, begin+most+"\x00\x01", api.Val{Kind: kind, S: strings.Repeat(c, 2000)}, len(most)+3, api.OK)
			unkeys(t, begin+most, api.Val{}, 0, api.ErrShort)
			unkeys(t, begin+most+"\x00", api.Val{}, 0, api.ErrShort)
			unkeys(t, begin+most+"\x00\x02", api.Val{}, 0, api.ErrForm)
			unkeys(t, begin+most+"\x00\xff", api.Val{}, 0, api.ErrForm)
			unkeys(t, begin+most+"x", api.Val{}, 0, api.ErrForm)
			unkeys(t, begin+most+one, api.Val{}, 0, api.ErrForm)
			unkeys(t, begin+most+one+"\x00\x01", api.Val{}, 0, api.ErrForm)
			unkeys(t, begin+strings.Repeat(most, 1000), api.Val{}, 0, api.ErrForm)
		}
	}
}

var (
	wholeKey = regexp.MustCompile(`(?s)^(?:\x00|\x01.{8}|[\x02\x03](?:[^\x00]|\x00\xff)*?\x00\x01)`)
	partKey  = regexp.MustCompile(`(?s)^(?:|\x01.{0,7}|[\x02\x03](?:[^\x00]|\x00\xff)*\x00?)$`)
)

// asRunes: each byte as the rune of its number, so that patterns go by bytes.
func asRunes(s string) string {
	var out strings.Builder
	for i := range len(s) {
		out.WriteRune(rune(s[i]))
	}
	return out.String()
}

// askUnkey holds Unkey of few bytes to the patterns of Keys.
func askUnkey(t *testing.T, s string) {
	t.Helper()
	v, n, e := value.Unkey(s)
	runes := asRunes(s)
	found := wholeKey.FindString(runes)
	switch {
	case found != "":
		if size := len([]rune(found)); e != api.OK || n != size || !value.Good(v) || wantKey(v) != s[:size] {
			t.Fatalf("Unkey(%x): %d %d %q, %d, %d", s, v.Kind, v.N, v.S, n, e)
		}
	case partKey.MatchString(runes):
		unkeys(t, s, api.Val{}, 0, api.ErrShort)
	default:
		unkeys(t, s, api.Val{}, 0, api.ErrForm)
	}
}

func TestUnkeyOfAllFewBytes(t *testing.T) {
	for a := range 256 {
		askUnkey(t, string([]byte{byte(a)}))
		for b := range 256 {
			askUnkey(t, string([]byte{byte(a), byte(b)}))
		}
	}
	const letters = "\x00\x01\x02\x03a\xfe\xff"
	for size := 3; size <= 6; size++ {
		for _, kind := range []string{"\x02", "\x03"} {
			eachString(letters, size-1, func(s string) { askUnkey(t, kind+s) })
		}
	}
	r := source()
	for range 20000 {
		askUnkey(t, string([]byte{byte(r.IntN(4))})+someBytes(r, 12))
	}
}

// eachString gives every string of so many of the letters.
func eachString(letters string, size int, give func(string)) {
	if size == 0 {
		give("")
		return
	}
	eachString(letters, size-1, func(s string) {
		for i := range len(letters) {
			give(s + letters[i:i+1])
		}
	})
}

// P6.3

func TestValuesStandAsTheirKeys(t *testing.T) {
	list := rising()
	for i, a := range list {
		for k, b := range list {
			if i >= k {
				continue
			}
			low, high := value.Key(a), value.Key(b)
			for _, behind := range [][2]string{{"", ""}, {"\xff\xff", ""}, {"", "\x00"}, {"\xff", "\x00"}, {"\x00\xff", "\x00\x01"}, {high, low}} {
				if low+behind[0] >= high+behind[1] {
					t.Errorf("%x, %x behind it, and %x, %x behind it", low, behind[0], high, behind[1])
				}
			}
			if strings.HasPrefix(high, low) || strings.HasPrefix(low, high) {
				t.Errorf("%x and %x: one is the beginning of the other", low, high)
			}
		}
	}
}

func TestManyValuesStandAsTheirKeys(t *testing.T) {
	list := samples()
	r := source()
	for _, a := range list {
		for range 40 {
			b := list[r.IntN(len(list))]
			ka, kb := value.Key(a), value.Key(b)
			if strings.Compare(ka, kb) != wantCompare(a, b) || value.Compare(a, b) != wantCompare(a, b) {
				t.Fatalf("%d %d %q, %d %d %q: %x, %x", a.Kind, a.N, a.S, b.Kind, b.N, b.S, ka, kb)
			}
			if a == b {
				continue
			}
			if strings.Compare(ka+someBytes(r, 9), kb+someBytes(r, 9)) != wantCompare(a, b) || strings.HasPrefix(ka, kb) {
				t.Fatalf("with bytes behind them: %x, %x", ka, kb)
			}
		}
	}
}

func TestKeysOfRisingValuesRise(t *testing.T) {
	list := samples()
	slices.SortFunc(list, value.Compare)
	list = slices.Compact(list)
	for i := 1; i < len(list); i++ {
		if value.Key(list[i-1]) >= value.Key(list[i]) {
			t.Fatalf("%x, %x", value.Key(list[i-1]), value.Key(list[i]))
		}
	}
}
