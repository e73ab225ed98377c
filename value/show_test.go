package value_test

import (
	"fmt"
	"math"
	"math/big"
	"regexp"
	"strings"
	"testing"

	"cahier/api"
	"cahier/value"
)

// wantShow: a good value's Show, as the chapter words it.
func wantShow(v api.Val) string {
	switch v.Kind {
	case 0:
		return "null"
	case 1:
		return fmt.Sprintf("%d", v.N)
	}
	out := []byte("'")
	if v.Kind == 3 {
		out = []byte("x'")
	}
	for i := range len(v.S) {
		switch b := v.S[i]; {
		case b == 39:
			out = append(out, 39, 39)
		case b < 32, b > 126, b == 92:
			out = fmt.Appendf(out, "\\%02x", b)
		default:
			out = append(out, b)
		}
	}
	return string(append(out, 39))
}

// parses asks what Parse answers, and that nothing is beside an error.
func parses(t *testing.T, s string, want api.Val, size int) {
	t.Helper()
	e := api.OK
	if size == 0 {
		e = api.ErrForm
	}
	if v, n, got := value.Parse(s); v != want || n != size || got != e {
		t.Errorf("Parse of %d bytes, %.30q: %d %d %.10q, %d, %d, not %d", len(s), s, v.Kind, v.N, v.S, n, got, size)
	}
}

// P6.4

func TestShowsByHand(t *testing.T) {
	for _, c := range []struct {
		v    api.Val
		want string
	}{
		{api.Val{}, "null"},
		{intOf(0), "0"}, {intOf(7), "7"}, {intOf(-7), "-7"}, {intOf(10), "10"}, {intOf(-120), "-120"},
		{intOf(math.MaxInt), "9223372036854775807"}, {intOf(math.MinInt), "-9223372036854775808"},
		{textOf(""), "''"}, {textOf("a b"), "'a b'"}, {textOf("'"), "''''"}, {textOf("''"), "''''''"}, {textOf("it's\n"), `'it''s\0a'`},
		{textOf("\\"), `'\5c'`}, {textOf("\\0a"), `'\5c0a'`}, {textOf("\x00\x1f \x7e\x7f\x80\xff"), `'\00\1f ~\7f\80\ff'`},
		{textOf("null"), "'null'"}, {textOf("12"), "'12'"}, {textOf("\xc3\xa9"), `'\c3\a9'`}, {textOf("\xab\xcd\xef"), `'\ab\cd\ef'`}, {textOf("\""), "'\"'"},
		{blobOf(""), "x''"}, {blobOf("a"), "x'a'"}, {blobOf("it's"), "x'it''s'"}, {blobOf("\xff'"), `x'\ff'''`}, {blobOf("x'"), "x'x'''"},
	} {
		if got := value.Show(c.v); got != c.want {
			t.Errorf("Show of %d %d %q: %s, not %s", c.v.Kind, c.v.N, c.v.S, got, c.want)
		}
		parses(t, c.want, c.v, len(c.want))
	}
}

func TestShowIsAsTheChapterWordsIt(t *testing.T) {
	for _, v := range samples() {
		if got := value.Show(v); got != wantShow(v) {
			t.Fatalf("Show of %d %d %q: %s", v.Kind, v.N, v.S, got)
		}
	}
	for _, v := range bad() {
		if got := value.Show(v); got != "" {
			t.Errorf("Show of %d %d %.10q: %s", v.Kind, v.N, v.S, got)
		}
	}
}

func TestParseIsTheWayBack(t *testing.T) {
	for _, v := range samples() {
		s := wantShow(v)
		for _, behind := range []string{"", ")", ", ", " ", "x", "null", "\\", "\x00", "\xff", "x'", "-1"} {
			parses(t, s+behind, v, len(s))
		}
		if v.Kind != api.Int {
			parses(t, s+"0", v, len(s))
			parses(t, s+"a", v, len(s))
		}
	}
}

// Where a ' would be the end, another one behind it makes it one of the bytes.
func TestParseNeverEndsAheadOfAnotherQuote(t *testing.T) {
	for _, v := range samples() {
		if v.Kind < api.Text || len(v.S) > 1999 {
			continue
		}
		s := wantShow(v)
		parses(t, s+"'", api.Val{}, 0)
		parses(t, s+"'x", api.Val{}, 0)
		parses(t, s+"'''", api.Val{}, 0)
		more := api.Val{Kind: v.Kind, S: v.S + "'"}
		parses(t, s+"''", more, len(s)+2)
		parses(t, s+"'', 'x'", more, len(s)+2)
	}
	parses(t, "'''", api.Val{}, 0)
	parses(t, "'''a", api.Val{}, 0)
	parses(t, "'a''b", api.Val{}, 0)
	parses(t, "x'''", api.Val{}, 0)
	parses(t, "'a' 'b'", textOf("a"), 3)
	parses(t, "'a''b' 'c", textOf("a'b"), 6)
	parses(t, "'a','b'", textOf("a"), 3)
}

func TestParseRefuses(t *testing.T) {
	for _, s := range []string{
		"", " ", "-", "--1", "+1", "+", "-+1", ".5", "_1", " 1", "\t1", "-0", "-00", "-01", "-x", "- 1", "\xe2\x88\x921", "\xd9\xa1",
		"n", "nul", "Null", "NULL", " null", "nil", "nul\x00",
		"'", "'a", "\"a\"", "a", "a'b'", " 'a'", "X'a'", "x", "x ", "xx'a'", "x 'a'", "x\"a\"", "x'", "x'a", "x1", "xnull",
		`'\'`, `'\5'`, `'\a'`, `'\g0'`, `'\0g'`, `'\ 1'`, `'\+1'`, `'\-1'`, `'\_1'`, `'\1_'`, `'\\'`, `'\n'`, `'\x0a'`, `'\''`, `'\0''`, `'\`, `'\0`, `'\0a`, `'\0a\`, `x'\`, `x'\f`, `x'\ff`,
		`'\0A'`, `'\A0'`, `'\FF'`, `'\fF'`, `'\5C'`, `'\7F'`, `x'\0A'`,
		`'\61'`, `'\20'`, `'\7e'`, `'\27'`, `'\5b'`, `'\5d'`, `x'\61'`, `x'\27'`,
		"'\n'", "'\x00'", "'\x1f'", "'\x7f'", "'\x80'", "'\xff'", "'\xc3\xa9'", "x'\x00'", "x'\xff'", "'a\tb'",
	} {
		parses(t, s, api.Val{}, 0)
		if s != "" {
			parses(t, s+"\n", api.Val{}, 0)
		}
	}
}

// Each byte has one way to be written: itself, two ', or \ and two digits.
func TestParseTakesOneWayOfEachByte(t *testing.T) {
	for b := range 256 {
		one := string([]byte{byte(b)})
		for _, way := range []string{one, one + one, fmt.Sprintf("\\%02x", b), fmt.Sprintf("\\%02X", b), fmt.Sprintf("\\%x", b), fmt.Sprintf("\\%03x", b), "\\" + one, fmt.Sprintf("\\%03o", b)} {
			for _, begin := range []string{"'", "x'", "'a", "x'''"} {
				askParse(t, begin+way+"'")
				askParse(t, begin+way+"',")
				askParse(t, begin+way)
			}
		}
	}
}

func TestParseOfTheLongest(t *testing.T) {
	for _, c := range []string{"x", "'", "\\", "\x00", "\xff", " "} {
		for _, kind := range []int{2, 3} {
			most := api.Val{Kind: kind, S: strings.Repeat(c, 2000)}
			s := wantShow(most)
			parses(t, s, most, len(s))
			parses(t, s+",", most, len(s))
			open := s[:len(s)-1]
			parses(t, open, api.Val{}, 0)
			for _, more := range []string{c, "x", "'", "\x00"} {
				long := wantShow(api.Val{Kind: kind, S: most.S + more})
				parses(t, long, api.Val{}, 0)
				parses(t, long+long, api.Val{}, 0)
			}
			parses(t, open+strings.Repeat(open[2:], 1000), api.Val{}, 0)
		}
	}
}

func TestParseOfNumbers(t *testing.T) {
	for _, c := range []struct {
		s       string
		n, size int
	}{
		{"-5)", -5, 2}, {"007", 0, 1}, {"00", 0, 1}, {"0-1", 0, 1}, {"0x10", 0, 1}, {"0b1", 0, 1}, {"1_000", 1, 1}, {"1e3", 1, 1}, {"1.5", 1, 1}, {"12x", 12, 2}, {"1 2", 1, 1}, {"1,2", 1, 1}, {"5-", 5, 1}, {"-10-", -10, 3}, {"0null", 0, 1}, {"1\x00", 1, 1}, {"9\xd9\xa1", 9, 1},
		{"9223372036854775807", math.MaxInt, 19}, {"9223372036854775807x", math.MaxInt, 19},
		{"9223372036854775808", 922337203685477580, 18}, {"9223372036854775809", 922337203685477580, 18}, {"9300000000000000000", 930000000000000000, 18}, {"10000000000000000000", 1000000000000000000, 19}, {"99999999999999999999", 999999999999999999, 18}, {"92233720368547758070", math.MaxInt, 19},
		{"-9223372036854775808", math.MinInt, 20}, {"-92233720368547758080", math.MinInt, 20}, {"-9223372036854775809", -922337203685477580, 19}, {"-99999999999999999999", -999999999999999999, 19}, {"-10000000000000000000", -1000000000000000000, 20},
	} {
		parses(t, c.s, intOf(c.n), c.size)
	}
	parses(t, strings.Repeat("1", 100000), intOf(1111111111111111111), 19)
	parses(t, "-"+strings.Repeat("1", 100000), intOf(-1111111111111111111), 20)
	parses(t, strings.Repeat("0", 100000), intOf(0), 1)
	parses(t, strings.Repeat("-", 100000), api.Val{}, 0)
}

var (
	shownInt   = regexp.MustCompile(`^(?:0|-?[1-9][0-9]*)`)
	shownBytes = regexp.MustCompile(`^x?'((?:''|[ -&(-\[\]-~]|\\(?:[01][0-9a-f]|5c|7f|[89a-f][0-9a-f]))*)'(?:[^']|$)`)
)

// askParse holds Parse of few bytes to the patterns of Shows.
func askParse(t *testing.T, s string) {
	t.Helper()
	v, n, e := value.Parse(s)
	size := 0
	if strings.HasPrefix(s, "null") {
		size = 4
	} else if digits := shownInt.FindString(s); digits != "" {
		size = longestFit(digits)
	} else if found := shownBytes.FindStringSubmatchIndex(asRunes(s)); found != nil {
		// What stands between the ends is bytes below 128 alone: it has as many bytes as runes.
		size = found[3] + 1
	}
	if size == 0 {
		parses(t, s, api.Val{}, 0)
	} else if e != api.OK || n != size || !value.Good(v) || wantShow(v) != s[:size] {
		t.Fatalf("Parse(%q): %d %d %q, %d, %d", s, v.Kind, v.N, v.S, n, e)
	}
}

// longestFit: how many of the digits are a number of 64 bits.
func longestFit(digits string) int {
	for size := len(digits); ; size-- {
		if n, _ := new(big.Int).SetString(digits[:size], 10); n.IsInt64() {
			return size
		}
	}
}

func TestParseOfAllFewBytes(t *testing.T) {
	for a := range 256 {
		askParse(t, string([]byte{byte(a)}))
		for b := range 256 {
			askParse(t, string([]byte{byte(a), byte(b)}))
			askParse(t, string([]byte{'\'', byte(a), byte(b), '\''}))
			askParse(t, string([]byte{'\'', '\\', byte(a), byte(b), '\''}))
			askParse(t, string([]byte{'x', '\'', '\\', byte(a), byte(b), '\''}))
		}
	}
	for size := range 6 {
		eachString("'\\x05cCn-\n", size, func(s string) { askParse(t, s) })
		eachString("'\\0", size+3, func(s string) { askParse(t, "'"+s) })
		eachString("nul'", size, func(s string) { askParse(t, s) })
	}
	r := source()
	for range 20000 {
		askParse(t, []string{"'", "x'", "-", "null"}[r.IntN(4)]+someBytes(r, 12))
		askParse(t, fmt.Sprintf("%s%d%d", []string{"", "-"}[r.IntN(2)], r.Uint64()>>r.UintN(64), r.Uint64()>>r.UintN(64)))
	}
}
