package row_test

import (
	"math"
	"math/big"
	"regexp"
	"slices"
	"strings"
	"testing"
	"unsafe"

	"cahier/api"
	"cahier/row"
	"cahier/value"
)

// wantShow: a good row's Show, as the chapter words it.
func wantShow(r api.Row) string {
	out := "("
	for i, v := range r {
		if i > 0 {
			out += ", "
		}
		out += value.Show(v)
	}
	return out + ")"
}

// parses asks what Parse answers, and that nothing is beside an error.
func parses(t *testing.T, s string, want api.Row, size int) {
	t.Helper()
	e := api.OK
	if size == 0 {
		e = api.ErrForm
	}
	if r, n, got := row.Parse(s); !slices.Equal(r, want) || n != size || got != e {
		t.Errorf("Parse of %d bytes, %.40q: %s, %d, %d, not %d", len(s), s, told(r), n, got, size)
	}
}

// P7.4

func TestShowsByHand(t *testing.T) {
	for _, c := range []struct {
		r    api.Row
		want string
	}{
		{nil, "()"}, {api.Row{}, "()"}, {api.Row{null}, "(null)"}, {api.Row{intOf(1), null, textOf("a")}, "(1, null, 'a')"},
		{api.Row{intOf(-1), blobOf("\x00")}, `(-1, x'\00')`}, {api.Row{textOf("it's"), textOf(""), blobOf("")}, "('it''s', '', x'')"},
		{api.Row{textOf("a, b"), textOf("(1)"), textOf("', '")}, "('a, b', '(1)', ''', ''')"}, {api.Row{textOf(")")}, "(')')"}, {api.Row{textOf("\\\n")}, `('\5c\0a')`},
		{api.Row{intOf(math.MinInt), intOf(math.MaxInt)}, "(-9223372036854775808, 9223372036854775807)"},
		{many(null, 16), "(" + strings.Repeat("null, ", 15) + "null)"},
	} {
		if got := row.Show(c.r); got != c.want {
			t.Errorf("Show of %s: %s, not %s", told(c.r), got, c.want)
		}
		parses(t, c.want, c.r, len(c.want))
	}
}

func TestShowIsAsTheChapterWordsIt(t *testing.T) {
	for _, r := range samples() {
		if got := row.Show(r); got != wantShow(r) {
			t.Fatalf("Show of %s: %.60s", told(r), got)
		}
	}
	for _, r := range bad() {
		if got := row.Show(r); got != "" {
			t.Errorf("Show of %d values, %s: %.60s", len(r), told(r), got)
		}
	}
}

func TestParseIsTheWayBack(t *testing.T) {
	for _, r := range samples() {
		s := wantShow(r)
		for _, behind := range []string{"", ")", ", ", " ", "x", ", 1)", "'", "\\", "\x00", "\xff", "()", s} {
			parses(t, s+behind, r, len(s))
		}
	}
}

func TestParseOfBeginningsIsRefused(t *testing.T) {
	for _, r := range samples() {
		s := wantShow(r)
		for i := range s {
			if i < 60 || i > len(s)-5 {
				parses(t, s[:i], nil, 0)
			}
		}
	}
}

func TestParseRefuses(t *testing.T) {
	for _, s := range []string{
		"", "(", ")", " ()", "( )", "(\n)", "[]", "((", "(()", "(())", "((1))", "{1}", "1", "1)", "null", "'a'", "\x00()", "\xef\xbb\xbf()",
		"(1", "(1,", "(1, ", "(1, )", "(1,)", "(, 1)", "(,)", "(, )", "(,1)", "(1,2)", "(1,  2)", "(1 ,2)", "(1 , 2)", "(1, 2 )", "( 1, 2)", "(1 2)", "(1;2)", "(1; 2)", "(1,\t2)", "(1,\n2)", "(1\x00)", "(1, 2, )", "(1, , 2)", "(1, 2", "(1, 2]", "(1 )", "( 1)",
		"(007)", "(-0)", "(+1)", "(1.5)", "(0x1)", "(1_0)", "(--1)", "(-)", "(1-)", "(9223372036854775808)", "(-9223372036854775809)", "(10000000000000000000)", "(92233720368547758070)", "(1, 99999999999999999999)", "(00, 1)",
		"(nul)", "(nulll)", "(nullnull)", "(Null)", "(null null)", "(null1)", "(1null)",
		"('a)", "(a)", "('a''b)", "('a'b')", "(''')", "(\"a\")", `('\61')`, `('\0A')`, `('\')`, "('\n')", "('\x80')", "(X'a')", "(x)", "(x'a)", "(x 'a')", "('a'x'b')", "('a' 'b')", "('a''b' 'c')",
	} {
		parses(t, s, nil, 0)
		parses(t, s+"\n", nil, 0)
	}
}

func TestParseOfTheMost(t *testing.T) {
	for _, v := range []api.Val{null, intOf(-5), textOf("a"), blobOf("'")} {
		for size := 14; size < 20; size++ {
			r := many(v, size)
			if size <= 16 {
				parses(t, wantShow(r), r, len(wantShow(r)))
			} else {
				parses(t, wantShow(r), nil, 0)
			}
		}
		parses(t, wantShow(many(v, 16))[:len(wantShow(many(v, 16)))-1]+", )", nil, 0)
	}
	parses(t, "("+strings.Repeat("null, ", 50000)+"null)", nil, 0)
	for _, c := range []struct{ b, shown string }{{"x", "x"}, {"'", "''"}, {"\\", `\5c`}, {"\xff", `\ff`}, {")", ")"}, {", ", ", "}} {
		most := 2000 / len(c.b)
		for size := most - 2; size < most+3; size++ {
			text, blob := "'"+strings.Repeat(c.shown, size)+"'", "x'"+strings.Repeat(c.shown, size)+"'"
			for _, s := range []string{"(" + text + ")", "(1, " + text + ")", "(" + blob + ", 1)"} {
				r, n, e := row.Parse(s)
				if size > most && (len(r) > 0 || n != 0 || e != api.ErrForm) || size <= most && (wantShow(r) != s || n != len(s) || e != api.OK) {
					t.Errorf("%d times %q: %s, %d, %d", size, c.b, told(r), n, e)
				}
			}
		}
	}
	parses(t, strings.Repeat("(", 100000), nil, 0)
	parses(t, "("+strings.Repeat(" ", 100000), nil, 0)
	parses(t, "('"+strings.Repeat("a", 100000)+"')", nil, 0)
}

const shownValue = `(?:null|0|-?[1-9][0-9]*|x?'(?:''|[ -&(-\[\]-~]|\\(?:[01][0-9a-f]|5c|7f|[89a-f][0-9a-f]))*')`

var (
	shownRow   = regexp.MustCompile(`^\((?:` + shownValue + `(?:, ` + shownValue + `){0,15})?\)`)
	bytesOrInt = regexp.MustCompile(`'(?:''|[^'])*'|-?[0-9]+`)
)

// fits: whether all numbers of a row's text are of 64 bits.
func fits(text string) bool {
	return !slices.ContainsFunc(bytesOrInt.FindAllString(text, -1), func(s string) bool {
		n, isInt := new(big.Int).SetString(s, 10)
		return isInt && !n.IsInt64()
	})
}

// askParse holds Parse of few bytes to the pattern of Shows.
func askParse(t *testing.T, s string) {
	t.Helper()
	found := shownRow.FindString(s)
	if found == "" || !fits(found) {
		parses(t, s, nil, 0)
		return
	}
	if r, n, e := row.Parse(s); e != api.OK || n != len(found) || !row.Good(r) || wantShow(r) != found {
		t.Fatalf("Parse of %q: %s, %d, %d", s, told(r), n, e)
	}
}

func TestParseOfAllFewBytes(t *testing.T) {
	for a := range 256 {
		askParse(t, string([]byte{byte(a)}))
		for b := range 256 {
			askParse(t, string([]byte{byte(a), byte(b)}))
			askParse(t, string([]byte{'(', byte(a), byte(b), ')'}))
			askParse(t, string([]byte{'(', '1', byte(a), byte(b), '2', ')'}))
			askParse(t, string([]byte{'(', '1', ',', ' ', byte(a), byte(b)}))
			askParse(t, string([]byte{'(', '\'', byte(a), byte(b), '\'', ')'}))
			askParse(t, string([]byte{'(', '1', byte(a), byte(b)}))
		}
	}
	for size := range 7 {
		eachString("(), 1'", size, func(s string) { askParse(t, "("+s) })
		eachString("), -05", size, func(s string) { askParse(t, "(7"+s) })
		eachString("x')", size, func(s string) { askParse(t, "('"+s) })
	}
}

func TestParseOfSpoiltRows(t *testing.T) {
	r := source()
	const odd = "(), 'x-0159null\\ab\n\x00\xff"
	for range 40000 {
		b := []byte(wantShow(someRow(r, r.IntN(17))))
		for range r.IntN(3) {
			b[r.IntN(len(b))] = odd[r.IntN(len(odd))]
		}
		at := r.IntN(len(b) + 1)
		switch r.IntN(4) {
		case 0:
			b = b[:at]
		case 1:
			b = slices.Insert(b, at, odd[r.IntN(len(odd))])
		}
		askParse(t, string(b))
		askParse(t, "("+someBytes(r, 12))
	}
}

// P7.5

func TestShowAndParseAreWaysBack(t *testing.T) {
	for _, r := range samples() {
		s := row.Show(r)
		back, n, e := row.Parse(s)
		if !slices.Equal(back, r) || n != len(s) || e != api.OK {
			t.Fatalf("%s: %s, %d, %d", told(r), told(back), n, e)
		}
		if again := row.Show(back); again != s {
			t.Fatalf("%s: %.60s, %.60s", told(r), s, again)
		}
	}
}

func TestParseAnswersNewMemory(t *testing.T) {
	r := api.Row{textOf("some text"), intOf(4), blobOf("some bytes")}
	s := wantShow(r)
	first, size, _ := row.Parse(s)
	for _, v := range first {
		if v.S != "" && unsafe.StringData(v.S) == unsafe.StringData(s[strings.Index(s, v.S):]) {
			t.Errorf("%q is a piece of what was handed in", v.S)
		}
	}
	for i := range first {
		first[i] = null
	}
	parses(t, s, r, size)
}
