package value

import (
	"fmt"
	"math"
	"regexp"
	"slices"
	"strings"
	"testing"
	"unsafe"

	"kinescope/api"
)

const top = api.MaxNum

// row is a row of values.
type row = []api.Value

// num, text are values that are written out, lest Num and Text be asked of themselves.
func num(n int) api.Value     { return api.Value{Kind: api.ValueNum, Num: n} }
func text(s string) api.Value { return api.Value{Kind: api.ValueText, Text: s} }

// long40 and long41 are the longest text that is right, and one that is a byte longer.
var (
	long40 = strings.Repeat("abcd ", 8)
	long41 = long40 + "a"
)

// rightNums are numbers that are right, rising.
var rightNums = []int{-top, -top + 1, -1 << 32, -1<<31 - 1, -10, -1, 0, 1, 5, 10, 1 << 31, 1<<32 + 1, top - 1, top}

// wrongNums are numbers that are not right, rising.
var wrongNums = []int{math.MinInt, math.MinInt + 1, -top - 2, -top - 1, top + 1, top + 2, math.MaxInt - 1, math.MaxInt}

// rightTexts are texts that are right, rising.
var rightTexts = []string{"", " ", "  ", "!", "#", "'", "-", "-5", "0", "007", "5", "A", "[", "]", "a", "a ", "a b", "aa", "aab", "ab", long40[:39], long40, "b", "~", "~~"}

// wrongTexts are texts that are not right, rising.
var wrongTexts = []string{"\x00", "\t", "\n", "\x1f", " \x1f", "\"", "\"\"", "\"a\"", "\\", "\\\\", "\\n", "a\x00", "a\"", "a\"b", "a\\b", long41, "a\x7f", "\x7f", "\x80", "\xc3", "\u00e4", "\xff"}

// wrongKinds are values that are not right, of whatever Kind but the two, or with what the other Kind has.
var wrongKinds = []api.Value{
	{Kind: math.MinInt}, {Kind: -1, Num: 5}, {}, {Num: 5}, {Text: "a"}, {Kind: api.ValueNum, Text: " "}, {Kind: api.ValueNum, Num: 5, Text: "5"},
	{Kind: api.ValueNum, Num: 5, Text: "a"}, {Kind: api.ValueText, Num: -1}, {Kind: api.ValueText, Num: -1, Text: "b"}, {Kind: api.ValueText, Num: 1},
	{Kind: api.ValueText, Num: 1, Text: "a"}, {Kind: 3}, {Kind: 3, Num: 5}, {Kind: 3, Text: "a"}, {Kind: math.MaxInt},
}

// rights are values that are right, in order: numbers, then texts.
func rights() row {
	var l row
	for _, n := range rightNums {
		l = append(l, num(n))
	}
	for _, s := range rightTexts {
		l = append(l, text(s))
	}
	return l
}

// wrongs are values that are not right.
func wrongs() row {
	l := slices.Clone(wrongKinds)
	for _, n := range wrongNums {
		l = append(l, num(n))
	}
	for _, s := range wrongTexts {
		l = append(l, text(s))
	}
	return l
}

// someRows are rows in order, no two the same: the empty one, some that begin as others, some with values that are not right.
var someRows = []row{
	{}, {{}}, {num(-1)}, {num(-1), num(-1)}, {num(-1), num(-1), num(-2)}, {num(-1), num(0)}, {num(-1), text("")}, {num(0)}, {num(0), num(-5)}, {num(0), {Kind: 3}},
	{{Kind: api.ValueNum, Text: "a"}}, {num(5)}, {num(5), text("a")}, {num(5), text("a"), num(5)}, {num(5), text("aa")}, {num(5), text("b")}, {num(10)},
	{text("")}, {text(""), text("")}, {text("a")}, {text("a"), num(5)}, {text("a"), num(5), num(0)}, {text("a"), num(6)}, {text("a"), text("a")}, {text("aa")}, {text("aa"), num(0)},
}

// chance are numbers that look as if they came by chance, the same ones each time.
func chance(seed uint64) func(n int) int {
	return func(n int) int {
		seed = seed*6364136223846793005 + 1442695040888963407
		return int(seed >> 33 % uint64(n))
	}
}

// shuffled are rows in an order that hangs on a seed.
func shuffled(rows []row, seed uint64) []row {
	l, next := slices.Clone(rows), chance(seed)
	for i := range l {
		j := i + next(len(l)-i)
		l[i], l[j] = l[j], l[i]
	}
	return l
}

// sign is which side of 0 a number lies on.
func sign(n int) int { return max(min(n, 1), -1) }

// alike says whether rows of rows are the same, value by value.
func alike(a, b []row) bool {
	return slices.EqualFunc(a, b, func(a, b row) bool { return slices.Equal(a, b) })
}

// cloned are rows that share nothing with those given.
func cloned(rows []row) []row {
	var l []row
	for _, r := range rows {
		l = append(l, slices.Clone(r))
	}
	return l
}

// P5.1, P5.3
func TestTheExample(t *testing.T) {
	for _, c := range []struct {
		v api.Value
		s string
	}{{num(-5), "-5"}, {text("a b"), `"a b"`}} {
		if s, e := Show(c.v); s != c.s || e != api.OK {
			t.Error(c, s, e)
		}
	}
	if v, e := Parse("007"); v != (api.Value{}) || e != api.ErrSyntax {
		t.Error(v, e)
	}
}

// P5.1
func TestRight(t *testing.T) {
	for _, v := range rights() {
		if !Right(v) {
			t.Errorf("%+v", v)
		}
	}
	for _, v := range wrongs() {
		if Right(v) {
			t.Errorf("%+v", v)
		}
	}
}

// P5.1: each number about the ends, each length about the greatest, each byte, wherever in a text it stands.
func TestRightAtTheEnds(t *testing.T) {
	for d := -3; d <= 3; d++ {
		if Right(num(top+d)) != (d <= 0) || Right(num(-top-d)) != (d <= 0) {
			t.Error(d)
		}
		if s := strings.Repeat("x", 40+d); Right(text(s)) != (d <= 0) {
			t.Error(s)
		}
	}
	for c := range 256 {
		want := c >= 32 && c <= 126 && c != 34 && c != 92
		for _, s := range []string{"", "a", long40[:38]} {
			for _, s := range []string{s + string([]byte{byte(c)}), string([]byte{byte(c)}) + s, s + string([]byte{byte(c)}) + "z"} {
				if Right(text(s)) != want {
					t.Errorf("%d %q", c, s)
				}
			}
		}
	}
	for _, kind := range []api.ValueKind{math.MinInt, -2, -1, 0, 3, 4, 1 + 1<<32, 2 + 1<<32, math.MaxInt} {
		for _, v := range []api.Value{{Kind: kind}, {Kind: kind, Num: 5}, {Kind: kind, Text: "a"}} {
			if Right(v) {
				t.Error(v)
			}
		}
	}
	for _, n := range append([]int{-top, top}, wrongNums...) {
		if Right(api.Value{Kind: api.ValueText, Num: n, Text: "a"}) || Right(api.Value{Kind: api.ValueNum, Num: n, Text: "a"}) {
			t.Error(n)
		}
	}
}

// P5.1: right or not, they are made.
func TestNumAndText(t *testing.T) {
	for _, n := range slices.Concat(rightNums, wrongNums) {
		if v := Num(n); v != num(n) {
			t.Error(n, v)
		}
	}
	for _, s := range append(slices.Concat(rightTexts, wrongTexts), strings.Repeat("\x00ab", 100000)) {
		if v := Text(s); v != text(s) {
			t.Errorf("%q %+v", s, v)
		}
	}
}

// P5.1
func TestCompare(t *testing.T) {
	for _, c := range []struct {
		a, b api.Value
		want int
	}{
		{num(5), num(5), 0}, {num(4), num(5), -1}, {num(-5), num(-4), -1}, {num(-1), num(0), -1}, {num(9), num(10), -1}, {num(-top), num(top), -1},
		{num(math.MinInt), num(math.MaxInt), -1}, {num(math.MinInt), num(1), -1}, {num(-2), num(math.MaxInt), -1},
		{text("a"), text("a"), 0}, {text(""), text(""), 0}, {text(""), text("a"), -1}, {text("a"), text("ab"), -1}, {text("ab"), text("b"), -1}, {text("10"), text("9"), -1},
		{text("Z"), text("a"), -1}, {text(" "), text("a"), -1}, {text("a"), text("a "), -1}, {text("a "), text("aa"), -1}, {text("~"), text("\x80"), -1}, {text("\x7f"), text("\xff"), -1},
		{text("\uff5e"), text("\U0001f600"), -1},                                                // by bytes, not by halves of signs
		{num(5), text("5"), -1}, {num(top), text(""), -1}, {num(math.MaxInt), text("\x00"), -1}, // numbers ahead of texts
		// Kind counts ahead of Num, Num ahead of Text, of values that are not right, too.
		{api.Value{Kind: 1, Num: 9}, api.Value{Kind: 2, Num: 3}, -1}, {api.Value{Kind: 1, Text: "b"}, api.Value{Kind: 2, Text: "a"}, -1},
		{api.Value{Kind: 2, Num: 3, Text: "b"}, api.Value{Kind: 2, Num: 4, Text: "a"}, -1}, {api.Value{Kind: 1, Num: 3, Text: "b"}, api.Value{Kind: 1, Num: 4, Text: "a"}, -1},
		{api.Value{Kind: 1, Num: 3, Text: "a"}, api.Value{Kind: 1, Num: 3, Text: "b"}, -1}, {num(3), api.Value{Kind: 1, Num: 3, Text: "b"}, -1},
		{api.Value{}, num(math.MinInt), -1}, {api.Value{Kind: -1, Num: 7, Text: "z"}, api.Value{}, -1}, {text("\xff"), api.Value{Kind: 3}, -1},
		{api.Value{Kind: math.MinInt}, api.Value{Kind: math.MaxInt}, -1}, {api.Value{}, api.Value{}, 0}, {api.Value{Kind: 3, Num: 1, Text: "a"}, api.Value{Kind: 3, Num: 1, Text: "a"}, 0},
	} {
		if got, back := Compare(c.a, c.b), Compare(c.b, c.a); got != c.want || back != -c.want {
			t.Errorf("%+v %d %d", c, got, back)
		}
	}
}

// P5.1: right values stand as they are listed.
func TestCompareOfRightOnes(t *testing.T) {
	l := rights()
	for i, a := range l {
		for j, b := range l {
			if got := Compare(a, b); got != sign(i-j) {
				t.Fatal(a, b, got)
			}
		}
	}
}

// P5.1
func TestRows(t *testing.T) {
	for i, a := range someRows {
		for j, b := range someRows {
			if got := Rows(slices.Clone(a), b); got != sign(i-j) {
				t.Fatal(a, b, got)
			}
		}
		if Rows(nil, a) != sign(-i) || Rows(a, nil) != sign(i) {
			t.Fatal(a)
		}
	}
	if Rows(nil, nil) != 0 || Rows(nil, row{}) != 0 || Rows(row{}, nil) != 0 {
		t.Fatal("no values")
	}
}

// P5.1: the first value that is not the same counts, wherever it stands; what stands behind it does not.
func TestRowsByTheFirstOther(t *testing.T) {
	const size = 20
	a := make(row, size)
	for i := range a {
		a[i] = num(7)
	}
	for i := range size {
		b := slices.Clone(a)
		b[i] = text("x")
		for j := i + 1; j < size; j++ {
			b[j] = num(j % 3)
		}
		for end := i + 1; end <= size; end++ {
			if Rows(a, b[:end]) != -1 || Rows(b[:end], a) != 1 {
				t.Fatal(i, end)
			}
		}
		if Rows(a, b[:i]) != 1 || Rows(b[:i], a) != -1 || Rows(a[:i], b[:i]) != 0 {
			t.Fatal(i)
		}
	}
}

// P5.2
func TestHolds(t *testing.T) {
	for _, c := range []struct {
		op                  api.CondOp
		ahead, same, behind bool
	}{
		{api.CondSame, false, true, false}, {api.CondOther, true, false, true}, {api.CondLess, true, false, false},
		{api.CondLessEq, true, true, false}, {api.CondMore, false, false, true}, {api.CondMoreEq, false, true, true},
		{0, false, false, false}, {-1, false, false, false}, {7, false, false, false}, {8, false, false, false}, {-6, false, false, false},
		{math.MinInt, false, false, false}, {math.MaxInt, false, false, false}, {1 + 1<<32, false, false, false},
	} {
		for _, p := range [][2]api.Value{
			{num(4), num(5)}, {num(-5), num(-4)}, {num(9), num(10)}, {num(-top), num(top)}, {num(math.MinInt), num(math.MaxInt)},
			{text("a"), text("b")}, {text(""), text("a")}, {text("a"), text("ab")}, {text("10"), text("9")}, {text("Z"), text("a")},
			{num(5), text("5")}, {num(9), text("")}, {api.Value{}, num(0)}, {text("a"), {Kind: 3}}, {num(3), {Kind: 1, Num: 3, Text: "a"}},
		} {
			a, b := p[0], p[1]
			if Holds(c.op, a, b) != c.ahead || Holds(c.op, b, a) != c.behind || Holds(c.op, a, a) != c.same || Holds(c.op, b, b) != c.same {
				t.Error(c, a, b)
			}
		}
	}
}

// P5.3
func TestShow(t *testing.T) {
	for _, c := range []struct {
		v api.Value
		s string
	}{
		{num(0), "0"}, {num(7), "7"}, {num(-1), "-1"}, {num(10), "10"}, {num(-120), "-120"}, {num(top), "1099511627776"}, {num(-top), "-1099511627776"}, {num(top - 1), "1099511627775"},
		{text(""), `""`}, {text(" "), `" "`}, {text("a"), `"a"`}, {text("-5"), `"-5"`}, {text(" a  b "), `" a  b "`}, {text("%s'`~"), "\"%s'`~\""}, {text(long40), `"` + long40 + `"`},
	} {
		if s, e := Show(c.v); s != c.s || e != api.OK {
			t.Error(c, s, e)
		}
	}
	for _, v := range wrongs() {
		if s, e := Show(v); s != "" || e != api.ErrArg {
			t.Errorf("%+v %q %d", v, s, e)
		}
	}
}

// parses asks for the value of a text that is shown.
func parses(t *testing.T, s string, want api.Value) {
	t.Helper()
	if v, e := Parse(s); v != want || e != api.OK {
		t.Errorf("%q %+v %d", s, v, e)
	}
}

// fails asks for the value of a text that is none.
func fails(t *testing.T, s string) {
	t.Helper()
	if v, e := Parse(s); v != (api.Value{}) || e != api.ErrSyntax {
		t.Errorf("%q %+v %d", s, v, e)
	}
}

// P5.3
func TestParse(t *testing.T) {
	for s, want := range map[string]api.Value{
		"0": num(0), "7": num(7), "-1": num(-1), "10": num(10), "-120": num(-120), "1099511627776": num(top), "-1099511627776": num(-top), "1099511627775": num(top - 1),
		`""`: text(""), `" "`: text(" "), `"a"`: text("a"), `"-5"`: text("-5"), `" a  b "`: text(" a  b "), `"` + long40 + `"`: text(long40), `"007"`: text("007"), `"'"`: text("'"),
	} {
		parses(t, s, want)
	}
}

// P5.3
func TestParseOfWhatIsNoNumber(t *testing.T) {
	for _, s := range []string{
		"+5", "+0", "-0", "-00", "00", "007", "-007", "01", "-", "+", "--5", "-+5", "5-", "- 5", " 5", "5 ", "\t5", "5\n", "5\x00", "5 5", "5,5", "1_000", "_5", "5_",
		"5.0", "5.", ".5", "5e0", "1e3", "0x5", "0b1", "0o7", "x", "a", "a5", "5a", "NaN", "\u0665", "\uff15", "1099511627777", "-1099511627777", "1099511627780", "10995116277760",
		"9223372036854775807", "9223372036854775808", "-9223372036854775808", "-9223372036854775809", "18446744073709551616", "18446744073709551621", "340282366920938463463374607431768211461",
		"01099511627776", "0000000000000000000000000000000000005", strings.Repeat("9", 100000), strings.Repeat("0", 100000) + "5", "-" + strings.Repeat("1", 100000),
	} {
		fails(t, s)
	}
}

// P5.3
func TestParseOfWhatIsNoText(t *testing.T) {
	for _, s := range []string{
		"", "\"", "a", "abc", `"abc`, `abc"`, `a"bc`, `"a"b`, `"a"b"`, `"a""b"`, `"""`, `""""`, `"a""`, `""a"`, `"a" `, ` "a"`, `"a"5`, `5"a"`, "'a'", "`a`", `"a'`, `'a"`,
		`"\"`, `"\\"`, `"a\"b"`, `"\n"`, "\"\n\"", "\"\t\"", "\"\x00\"", "\"\x1f\"", "\"\x7f\"", "\"\x80\"", "\"\u00e4\"", "\"\xff\"", "\u201ca\u201d",
		`"` + long41 + `"`, `"` + long40 + ` "`, `"` + long40, long40 + `"`, `"` + strings.Repeat("a", 100000) + `"`, strings.Repeat(`"`, 42), `"` + strings.Repeat(" ", 41) + `"`,
	} {
		fails(t, s)
	}
}

// shown is how values are shown, but for the ends of numbers.
var shown = regexp.MustCompile(`^(?:0|-?[1-9][0-9]*|"[ !#-\[\]-~]{0,40}")$`)

// P5.3: each short text of a few bytes.
func TestParseOfEachShortText(t *testing.T) {
	var each func(s string, left int)
	each = func(s string, left int) {
		v, e := Parse(s)
		if want := shown.MatchString(s); want != (e == api.OK) || !want && (e != api.ErrSyntax || v != api.Value{}) {
			t.Fatalf("%q %+v %d", s, v, e)
		}
		if back, e2 := Show(v); e == api.OK && (e2 != api.OK || back != s || !Right(v)) {
			t.Fatalf("%q %+v %q", s, v, back)
		}
		if left > 0 {
			for _, c := range []byte("019-+\"\\a _.\x1f\x7f") {
				each(s+string([]byte{c}), left-1)
			}
		}
	}
	each("", 5)
}

// P5.3: what is shown, with one byte changed, left out or put in.
func TestParseOfWhatIsNearlyShown(t *testing.T) {
	for _, v := range rights() {
		s, _ := Show(v)
		for i := range len(s) + 1 {
			near := []string{s[:i], s[i:]}
			for c := range 256 {
				c := string([]byte{byte(c)})
				near = append(near, s[:i]+c+s[i:])
				if i < len(s) {
					near = append(near, s[:i]+c+s[i+1:])
				}
			}
			for _, s := range near {
				got, e := Parse(s)
				var n int
				if shown.MatchString(s) && s[0] != '"' {
					fmt.Sscan(s, &n)
				}
				if want := shown.MatchString(s) && -top <= n && n <= top; want != (e == api.OK) || want && s[0] != '"' && got != num(n) || want && s[0] == '"' && got != text(s[1:len(s)-1]) {
					t.Fatalf("%q %+v %d", s, got, e)
				}
			}
		}
	}
}

// P5.4
func TestSet(t *testing.T) {
	one, two, three := row{num(1)}, row{num(1), text("a")}, row{text("a")}
	for _, c := range []struct{ given, want []row }{
		{nil, nil}, {[]row{}, nil}, {[]row{nil}, []row{nil}}, {[]row{{}}, []row{nil}}, {[]row{nil, {}, nil}, []row{nil}},
		{[]row{one}, []row{one}}, {[]row{one, one}, []row{one}}, {[]row{one, two, three}, []row{one, two, three}}, {[]row{three, two, one}, []row{one, two, three}},
		{[]row{two, one, two, three, one, two}, []row{one, two, three}}, {[]row{two, nil, one, {}, two}, []row{nil, one, two}},
		{[]row{{num(2)}, {num(10)}, {num(-1)}, {num(2)}}, []row{{num(-1)}, {num(2)}, {num(10)}}},
		{[]row{{text("b")}, {text("")}, {text("ab")}, {text("a")}}, []row{{text("")}, {text("a")}, {text("ab")}, {text("b")}}},
		// Rows of values that are not right are rows, too; one differs from another one by any part.
		{[]row{{{Kind: 3}}, {{}}, {{}}}, []row{{{}}, {{Kind: 3}}}},
		{[]row{{{Kind: 1, Text: "a"}}, {num(0)}, {{Kind: 1, Text: "a"}}}, []row{{num(0)}, {{Kind: 1, Text: "a"}}}},
		{[]row{{{Kind: 2, Num: 1}}, {{Kind: 1, Num: 1}}, {{Kind: 2}}}, []row{{{Kind: 1, Num: 1}}, {{Kind: 2}}, {{Kind: 2, Num: 1}}}},
	} {
		if got := Set(c.given...); !alike(got, c.want) {
			t.Error(c, got)
		}
	}
	if got := Set(); len(got) != 0 {
		t.Error(got)
	}
	// R6: nil and no values are one, whichever stands first.
	if a, b := Set(nil, row{}), Set(row{}, nil); len(a) != 1 || len(b) != 1 || (a[0] == nil) != (b[0] == nil) {
		t.Error(a, b)
	}
}

// P5.4, R3: what is given is left as it is.
func TestSetChangesNothingOfWhatIsGiven(t *testing.T) {
	rows := []row{{text("b"), num(1)}, {num(7)}, {text("b"), num(1)}, {num(3), num(2), num(1)}, nil}
	given := append(cloned(rows), row{num(99)})[:len(rows)]
	for i := range given {
		given[i] = append(given[i], num(77))[:len(rows[i])] // with room behind, that is in use
	}
	Set(given...)
	if !alike(given, rows) || !alike(given[:len(rows)+1][len(rows):], []row{{num(99)}}) {
		t.Error(given)
	}
	for i := range given {
		if behind := given[i][:len(rows[i])+1][len(rows[i])]; behind != num(77) {
			t.Error(i, behind)
		}
	}
}

// P5.4, R3: what a caller does with rows that it gave, or got, is seen by none but itself.
func TestASetIsOnItsOwn(t *testing.T) {
	want := []row{{}, {num(1)}, {num(1), num(2)}, {text("a")}}
	for i := range want {
		given := append(cloned(want), cloned(want)...)
		got, again := Set(given...), Set(given...)
		for _, r := range given {
			clear(r)
		}
		clear(given)
		if !alike(got, want) {
			t.Fatal(got)
		}
		got[i] = append(got[i], num(8), num(9), num(10), num(11), num(12), num(13))
		clear(got[i])
		for j := range want {
			if j != i && !slices.Equal(got[j], want[j]) {
				t.Error(i, j, got)
			}
		}
		if !alike(again, want) {
			t.Error(i, again)
		}
	}
	// Rows of what is given may lie in one another; those of the answer do not.
	whole := row{num(1), num(2), num(3)}
	got := Set(whole, whole[:2], whole[:1], whole[1:])
	got[0] = append(got[0], num(8))
	got[1][0], got[2][1], got[3][1] = num(5), num(6), num(7)
	if !slices.Equal(whole, row{num(1), num(2), num(3)}) || !alike(got, []row{{num(1), num(8)}, {num(5), num(2)}, {num(1), num(6), num(3)}, {num(2), num(7)}}) {
		t.Error(whole, got)
	}
}

// P5.4: many rows, held against a map.
func TestManyRows(t *testing.T) {
	next := chance(3)
	var given []row
	each := map[string]int{}
	for range 60000 {
		r := row{num(next(300) - 150), text(string(rune('a' + next(26))))}[:next(3)]
		given = append(given, r)
		each[fmt.Sprint(r)]++
	}
	got := Set(given...)
	if len(got) != len(each) {
		t.Error(len(got), len(each))
	}
	for i, r := range got {
		if each[fmt.Sprint(r)] == 0 || i > 0 && Rows(got[i-1], r) != -1 {
			t.Fatal(i, r)
		}
	}
}

// P5.1, P5.3, R3: a value's text is no piece of the one that was given.
func TestAGivenTextIsNotKept(t *testing.T) {
	long := `"` + strings.Repeat("ab", 1000)
	for n := 2; n < 40; n++ {
		s := long[:n] + `"`
		v, _ := Parse(s)
		if w := Text(s[1:n]); v != w || unsafe.StringData(v.Text) == unsafe.StringData(s[1:]) || unsafe.StringData(w.Text) == unsafe.StringData(s[1:]) {
			t.Error(s)
		}
	}
}

// ordered asks of three things whether just one of three is so of each two, and whether they stand in a row.
func ordered[T any](compare func(a, b T) int, same func(a, b T) bool, a, b, c T) bool {
	ab, ba := compare(a, b), compare(b, a)
	return ab == sign(ab) && ab == -ba && (ab == 0) == same(a, b) && (ab > 0 || compare(b, c) > 0 || compare(a, c) <= 0)
}

// P5.5: right or not.
func TestValuesAreInOrder(t *testing.T) {
	l := append(rights(), wrongs()...)
	same := func(a, b api.Value) bool { return a == b }
	for _, a := range l {
		for _, b := range l {
			for _, c := range l {
				if !ordered(Compare, same, a, b, c) {
					t.Fatal(a, b, c)
				}
			}
			// Of three ways to compare just one holds, and the other three are these, turned about.
			held := 0
			for _, p := range [][2]api.CondOp{{api.CondSame, api.CondOther}, {api.CondLess, api.CondMoreEq}, {api.CondMore, api.CondLessEq}} {
				if Holds(p[0], a, b) == Holds(p[1], a, b) {
					t.Fatal(p, a, b)
				}
				if Holds(p[0], a, b) {
					held++
				}
			}
			if held != 1 {
				t.Fatal(held, a, b)
			}
		}
	}
}

// P5.5
func TestRowsAreInOrder(t *testing.T) {
	rows := slices.Clone(someRows)
	next := chance(5)
	l := append(rights(), wrongs()...)
	for range 60 {
		r := make(row, next(4))
		for i := range r {
			r[i] = l[next(len(l))]
		}
		rows = append(rows, r)
	}
	same := func(a, b row) bool { return slices.Equal(a, b) }
	for _, a := range rows {
		for _, b := range rows {
			for _, c := range rows {
				if !ordered(Rows, same, a, b, c) {
					t.Fatal(a, b, c)
				}
			}
		}
	}
}

// P5.5: and nothing else is parsed to the same.
func TestWhatIsShownIsParsed(t *testing.T) {
	l := rights()
	next := chance(7)
	for range 3000 {
		s := make([]byte, next(api.MaxText+1))
		for i := range s {
			s[i] = byte(32 + next(95))
		}
		far := next(1<<20)<<20 + next(1<<20)
		l = append(l, num(far), num(-far), num(next(2000)-1000), text(strings.NewReplacer(`"`, "'", `\`, "/").Replace(string(s))))
	}
	came := map[string]api.Value{}
	for _, v := range l {
		s, e := Show(v)
		if e != api.OK {
			t.Fatal(v, e)
		}
		parses(t, s, v)
		if w, there := came[s]; there && w != v {
			t.Error(s, v, w)
		}
		came[s] = v
	}
}

// P5.5
func TestASetDoesNotHangOnTheOrder(t *testing.T) {
	want := slices.Clone(someRows)
	for seed := range uint64(300) {
		next := chance(seed)
		given := shuffled(append(cloned(want), nil), seed)
		for range next(60) {
			given = append(given, want[next(len(want))])
		}
		given = shuffled(given, seed+1)
		got := Set(given...)
		if !alike(got, want) {
			t.Fatal(seed, got)
		}
		if !alike(Set(got...), want) || !alike(Set(append(got, given...)...), want) {
			t.Fatal(seed)
		}
	}
}
