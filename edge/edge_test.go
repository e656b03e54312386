package edge

import (
	"bytes"
	"cmp"
	"encoding/binary"
	"fmt"
	"math"
	"regexp"
	"slices"
	"strings"
	"testing"

	"kinescope/api"
)

const top = api.MaxNum

// num, text are values, prop is a prop, edge an edge, that are written out.
func num(n int) api.Value                   { return api.Value{Kind: api.ValueNum, Num: n} }
func text(s string) api.Value               { return api.Value{Kind: api.ValueText, Text: s} }
func prop(key string, v api.Value) api.Prop { return api.Prop{Key: key, Val: v} }
func edge(from, to, label string, time int, props ...api.Prop) api.Edge {
	return api.Edge{From: from, To: to, Label: label, Time: time, Props: props}
}

// long20 and long21 are the longest name that is right, and one that is a byte longer; long40 and long41 are such texts of values.
var (
	long20 = strings.Repeat("ab_0", 5)
	long21 = long20 + "a"
	long40 = strings.Repeat("abcd ", 8)
	long41 = long40 + "a"
)

// rightNames are free names; rightVertices are names of vertices alone; wrongNames are neither.
var (
	rightNames    = []string{"a", "z", "a0", "a_", "ab", "as_", "matches", "s", "wher", "ranges", "slide0", "x1y2", long20[:19], long20}
	rightVertices = []string{"0", "9", "_", "_a", "0a", "007", "as", "match", "where", "and", "return", "range", "slide", strings.Repeat("9", 20), strings.Repeat("_", 20)}
	wrongNames    = []string{"", " ", "A", "aB", "a b", " a", "a ", "a-b", "-", "a.b", "a\x00", "\x00", "a\n", "`", "{", "/", ":", "^", "\x80", "a\xff", "\u00e4", "a\u00e4", "\u0661", long21, strings.Repeat("z", 100000), strings.Repeat("_", 255), strings.Repeat("0", 256), strings.Repeat("a", 257), strings.Repeat("a", 276)}
)

// rightValues and wrongValues are values that are right, and such as are not.
var (
	rightValues = []api.Value{num(-top), num(-top + 1), num(-257), num(-1), num(0), num(1), num(7), num(256), num(1 << 32), num(top - 1), num(top), text(""), text(" "), text("a"), text("~!"), text("-5"), text(long40[:39]), text(long40)}
	wrongValues = []api.Value{{}, {Kind: 3}, {Kind: -1}, {Kind: 257, Num: 5}, {Kind: 258}, {Num: 5}, {Text: "a"}, {Kind: api.ValueNum, Num: 5, Text: "a"}, {Kind: api.ValueText, Num: 5, Text: "a"},
		num(-top - 1), num(top + 1), num(math.MinInt), num(math.MaxInt), num(1 << 48), num(-1 << 48), text("\""), text("\\"), text("a\n"), text("\x7f"), text("\x1f"), text("\u00e4"), text(long41), text(strings.Repeat("a", 296)), text(strings.Repeat(" ", 100000))}
)

// rightTimes and wrongTimes are times, and such as are none.
var (
	rightTimes = []int{0, 1, 5, 255, 256, 1 << 32, 1<<40 - 1, 1 << 40}
	wrongTimes = []int{-1, -2, math.MinInt, -1 << 40, 1<<40 + 1, 1<<40 + 5, 1 << 41, 1 << 48, 1<<48 + 5, math.MaxInt}
)

// keys are free names, rising, one more than an edge has props at most.
var keys = []string{"a", "a0", "a_", "aa", "ab", long20, "b", "b_1", "ba"}

// rows are props of the first keys, rising.
func rows(n int) []api.Prop {
	var l []api.Prop
	for i, key := range keys[:n] {
		l = append(l, prop(key, rightValues[2*i]))
	}
	return l
}

// chance are numbers that look as if they came by chance, the same ones each time.
func chance(seed uint64) func(n int) int {
	return func(n int) int {
		seed = seed*6364136223846793005 + 1442695040888963407
		return int(seed >> 33 % uint64(n))
	}
}

// pick is one of some.
func pick[T any](next func(n int) int, l []T) T { return l[next(len(l))] }

// shuffled are edges in an order that hangs on a seed.
func shuffled(edges []api.Edge, seed uint64) []api.Edge {
	l, next := slices.Clone(edges), chance(seed)
	for i := range l {
		j := i + next(len(l)-i)
		l[i], l[j] = l[j], l[i]
	}
	return l
}

// same says whether edges are, with their props: none are as good as nil.
func same(a, b api.Edge) bool {
	return a.From == b.From && a.To == b.To && a.Label == b.Label && a.Time == b.Time && slices.Equal(a.Props, b.Props)
}

// isZero says whether an edge has nothing at all.
func isZero(e api.Edge) bool { return same(e, api.Edge{}) && e.Props == nil }

// cloned are edges that share nothing with those given.
func cloned(edges []api.Edge) []api.Edge {
	l := slices.Clone(edges)
	for i := range l {
		l[i].Props = slices.Clone(l[i].Props)
	}
	return l
}

// sign is which side of 0 a number lies on.
func sign(n int) int { return max(min(n, 1), -1) }

// tell is an edge's bytes, put together in another way.
func tell(e api.Edge) []byte {
	var b bytes.Buffer
	number := func(n int) { b.Write(binary.BigEndian.AppendUint64(nil, uint64(n))[2:]) }
	text := func(s string) { b.WriteString(string([]byte{byte(len(s))}) + s) }
	text(e.From)
	text(e.To)
	text(e.Label)
	number(e.Time)
	b.WriteByte(byte(len(e.Props)))
	for _, p := range e.Props {
		text(p.Key)
		b.WriteByte(byte(p.Val.Kind))
		if p.Val.Kind == api.ValueText {
			text(p.Val.Text)
		} else {
			number(p.Val.Num + 1<<40)
		}
	}
	return b.Bytes()
}

var (
	isVertex  = regexp.MustCompile(`^[a-z0-9_]{1,20}$`).MatchString
	isFree    = func(s string) bool { return isVertex(s) && s[0] >= 'a' && !isKeyword(s) }
	isKeyword = regexp.MustCompile(`^(as|match|where|and|return|range|slide)$`).MatchString
	isText    = regexp.MustCompile(`^[ !#-\[\]-~]{0,40}$`).MatchString
)

// why is why an edge is not right, asked in another way.
func why(e api.Edge) api.Errno {
	fits := isVertex(e.From) && isVertex(e.To) && isFree(e.Label) && len(e.Props) <= 8
	last := ""
	for _, p := range e.Props {
		isNum := p.Val.Kind == 1 && p.Val.Text == "" && -1<<40 <= p.Val.Num && p.Val.Num <= 1<<40
		isText := p.Val.Kind == 2 && p.Val.Num == 0 && isText(p.Val.Text)
		fits = fits && isFree(p.Key) && p.Key > last && (isNum || isText)
		last = p.Key
	}
	switch {
	case !fits:
		return api.ErrArg
	case e.Time < 0 || e.Time > 1<<40:
		return api.ErrTime
	}
	return api.OK
}

// checks asks whether an edge is right, and that it isn't put, if it is not.
func checks(t *testing.T, e api.Edge, want api.Errno) {
	t.Helper()
	if got := Check(e); got != want {
		t.Errorf("%.200q %d, not %d", fmt.Sprint(e), got, want)
	}
	if b, got := Put(e); got != want || want != api.OK && b != nil || want == api.OK && !bytes.Equal(b, tell(e)) {
		t.Errorf("%.200q %v %d, not %d", fmt.Sprint(e), b, got, want)
	}
}

// checksAtEachTime asks so with each time that is one, and with such as are none.
func checksAtEachTime(t *testing.T, e api.Edge, right bool) {
	t.Helper()
	for _, at := range rightTimes {
		e.Time = at
		checks(t, e, map[bool]api.Errno{true: api.OK, false: api.ErrArg}[right])
	}
	for _, at := range wrongTimes {
		e.Time = at
		checks(t, e, map[bool]api.Errno{true: api.ErrTime, false: api.ErrArg}[right])
	}
}

// P6.1, P6.3
func TestCheckOfTimes(t *testing.T) {
	for _, e := range []api.Edge{edge("a", "b", "x", 0), edge("a", "a", "a", 0, rows(1)...), edge("0", "as", "x", 0, rows(8)...)} {
		checksAtEachTime(t, e, true)
	}
	for _, e := range []api.Edge{{}, edge("", "b", "x", 0), edge("a", "", "x", 0), edge("a", "b", "", 0), edge("a", "b", "as", 0), edge("a", "b", "x", 0, rows(9)...), edge("a", "b", "x", 0, prop("k", num(top+1)))} {
		checksAtEachTime(t, e, false)
	}
}

// P6.1, P6.3
func TestCheckOfNames(t *testing.T) {
	for _, s := range rightNames {
		checksAtEachTime(t, edge(s, "b", "x", 0), true)
		checksAtEachTime(t, edge("a", s, "x", 0), true)
		checksAtEachTime(t, edge("a", "b", s, 0), true)
		checksAtEachTime(t, edge("a", "b", "x", 0, prop(s, num(7))), true)
		checksAtEachTime(t, edge(s, s, s, 0, prop(s, text(s))), true)
	}
	for _, s := range rightVertices {
		checksAtEachTime(t, edge(s, "b", "x", 0), true)
		checksAtEachTime(t, edge("a", s, "x", 0), true)
		checksAtEachTime(t, edge("a", "b", s, 0), false)
		checksAtEachTime(t, edge("a", "b", "x", 0, prop(s, num(7))), false)
	}
	for _, s := range wrongNames {
		checksAtEachTime(t, edge(s, "b", "x", 0), false)
		checksAtEachTime(t, edge("a", s, "x", 0), false)
		checksAtEachTime(t, edge("a", "b", s, 0), false)
		checksAtEachTime(t, edge("a", "b", "x", 0, prop(s, num(7))), false)
		checksAtEachTime(t, edge("a", "b", "x", 0, prop("a", num(7)), prop("z"+s, num(7))), isFree("z"+s))
	}
}

// P6.1: each byte, wherever it stands.
func TestCheckOfEachByte(t *testing.T) {
	for c := range 256 {
		for _, s := range []string{string([]byte{byte(c)}), "a" + string([]byte{byte(c)}), string([]byte{byte(c)}) + "a", "a" + string([]byte{byte(c)}) + "a"} {
			for _, e := range []api.Edge{edge(s, "b", "x", 5), edge("a", s, "x", 5), edge("a", "b", s, 5), edge("a", "b", "x", 5, prop(s, num(7))), edge("a", "b", "x", 5, prop("k", text(s)))} {
				checks(t, e, why(e))
			}
		}
	}
}

// P6.1, P6.3
func TestCheckOfProps(t *testing.T) {
	for n := range 10 {
		checksAtEachTime(t, edge("a", "b", "x", 0, rows(n)...), n <= 8)
	}
	checksAtEachTime(t, api.Edge{From: "a", To: "b", Label: "x", Props: []api.Prop{}}, true) // R6
	for n := 9; n <= 300; n++ {
		var l []api.Prop
		for i := range n {
			l = append(l, prop(fmt.Sprintf("k%04d", i), num(i)))
		}
		checks(t, edge("a", "b", "x", 5, l...), api.ErrArg)
		checks(t, edge("a", "b", "x", -1, l...), api.ErrArg)
	}
	for _, v := range rightValues {
		checksAtEachTime(t, edge("a", "b", "x", 0, prop("k", v)), true)
		checksAtEachTime(t, edge("a", "b", "x", 0, append(rows(7), prop("z", v))...), true)
	}
	for _, v := range wrongValues {
		checksAtEachTime(t, edge("a", "b", "x", 0, prop("k", v)), false)
		for i := range 8 {
			l := rows(8)
			l[i].Val = v
			checksAtEachTime(t, edge("a", "b", "x", 0, l...), false)
		}
	}
}

// P6.1, P6.3
func TestCheckOfKeys(t *testing.T) {
	for _, c := range []struct {
		keys  string
		right bool
	}{
		{"a b", true}, {"a aa", true}, {"a a0", true}, {"a a_", true}, {"a0 a_", true}, {"a_ aa", true}, {"a0 aa", true}, {"a9 aa ab b", true}, {"a10 a9", true}, {"z z0 z00", true},
		{"b a", false}, {"aa a", false}, {"a a", false}, {"a_ a0", false}, {"aa a_", false}, {"a9 a10", false}, {"a b b", false}, {"a a b", false}, {"a b a", false}, {"a c b", false}, {"b a c", false}, {"a b c d e f g g", false}, {"a b c d e f h g", false},
		{"a b c d e f g h", true}, {"a b c d e f g h i", false}, {"a b c d e f g h h", false},
	} {
		var l []api.Prop
		for i, key := range strings.Fields(c.keys) {
			l = append(l, prop(key, num(i)))
		}
		checksAtEachTime(t, edge("a", "b", "x", 0, l...), c.right)
	}
	// Two of eight that are turned around, or the same.
	for i := range 8 {
		for j := range i {
			l := rows(8)
			l[i], l[j] = l[j], l[i]
			checksAtEachTime(t, edge("a", "b", "x", 0, l...), false)
			l = rows(8)
			l[i].Key = l[j].Key
			checksAtEachTime(t, edge("a", "b", "x", 0, l...), false)
		}
	}
}

// some are edges of which some are right, some are not.
func some(n int, seed uint64) []api.Edge {
	next := chance(seed)
	names := slices.Concat(rightNames, rightNames, rightNames, rightVertices, wrongNames[:20])
	var l []api.Edge
	for range n {
		e := edge(pick(next, names), pick(next, names), pick(next, names), pick(next, append(slices.Clone(rightTimes), wrongTimes...)))
		e.Props = rows(next(9))
		for i := range e.Props {
			switch next(40) {
			case 0:
				e.Props[i].Key = pick(next, names)
			case 1:
				e.Props[i].Val = pick(next, wrongValues)
			default:
				e.Props[i].Val = pick(next, rightValues)
			}
		}
		l = append(l, e)
	}
	return l
}

// rights are edges that are right, no two of which have the same bytes.
func rights() []api.Edge {
	l := []api.Edge{edge("a", "b", "x", 5, prop("k", num(7))), edge("a", "b", "x", 0), edge("0", "as", "x", api.MaxTime, rows(8)...), edge(long20, long20, long20, api.MaxTime, prop(long20, text(long40)))}
	for _, v := range rightValues {
		l = append(l, edge("a", "b", "x", 1, prop("k", v)), edge("a", "b", "x", 1, prop("k", v), prop("kk", v)))
	}
	for _, at := range rightTimes {
		l = append(l, edge("a", "b", "x", at, prop("z", text("z"))))
	}
	for n := range 9 {
		l = append(l, edge("ab", "b", "x", 5, rows(n)...))
	}
	for _, s := range rightNames {
		l = append(l, edge(s, "b", "y", 5), edge("v", s, "y", 5), edge("w", "b", s, 5), edge("u", "b", "y", 5, prop(s, num(3))))
	}
	return l
}

// P6.1, P6.3
func TestCheckOfMany(t *testing.T) {
	found := map[api.Errno]int{}
	for _, e := range some(20000, 3) {
		found[why(e)]++
		checks(t, e, why(e))
	}
	if found[api.OK] < 500 || found[api.ErrTime] < 500 || found[api.ErrArg] < 500 {
		t.Error(found)
	}
}

// inOrder are edges in order, no two like.
var inOrder = []api.Edge{
	edge("z", "z", "z", math.MinInt), edge("z", "z", "z", -1), {}, edge("", "", "x", 0), edge("", "b", "", 0), edge("a", "", "", 0), edge("a", "b", "", 0), edge("a", "b", "x", 0), edge("z", "z", "z", 0),
	edge("a", "a", "x", 5), edge("a", "b", "", 5), edge("a", "b", "X", 5), edge("a", "b", "x", 5), edge("a", "b", "x0", 5), edge("a", "b", "x_", 5), edge("a", "b", "xx", 5), edge("a", "b", "y", 5), edge("a", "b", "\x80", 5),
	edge("a", "b0", "x", 5), edge("a", "b_", "x", 5), edge("a", "ba", "a", 5), edge("a", "ba", "x", 5), edge("a", "c", "a", 5), edge("a", "\xff", "a", 5),
	edge("a0", "a", "a", 5), edge("a0", "b", "x", 5), edge("a_", "b", "x", 5), edge("aa", "a", "a", 5), edge("ab", "a", "a", 5), edge("b", "a", "a", 5), edge("b", "a", "b", 5), edge("b", "b", "a", 5), edge("\u00e4", "a", "a", 5),
	edge("a", "a", "a", 6), edge("a", "b", "x", 6), edge("a", "a", "a", 10), edge("a", "a", "a", 1<<32), edge("a", "a", "a", api.MaxTime), edge("a", "a", "a", math.MaxInt),
}

// P6.1: right or not, with whatever props.
func TestCompareAndLike(t *testing.T) {
	for i, a := range inOrder {
		for j, b := range inOrder {
			for _, props := range [][2][]api.Prop{{nil, nil}, {nil, rows(3)}, {rows(3), nil}, {{}, nil}, {rows(2), rows(3)}, {{prop("z", num(9))}, {prop("a", text("a"))}}, {{prop("a", num(1))}, {prop("a", num(2))}}} {
				a.Props, b.Props = props[0], props[1]
				if got, like := Compare(a, b), Like(a, b); got != sign(i-j) || like != (i == j) {
					t.Errorf("%+v %+v %d %t", a, b, got, like)
				}
			}
		}
	}
}

// P6.1: edges that differ in one of the four alone, whatever stands behind it.
func TestCompareByTheFirstOther(t *testing.T) {
	a := edge("m", "m", "m", 5)
	for _, rest := range []string{"a", "m", "z"} {
		for _, c := range []struct{ ahead, behind api.Edge }{
			{edge(rest, rest, rest, 4), edge(rest, rest, rest, 6)}, {edge("l", rest, rest, 5), edge("n", rest, rest, 5)}, {edge("m", "l", rest, 5), edge("m", "n", rest, 5)}, {edge("m", "m", "l", 5), edge("m", "m", "n", 5)},
		} {
			if Compare(c.ahead, a) != -1 || Compare(a, c.ahead) != 1 || Compare(c.behind, a) != 1 || Compare(a, c.behind) != -1 || Like(a, c.ahead) || Like(c.behind, a) {
				t.Error(c)
			}
		}
	}
	if b := edge("m", "m", "m", 5, rows(8)...); Compare(a, b) != 0 || Compare(b, a) != 0 || !Like(a, b) || !Like(b, a) {
		t.Error(b)
	}
	// What From, To and Label are, is not what they are one behind the other.
	if a, b := edge("ab", "c", "d", 5), edge("a", "bc", "d", 5); Like(a, b) || Compare(a, b) != 1 || Compare(b, a) != -1 {
		t.Error(a, b)
	}
	if a, b := edge("a", "bc", "d", 5), edge("a", "b", "cd", 5); Like(a, b) || Compare(a, b) != 1 || Compare(b, a) != -1 {
		t.Error(a, b)
	}
}

// P6.2
func TestProp(t *testing.T) {
	e := edge("a", "b", "x", 5, prop("a", num(1)), prop("ab", text("a")), prop("b", num(0)), prop("ba", text("")))
	for _, p := range e.Props {
		if v, there := Prop(e, p.Key); v != p.Val || !there {
			t.Error(p, v, there)
		}
	}
	for _, key := range []string{"", "aa", "a ", "A", "abc", "c", "bab", "x", "0", "k", "\x00", strings.Repeat("a", 100000)} {
		if v, there := Prop(e, key); v != (api.Value{}) || there {
			t.Errorf("%q %+v", key, v)
		}
		for _, e := range []api.Edge{{}, edge("a", "b", "x", 5), {Props: []api.Prop{}}} {
			if v, there := Prop(e, key); v != (api.Value{}) || there {
				t.Errorf("%q %+v", key, v)
			}
		}
	}
	for n := range 10 {
		for i, p := range rows(9) {
			want := p.Val
			if i >= n {
				want = api.Value{}
			}
			if v, there := Prop(edge("a", "b", "x", 5, rows(n)...), p.Key); v != want || there != (i < n) {
				t.Error(n, i, v, there)
			}
		}
	}
}

// P6.2: of edges that are not right, too.
func TestPropOfTheFirst(t *testing.T) {
	e := edge("", "", "", -1, prop("b", num(1)), prop("a", num(2)), prop("a", text("x")), prop("b", num(4)), prop("", num(5)), prop("A B", api.Value{Kind: 9, Num: 6, Text: "y"}), prop("z", api.Value{}), prop("z", num(7)), prop("", num(8)), prop("c", num(9)), prop("c", num(10)))
	for key, want := range map[string]api.Value{"a": num(2), "b": num(1), "": num(5), "A B": {Kind: 9, Num: 6, Text: "y"}, "z": {}, "c": num(9)} {
		if v, there := Prop(e, key); v != want || !there {
			t.Errorf("%q %+v %t", key, v, there)
		}
	}
}

// sorts asks for edges in order.
func sorts(t *testing.T, given, want []api.Edge) {
	t.Helper()
	if got := Sort(given...); !slices.EqualFunc(got, want, same) {
		t.Fatalf("%+v\n%+v\n%+v", given, got, want)
	}
}

// P6.2
func TestSort(t *testing.T) {
	if got := Sort(); len(got) != 0 {
		t.Error(got)
	}
	sorts(t, nil, nil)
	sorts(t, []api.Edge{}, nil)
	for _, e := range append(rights(), api.Edge{}, edge("", "A", "as", -1, rows(9)...)) {
		sorts(t, []api.Edge{e}, []api.Edge{e})
		sorts(t, []api.Edge{e, e}, []api.Edge{e, e})
	}
	for i, a := range inOrder {
		for j, b := range inOrder {
			a.Props, b.Props = rows(i%9), rows(j%9)
			sorts(t, []api.Edge{a, b}, map[bool][]api.Edge{true: {a, b}, false: {b, a}}[i <= j])
		}
	}
	sorts(t, inOrder, inOrder)
	turned := slices.Clone(inOrder)
	slices.Reverse(turned)
	sorts(t, turned, inOrder)
}

// P6.2: such as are like stand as they did, whatever their props are.
func TestSortOfSuchAsAreLike(t *testing.T) {
	at := func(from string, time, n int) api.Edge { return edge(from, "b", "x", time, prop("k", num(n))) }
	given := []api.Edge{at("a", 5, 3), at("b", 4, 9), at("a", 5, 1), at("a", 4, 5), at("b", 4, 0), at("a", 5, 2), at("a", 5, 3), at("a", 4, 4)}
	sorts(t, given, []api.Edge{at("a", 4, 5), at("a", 4, 4), at("b", 4, 9), at("b", 4, 0), at("a", 5, 3), at("a", 5, 1), at("a", 5, 2), at("a", 5, 3)})
	next := chance(5)
	for size := range 200 {
		var given []api.Edge
		for i := range size {
			given = append(given, at(pick(next, []string{"a", "b"}), next(3), size-i))
		}
		var want []api.Edge
		for time := range 3 {
			for _, from := range []string{"a", "b"} {
				for _, e := range given {
					if e.Time == time && e.From == from {
						want = append(want, e)
					}
				}
			}
		}
		sorts(t, given, want)
	}
}

// P6.2, R3: what is given is left as it is, and what lies behind it, too.
func TestSortChangesNothingOfWhatIsGiven(t *testing.T) {
	edges := []api.Edge{edge("b", "b", "x", 5, rows(3)...), edge("a", "b", "x", 5, rows(1)...), edge("a", "b", "x", 4), edge("a", "b", "x", 5, rows(2)...)}
	room := append(cloned(edges), edge("r", "r", "r", 1))
	for i := range edges {
		room[i].Props = append(room[i].Props, prop("room", num(77)))[:len(edges[i].Props)]
	}
	Sort(room[:len(edges)]...)
	if !slices.EqualFunc(room, append(cloned(edges), edge("r", "r", "r", 1)), same) {
		t.Error(room)
	}
	for i := range edges {
		n := len(edges[i].Props)
		if behind := room[i].Props[:n+1][n]; behind != prop("room", num(77)) {
			t.Error(i, behind)
		}
	}
}

// P6.2, R3: what a caller does later with edges that it gave, or got, is seen by none but itself.
func TestWhatIsSortedIsOnItsOwn(t *testing.T) {
	want := []api.Edge{edge("a", "b", "x", 4, rows(2)...), edge("a", "b", "x", 5, rows(8)...), edge("a", "b", "x", 5, rows(1)...), edge("b", "b", "x", 5, rows(3)...)}
	for i := range want {
		given := cloned(want)
		got, again := Sort(given...), Sort(given...)
		for _, e := range given {
			clear(e.Props)
		}
		clear(given)
		if !slices.EqualFunc(got, want, same) {
			t.Fatal(got)
		}
		got[i].Props = append(got[i].Props, rows(9)...)
		clear(got[i].Props)
		got[i].From = "changed"
		if !slices.EqualFunc(slices.Delete(got, i, i+1), slices.Delete(cloned(want), i, i+1), same) || !slices.EqualFunc(again, want, same) {
			t.Error(i, got, again)
		}
	}
	// Props of edges that are given may be one another's; those of the answer are not.
	whole := rows(3)
	got := Sort(edge("a", "b", "x", 5, whole...), edge("a", "b", "x", 4, whole...), edge("a", "b", "x", 3, whole[:2]...))
	got[0].Props[0] = prop("changed", num(1))
	got[0].Props = append(got[0].Props, prop("changed", num(2)))
	got[1].Props[1] = prop("changed", num(3))
	if !slices.Equal(whole, rows(3)) || !slices.Equal(got[2].Props, whole) || got[1].Props[0] != whole[0] || got[1].Props[2] != whole[2] {
		t.Error(whole, got)
	}
}

// P6.3
func TestTheExample(t *testing.T) {
	e := edge("a", "b", "x", 5, prop("k", num(7)))
	want := []byte{1, 97, 1, 98, 1, 120, 0, 0, 0, 0, 0, 5, 1, 1, 107, 1, 1, 0, 0, 0, 0, 7}
	if b, why := Put(e); !bytes.Equal(b, want) || why != api.OK {
		t.Error(b, why)
	}
	if got, why := Parse(want); !same(got, e) || why != api.OK {
		t.Error(got, why)
	}
}

// P6.3: byte by byte.
func TestPut(t *testing.T) {
	for _, c := range []struct {
		e    api.Edge
		want string
	}{
		{edge("a", "b", "x", 0), "\x01a\x01b\x01x\x00\x00\x00\x00\x00\x00\x00"},
		{edge("0a", "as", "x_1", 258), "\x020a\x02as\x03x_1\x00\x00\x00\x00\x01\x02\x00"},
		{edge("a", "b", "x", 1<<40-1), "\x01a\x01b\x01x\x00\xff\xff\xff\xff\xff\x00"},
		{edge("a", "b", "x", 1<<40), "\x01a\x01b\x01x\x01\x00\x00\x00\x00\x00\x00"},
		{edge("a", "b", "x", 0x0102030405), "\x01a\x01b\x01x\x00\x01\x02\x03\x04\x05\x00"},
		{edge("a", "b", "x", 5, prop("k", num(-1<<40))), "\x01a\x01b\x01x\x00\x00\x00\x00\x00\x05\x01\x01k\x01\x00\x00\x00\x00\x00\x00"},
		{edge("a", "b", "x", 5, prop("k", num(-1))), "\x01a\x01b\x01x\x00\x00\x00\x00\x00\x05\x01\x01k\x01\x00\xff\xff\xff\xff\xff"},
		{edge("a", "b", "x", 5, prop("k", num(0))), "\x01a\x01b\x01x\x00\x00\x00\x00\x00\x05\x01\x01k\x01\x01\x00\x00\x00\x00\x00"},
		{edge("a", "b", "x", 5, prop("k", num(1<<40))), "\x01a\x01b\x01x\x00\x00\x00\x00\x00\x05\x01\x01k\x01\x02\x00\x00\x00\x00\x00"},
		{edge("a", "b", "x", 5, prop("k", text(""))), "\x01a\x01b\x01x\x00\x00\x00\x00\x00\x05\x01\x01k\x02\x00"},
		{edge("a", "b", "x", 5, prop("k", text("~ 1"))), "\x01a\x01b\x01x\x00\x00\x00\x00\x00\x05\x01\x01k\x02\x03~ 1"},
		{edge("a", "b", "x", 5, prop("k", text(long40)), prop("kk", num(258))), "\x01a\x01b\x01x\x00\x00\x00\x00\x00\x05\x02\x01k\x02\x28" + long40 + "\x02kk\x01\x01\x00\x00\x00\x01\x02"},
		{edge(long20, long20, long20, 5, prop(long20, text("a"))), "\x14" + long20 + "\x14" + long20 + "\x14" + long20 + "\x00\x00\x00\x00\x00\x05\x01\x14" + long20 + "\x02\x01a"},
	} {
		if b, why := Put(c.e); string(b) != c.want || why != api.OK {
			t.Errorf("%+v %q %d", c.e, b, why)
		}
		parses(t, []byte(c.want), c.e)
	}
}

// parses asks for the edge whose bytes are given.
func parses(t *testing.T, b []byte, want api.Edge) {
	t.Helper()
	if e, why := Parse(b); !same(e, want) || why != api.OK {
		t.Errorf("%.200q %+v %d", b, e, why)
	}
}

// fails asks for the edge of bytes that are none's.
func fails(t *testing.T, b []byte) {
	t.Helper()
	if e, why := Parse(b); !isZero(e) || why != api.ErrShape {
		t.Errorf("%.200q %+v %d", b, e, why)
	}
}

// P6.3
func TestParseOfWhatIsPut(t *testing.T) {
	for _, e := range rights() {
		parses(t, tell(e), e)
	}
}

// P6.3: bytes that are cut off, wherever it is, or have more behind or ahead of them.
func TestParseOfWhatIsCutOff(t *testing.T) {
	fails(t, nil)
	fails(t, []byte{})
	for _, e := range rights() {
		b := tell(e)
		for n := range b {
			fails(t, b[:n])
			fails(t, b[:n:n])
			if n > 0 {
				fails(t, b[n:])
			}
		}
		for c := range 256 {
			fails(t, append(slices.Clip(b), byte(c)))
			fails(t, append([]byte{byte(c)}, b...))
		}
		fails(t, append(slices.Clip(b), b...))
	}
}

// P6.3: bytes as of edges that are not right.
func TestParseOfWhatIsNotRight(t *testing.T) {
	for _, s := range append(slices.Clone(rightVertices), wrongNames...) {
		if len(s) > 255 {
			continue
		}
		fails(t, tell(edge("a", "b", s, 5)))
		fails(t, tell(edge("a", "b", "x", 5, prop(s, num(7)))))
		if !isVertex(s) {
			fails(t, tell(edge(s, "b", "x", 5)))
			fails(t, tell(edge("a", s, "x", 5)))
		}
	}
	for _, at := range []int{1<<40 + 1, 1<<40 + 256, 1 << 41, 1 << 47, 1<<48 - 1} {
		fails(t, tell(edge("a", "b", "x", at)))
		fails(t, tell(edge("a", "b", "x", at, rows(3)...)))
	}
	for _, n := range []int{top + 1, top + 256, 1 << 41, 1 << 47, 1<<48 - 1 - top} {
		fails(t, tell(edge("a", "b", "x", 5, prop("k", num(n)))))
		fails(t, tell(edge("a", "b", "x", 5, prop("k", num(n)), prop("kk", num(5)))))
	}
	for _, s := range []string{"\"", "\\", "a\n", "\x00", "\x1f", "\x7f", "\u00e4", "\xff", long41, strings.Repeat("a", 255)} {
		fails(t, tell(edge("a", "b", "x", 5, prop("k", text(s)))))
	}
	for kind := range 256 {
		if kind != 1 && kind != 2 {
			for _, v := range []string{"", "\x00", "\x01a", "\x01\x00\x00\x00\x00\x07", "\x05\x00\x00\x00\x00\x00"} {
				fails(t, []byte("\x01a\x01b\x01x\x00\x00\x00\x00\x00\x05\x01\x01k"+string([]byte{byte(kind)})+v))
			}
		}
	}
	for _, l := range []string{"b a", "a a", "aa a", "a_ a0", "a b b", "a c b", "b a c", "a b c d e f h g"} {
		var props []api.Prop
		for _, key := range strings.Fields(l) {
			props = append(props, prop(key, num(7)))
		}
		fails(t, tell(edge("a", "b", "x", 5, props...)))
	}
	for n := 9; n < 256; n++ {
		var l []api.Prop
		for i := range n {
			l = append(l, prop(fmt.Sprintf("k%03d", i), num(i)))
		}
		fails(t, tell(edge("a", "b", "x", 5, l...)))
	}
}

// P6.3: counts and lengths that are too great, or too small.
func TestParseOfOtherCounts(t *testing.T) {
	for n := range 9 {
		b := tell(edge("a", "b", "x", 5, rows(n)...))
		for count := range 256 {
			other := slices.Clone(b)
			other[12] = byte(count)
			if count != n {
				fails(t, other)
			}
		}
	}
	b := tell(edge("abc", "bcd", "xyz", 5, prop("key", text("val"))))
	for _, place := range []int{0, 4, 8, 19, 24} {
		for size := range 256 {
			other := slices.Clone(b)
			other[place] = byte(size)
			if size != 3 {
				fails(t, other)
				fails(t, append(other, bytes.Repeat([]byte("a"), 300)...))
			}
		}
	}
	fails(t, bytes.Repeat([]byte{255}, 1<<20))
	fails(t, bytes.Repeat([]byte{0}, 1<<20))
	fails(t, bytes.Repeat([]byte{1}, 1<<20))
	fails(t, append(b, make([]byte, 1<<20)...))
}

// P6.3: with any one byte changed, left out or put in, bytes are either none's, or just those of what is told.
func TestParseOfWhatIsNearlyPut(t *testing.T) {
	edges := []api.Edge{edge("a", "bc", "x", 5, prop("k", num(7)), prop("kk", text("a b")), prop("l", text(""))), edge("0", "_", "as_", api.MaxTime), edge("a", "a", "a", 0, prop("a", num(top)), prop("b", num(-top)))}
	found := map[api.Errno]int{}
	for _, e := range edges {
		b := tell(e)
		for i := range len(b) + 1 {
			var near [][]byte
			for c := range 256 {
				near = append(near, slices.Concat(b[:i], []byte{byte(c)}, b[i:]))
				if i < len(b) {
					near = append(near, slices.Concat(b[:i], []byte{byte(c)}, b[i+1:]), slices.Concat(b[:i], b[i+1:]))
				}
			}
			for _, b := range near {
				got, e := Parse(b)
				found[e]++
				if e == api.OK && (why(got) != api.OK || !bytes.Equal(tell(got), b)) || e != api.OK && (e != api.ErrShape || !isZero(got)) {
					t.Fatalf("%q %+v %d", b, got, e)
				}
			}
		}
	}
	if found[api.OK] < 500 || found[api.ErrShape] < 500 {
		t.Error(found)
	}
}

// P6.3, R3: what a caller does later with edges or bytes that it gave, or got, is seen by none but itself.
func TestWhatIsPutOrParsedIsOnItsOwn(t *testing.T) {
	e := edge("a", "b", "x", 5, rows(3)...)
	want := tell(e)
	b, _ := Put(e)
	again, _ := Put(e)
	if !same(e, edge("a", "b", "x", 5, rows(3)...)) {
		t.Error(e)
	}
	clear(e.Props)
	if !bytes.Equal(b, want) {
		t.Error(b)
	}
	got, _ := Parse(b)
	other, _ := Parse(b)
	if !bytes.Equal(b, want) {
		t.Error(b)
	}
	for i := range b {
		b[i] = '!'
	}
	other.Props[0] = prop("changed", num(1))
	other.Props = append(other.Props, prop("changed", num(2)))
	if !same(got, edge("a", "b", "x", 5, rows(3)...)) || !bytes.Equal(again, want) {
		t.Error(got, again)
	}
	// What lies behind bytes that are given is left as it is.
	room := append(slices.Clone(want), 99, 98)
	Parse(room[:len(want)])
	if !bytes.Equal(room, append(slices.Clone(want), 99, 98)) {
		t.Error(room)
	}
}

// P6.4: and no other bytes are parsed to the same.
func TestWhatIsPutIsParsed(t *testing.T) {
	l := append(rights(), some(20000, 7)...)
	came := map[string]api.Edge{}
	for _, e := range l {
		b, why := Put(e)
		if why != api.OK {
			continue
		}
		parses(t, b, e)
		if other, there := came[string(b)]; there && !same(other, e) {
			t.Errorf("%+v %+v", e, other)
		}
		came[string(b)] = e
	}
	if len(came) < 500 {
		t.Error(len(came))
	}
}

// P6.4
func TestSortDoesNotHangOnTheOrder(t *testing.T) {
	edges := slices.Clone(inOrder)
	for i := range edges {
		edges[i].Props = rows(i % 9)
	}
	for seed := range uint64(500) {
		next := chance(seed)
		l := shuffled(edges, seed)[:next(len(edges)+1)]
		want := Sort(l...)
		sorts(t, shuffled(l, seed+1), want)
		sorts(t, want, want)
		if !slices.IsSortedFunc(want, func(a, b api.Edge) int {
			return cmp.Or(cmp.Compare(a.Time, b.Time), strings.Compare(a.From+"\x00"+a.To+"\x00"+a.Label, b.From+"\x00"+b.To+"\x00"+b.Label))
		}) {
			t.Fatal(want)
		}
	}
	sorts(t, shuffled(edges, 1000), edges)
}

// P6.4: of three edges each two stand in one way, and all of them in a row.
func TestEdgesAreInOrder(t *testing.T) {
	l := append(slices.Clone(inOrder), some(50, 11)...)
	for _, a := range l {
		for _, b := range l {
			ab := Compare(a, b)
			if ab != sign(ab) || ab != -Compare(b, a) || Like(a, b) != (ab == 0) || Like(a, b) != Like(b, a) {
				t.Fatal(a, b)
			}
			for _, c := range l {
				if ab <= 0 && Compare(b, c) <= 0 && Compare(a, c) > 0 {
					t.Fatal(a, b, c)
				}
			}
		}
	}
}

// R1: each call ends, whatever it is given.
func TestManyBytes(t *testing.T) {
	next := chance(13)
	signs := []byte("\x00\x01\x02\x03\x14\x15ab_0\xff\x06\x08\x09 ")
	found := 0
	for range 100000 {
		b := make([]byte, next(40))
		for i := range b {
			b[i] = pick(next, signs)
		}
		if next(2) == 0 {
			b = append([]byte("\x01a\x01b\x01x\x00\x00\x00\x00\x00\x05"), b...)
		}
		e, got := Parse(b)
		if got == api.OK {
			found++
			if why(e) != api.OK || !bytes.Equal(tell(e), b) {
				t.Fatalf("%q %+v", b, e)
			}
		} else if got != api.ErrShape || !isZero(e) {
			t.Fatalf("%q %+v %d", b, e, got)
		}
	}
	if found == 0 {
		t.Error("no edge was found")
	}
}
