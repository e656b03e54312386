package nfa

import (
	"fmt"
	"math"
	"slices"
	"strings"
	"testing"
	"unsafe"

	"kinescope/api"
	"kinescope/expr"
)

// Expressions that are written out.
func lab(s string) api.Expr         { return api.Expr{Kind: api.ExprLabel, Label: s} }
func seq(kids ...api.Expr) api.Expr { return api.Expr{Kind: api.ExprSeq, Kids: kids} }
func alt(kids ...api.Expr) api.Expr { return api.Expr{Kind: api.ExprAlt, Kids: kids} }
func star(x api.Expr) api.Expr      { return api.Expr{Kind: api.ExprStar, Kids: []api.Expr{x}} }
func plus(x api.Expr) api.Expr      { return api.Expr{Kind: api.ExprPlus, Kids: []api.Expr{x}} }
func opt(x api.Expr) api.Expr       { return api.Expr{Kind: api.ExprOpt, Kids: []api.Expr{x}} }

// times are as many of one.
func times[T any](n int, x T) []T { return slices.Repeat([]T{x}, n) }

// nest is an expression in one of a kind in one of that kind, and so on.
func nest(n int, around func(api.Expr) api.Expr, x api.Expr) api.Expr {
	for range n {
		x = around(x)
	}
	return x
}

// a, b, c, d are labels; loops are what has one kid; noPositions are numbers of none of any Nfa.
var (
	a, b, c, d  = lab("a"), lab("b"), lab("c"), lab("d")
	loops       = []func(api.Expr) api.Expr{star, plus, opt}
	noPositions = []int{-1, -2, -31, -32, -33, -63, -64, 24, 25, 31, 32, 33, 63, 64, 65, 1 << 32, 1<<32 + 1, math.MinInt, math.MinInt + 1, math.MaxInt - 1, math.MaxInt}
)

// chance are numbers that look as if they came by chance, the same ones each time.
func chance(seed uint64) func(n int) int {
	return func(n int) int {
		seed = seed*6364136223846793005 + 1442695040888963407
		return int(seed >> 33 % uint64(n))
	}
}

// some is an expression that is right, of at most so many parts.
func some(next func(n int) int, parts int) api.Expr {
	if parts < 2 || next(6) == 0 {
		return lab([]string{"a", "b", "aa"}[next(3)])
	}
	if parts < 3 || next(2) == 0 {
		return loops[next(3)](some(next, parts-1))
	}
	x := seq()
	if next(3) == 0 {
		x = alt()
	}
	for left := parts - 1; left > 0 && (len(x.Kids) < 2 || next(3) > 0); left -= expr.Size(x.Kids[len(x.Kids)-1]) {
		most := left
		if len(x.Kids) == 0 {
			most--
		}
		x.Kids = append(x.Kids, some(next, 1+next(most)))
	}
	return x
}

// many are such expressions.
func many(n, parts int, seed uint64) []api.Expr {
	next := chance(seed)
	l := make([]api.Expr, n)
	for i := range l {
		l[i] = some(next, 1+next(parts))
	}
	return l
}

// pairs are expressions of each Kind alone, and of each Kind within each, as each of its kids.
func pairs() []api.Expr {
	within := func(x api.Expr) []api.Expr {
		return []api.Expr{star(x), plus(x), opt(x), seq(x, c), seq(c, x), seq(c, x, d), seq(x, x), alt(x, c), alt(c, x), alt(c, x, d), alt(x, x)}
	}
	l := []api.Expr{a}
	for _, x := range append([]api.Expr{a}, within(a)...) {
		l = append(l, within(x)...)
	}
	return l
}

// rights are expressions that are right, small ones and great ones.
func rights() []api.Expr {
	deep := seq(star(a), opt(b), plus(c))
	return append(pairs(), deep, plus(deep), star(alt(deep, d)), seq(times(23, a)...), alt(times(23, a)...), seq(times(11, opt(a))...), nest(23, star, a), nest(23, plus, b), nest(11, func(x api.Expr) api.Expr { return seq(a, x) }, b), star(nest(11, func(x api.Expr) api.Expr { return alt(x, b) }, a)))
}

// wrongs are expressions that are not right.
func wrongs() []api.Expr {
	l := []api.Expr{{}, {Label: "a"}, {Kids: []api.Expr{a, b}}, {Label: "a", Kids: []api.Expr{a}}, {Kind: api.ExprLabel, Label: "a", Kids: []api.Expr{a}}, {Kind: api.ExprLabel, Label: "a", Kids: []api.Expr{a, b}}}
	for _, s := range []string{"", " ", "A", "a b", " a", "a ", "a.b", "a|b", "a*", "\x00", "0", "_", "0a", "as", "match", "where", "and", "return", "range", "slide", "\xff", "\u00e4", strings.Repeat("a", 21), strings.Repeat("z", 100000)} {
		l = append(l, lab(s), star(lab(s)), seq(a, lab(s)), alt(lab(s), a), seq(a, alt(b, opt(lab(s)))))
	}
	for kind := api.ExprSeq; kind <= api.ExprOpt; kind++ {
		for n := range 30 {
			kids := times(n, a)
			if row := kind == api.ExprSeq || kind == api.ExprAlt; row && (n < 2 || n > 23) || !row && n != 1 {
				l = append(l, api.Expr{Kind: kind, Kids: kids}, seq(a, api.Expr{Kind: kind, Kids: kids}))
			}
			l = append(l, api.Expr{Kind: kind, Kids: kids, Label: "a"}, star(api.Expr{Kind: kind, Kids: kids, Label: "a"}))
		}
		l = append(l, api.Expr{Kind: kind, Kids: []api.Expr{{}}}, api.Expr{Kind: kind, Kids: []api.Expr{a, {}}}, api.Expr{Kind: kind, Kids: []api.Expr{{}, a}}, api.Expr{Kind: kind, Kids: []api.Expr{a, {}, b}})
	}
	for _, kind := range []api.ExprKind{-1, 0, 7, 8, 256, 257, 1 << 32, 1<<32 + 1, math.MinInt, math.MaxInt} {
		l = append(l, api.Expr{Kind: kind}, api.Expr{Kind: kind, Label: "a"}, api.Expr{Kind: kind, Kids: []api.Expr{a}}, api.Expr{Kind: kind, Kids: []api.Expr{a, b}}, opt(api.Expr{Kind: kind, Label: "a"}))
	}
	for _, around := range loops {
		l = append(l, nest(24, around, a), nest(23, around, lab("as")), nest(5, around, api.Expr{}), around(seq(times(23, a)...)), nest(300000, around, a))
	}
	behind := func(x api.Expr) api.Expr { return seq(a, x) }
	l = append(l, nest(12, behind, a), alt(seq(times(11, a)...), seq(times(11, a)...)), seq(times(1000000, a)...))
	// What stands in itself has no end.
	for _, around := range []api.Expr{seq(a, b), alt(a, b), star(a), plus(a), opt(a)} {
		around.Kids[0] = around
		l = append(l, around)
	}
	return l
}

// made is the Nfa of an expression that is right.
func made(t *testing.T, x api.Expr) *Nfa {
	t.Helper()
	n, e := New(x)
	if n == nil || e != api.OK {
		t.Fatalf("%+v: %d", x, e)
	}
	return n
}

// numbers are positions, one behind the other, as they are written here.
func numbers(positions []int) string { return strings.Trim(fmt.Sprint(positions), "[]") }

// tell is all that is told of positions: labels; first ones; last ones; what follows each; whether the empty word is taken.
func tell(n *Nfa) string {
	labels, follows := []string{}, []string{}
	for p := 1; p <= n.Len(); p++ {
		labels = append(labels, n.Label(p))
		follows = append(follows, numbers(n.Follow(p)))
	}
	return strings.Join([]string{strings.Join(labels, " "), numbers(n.First()), numbers(n.Last()), strings.Join(follows, ","), fmt.Sprint(n.Empty())}, "; ")
}

// told asks whether all that is told of an expression's positions is that.
func told(t *testing.T, x api.Expr, want string) {
	t.Helper()
	if got := tell(made(t, x)); got != want {
		t.Errorf("%+v: %s, not %s", x, got, want)
	}
}

// takes asks of words, told with spaces between their labels, whether they are taken.
func takes(t *testing.T, x api.Expr, want bool, words ...string) {
	t.Helper()
	n := made(t, x)
	for _, word := range words {
		if n.Takes(strings.Fields(word)...) != want {
			t.Errorf("%+v, %q: not %t", x, word, want)
		}
	}
}

// steps asks for a step.
func steps(t *testing.T, n *Nfa, from []int, label, want string) {
	t.Helper()
	given := slices.Clone(from)
	if got := n.Step(from, label); numbers(got) != want || !slices.Equal(from, given) {
		t.Errorf("%d from %d by %q: %d, not %s", from, given, label, got, want)
	}
}

// The example.
func TestTheExample(t *testing.T) {
	x := star(seq(a, b))
	told(t, x, "a b; 1; 2; 2,1; true")
	takes(t, x, true, "", "a b", "a b a b")
	takes(t, x, false, "a", "a b a")
}

// P8.1: each Kind alone, and each within each.
func TestPositionsOfEachKind(t *testing.T) {
	for _, c := range []struct {
		x    api.Expr
		want string
	}{
		{a, "a; 1; 1; ; false"}, {star(a), "a; 1; 1; 1; true"}, {plus(a), "a; 1; 1; 1; false"}, {opt(a), "a; 1; 1; ; true"},
		{seq(a, b), "a b; 1; 2; 2,; false"}, {alt(a, b), "a b; 1 2; 1 2; ,; false"}, {seq(a, b, c), "a b c; 1; 3; 2,3,; false"}, {alt(a, b, c), "a b c; 1 2 3; 1 2 3; ,,; false"},

		{star(star(a)), "a; 1; 1; 1; true"}, {star(plus(a)), "a; 1; 1; 1; true"}, {star(opt(a)), "a; 1; 1; 1; true"}, {star(seq(a, b)), "a b; 1; 2; 2,1; true"}, {star(alt(a, b)), "a b; 1 2; 1 2; 1 2,1 2; true"},
		{plus(star(a)), "a; 1; 1; 1; true"}, {plus(plus(a)), "a; 1; 1; 1; false"}, {plus(opt(a)), "a; 1; 1; 1; true"}, {plus(seq(a, b)), "a b; 1; 2; 2,1; false"}, {plus(alt(a, b)), "a b; 1 2; 1 2; 1 2,1 2; false"},
		{opt(star(a)), "a; 1; 1; 1; true"}, {opt(plus(a)), "a; 1; 1; 1; true"}, {opt(opt(a)), "a; 1; 1; ; true"}, {opt(seq(a, b)), "a b; 1; 2; 2,; true"}, {opt(alt(a, b)), "a b; 1 2; 1 2; ,; true"},

		{seq(star(a), b), "a b; 1 2; 2; 1 2,; false"}, {seq(a, star(b)), "a b; 1; 1 2; 2,2; false"}, {seq(plus(a), b), "a b; 1; 2; 1 2,; false"}, {seq(a, plus(b)), "a b; 1; 2; 2,2; false"}, {seq(opt(a), b), "a b; 1 2; 2; 2,; false"}, {seq(a, opt(b)), "a b; 1; 1 2; 2,; false"},
		{seq(seq(a, b), c), "a b c; 1; 3; 2,3,; false"}, {seq(a, seq(b, c)), "a b c; 1; 3; 2,3,; false"}, {seq(alt(a, b), c), "a b c; 1 2; 3; 3,3,; false"}, {seq(a, alt(b, c)), "a b c; 1; 2 3; 2 3,,; false"}, {seq(alt(a, b), alt(c, d)), "a b c d; 1 2; 3 4; 3 4,3 4,,; false"},

		{alt(star(a), b), "a b; 1 2; 1 2; 1,; true"}, {alt(a, star(b)), "a b; 1 2; 1 2; ,2; true"}, {alt(plus(a), b), "a b; 1 2; 1 2; 1,; false"}, {alt(a, plus(b)), "a b; 1 2; 1 2; ,2; false"}, {alt(opt(a), b), "a b; 1 2; 1 2; ,; true"}, {alt(a, opt(b)), "a b; 1 2; 1 2; ,; true"},
		{alt(seq(a, b), c), "a b c; 1 3; 2 3; 2,,; false"}, {alt(a, seq(b, c)), "a b c; 1 2; 1 3; ,3,; false"}, {alt(alt(a, b), c), "a b c; 1 2 3; 1 2 3; ,,; false"}, {alt(a, alt(b, c)), "a b c; 1 2 3; 1 2 3; ,,; false"},
	} {
		told(t, c.x, c.want)
	}
}

// P8.1: rows of kids of which the first ones, the last ones, those between, or all take the empty word.
func TestPositionsOfRows(t *testing.T) {
	for _, c := range []struct {
		x    api.Expr
		want string
	}{
		{seq(opt(a), opt(b), c), "a b c; 1 2 3; 3; 2 3,3,; false"}, {seq(star(a), star(b), c), "a b c; 1 2 3; 3; 1 2 3,2 3,; false"}, {seq(opt(a), b, c), "a b c; 1 2; 3; 2,3,; false"},
		{seq(a, opt(b), opt(c)), "a b c; 1; 1 2 3; 2 3,3,; false"}, {seq(a, star(b), star(c)), "a b c; 1; 1 2 3; 2 3,2 3,3; false"}, {seq(a, b, opt(c)), "a b c; 1; 2 3; 2,3,; false"},
		{seq(a, opt(b), c), "a b c; 1; 3; 2 3,3,; false"}, {seq(a, star(b), c), "a b c; 1; 3; 2 3,2 3,; false"}, {seq(a, opt(b), opt(c), d), "a b c d; 1; 4; 2 3 4,3 4,4,; false"}, {seq(a, alt(b, opt(c)), d), "a b c d; 1; 4; 2 3 4,4,4,; false"}, {seq(a, seq(opt(b), opt(c)), d), "a b c d; 1; 4; 2 3 4,3 4,4,; false"},
		{seq(opt(a), opt(b)), "a b; 1 2; 1 2; 2,; true"}, {seq(opt(a), opt(b), opt(c)), "a b c; 1 2 3; 1 2 3; 2 3,3,; true"}, {seq(star(a), star(b), star(c)), "a b c; 1 2 3; 1 2 3; 1 2 3,2 3,3; true"}, {seq(star(a), opt(b), star(c)), "a b c; 1 2 3; 1 2 3; 1 2 3,3,3; true"},
		{seq(opt(a), b, opt(c)), "a b c; 1 2; 2 3; 2,3,; false"}, {seq(opt(a), b, opt(c), d, opt(a)), "a b c d a; 1 2; 4 5; 2,3 4,4,5,; false"}, {seq(opt(a), b, c, opt(d)), "a b c d; 1 2; 3 4; 2,3,4,; false"}, {seq(a, opt(b), c, opt(d)), "a b c d; 1; 3 4; 2 3,3,4,; false"},
		{seq(opt(seq(a, b)), c), "a b c; 1 3; 3; 2,3,; false"}, {seq(a, opt(seq(b, c))), "a b c; 1; 1 3; 2,3,; false"}, {seq(plus(opt(a)), b), "a b; 1 2; 2; 1 2,; false"}, {seq(plus(a), opt(b), plus(c)), "a b c; 1; 3; 1 2 3,3,3; false"},
		{seq(opt(a), seq(opt(b), c), d), "a b c d; 1 2 3; 4; 2 3,3,4,; false"}, {seq(a, seq(b, opt(c)), opt(d)), "a b c d; 1; 2 3 4; 2,3 4,4,; false"},
	} {
		told(t, c.x, c.want)
	}
}

// P8.1: loops of rows, of alternatives, of loops, and one in the other.
func TestPositionsOfLoops(t *testing.T) {
	for _, c := range []struct {
		x    api.Expr
		want string
	}{
		{star(seq(a, b, c)), "a b c; 1; 3; 2,3,1; true"}, {plus(seq(a, b, c)), "a b c; 1; 3; 2,3,1; false"}, {opt(seq(a, b, c)), "a b c; 1; 3; 2,3,; true"},
		{star(seq(opt(a), opt(b), c)), "a b c; 1 2 3; 3; 2 3,3,1 2 3; true"}, {plus(seq(a, opt(b), opt(c))), "a b c; 1; 1 2 3; 1 2 3,1 3,1; false"}, {plus(seq(opt(a), opt(b))), "a b; 1 2; 1 2; 1 2,1 2; true"}, {star(seq(a, star(b))), "a b; 1; 1 2; 1 2,1 2; true"}, {star(seq(star(a), b)), "a b; 1 2; 2; 1 2,1 2; true"},
		{star(alt(a, seq(b, c))), "a b c; 1 2; 1 3; 1 2,3,1 2; true"}, {plus(alt(seq(a, b), seq(c, d))), "a b c d; 1 3; 2 4; 2,1 3,4,1 3; false"}, {alt(star(seq(a, b)), c), "a b c; 1 3; 2 3; 2,1,; true"}, {alt(a, opt(b), c), "a b c; 1 2 3; 1 2 3; ,,; true"}, {alt(a, seq(opt(b), opt(c)), d), "a b c d; 1 2 3 4; 1 2 3 4; ,3,,; true"},
		{star(seq(plus(a), opt(star(b)), c)), "a b c; 1; 3; 1 2 3,2 3,1; true"}, {seq(star(alt(a, b)), alt(c, seq(a, d))), "a b c a d; 1 2 3 4; 3 5; 1 2 3 4,1 2 3 4,,5,; false"}, {seq(plus(seq(a, b)), star(seq(c, d))), "a b c d; 1; 2 4; 2,1 3,4,3; false"},
		{nest(23, star, a), "a; 1; 1; 1; true"}, {nest(23, plus, a), "a; 1; 1; 1; false"}, {nest(23, opt, a), "a; 1; 1; ; true"}, {star(plus(opt(seq(a, b)))), "a b; 1; 2; 2,1; true"}, {opt(plus(opt(a))), "a; 1; 1; 1; true"},
	} {
		told(t, c.x, c.want)
	}
}

// P8.1: labels stand from the left, as often as they stand there.
func TestLabelsOfPositions(t *testing.T) {
	long := strings.Repeat("ab_0", 5)
	for _, c := range []struct {
		x    api.Expr
		want string
	}{
		{lab(long), long + "; 1; 1; ; false"}, {seq(b, a), "b a; 1; 2; 2,; false"}, {seq(a, a, a), "a a a; 1; 3; 2,3,; false"}, {alt(a, a), "a a; 1 2; 1 2; ,; false"}, {star(seq(a, b, a)), "a b a; 1; 3; 2,3,1; true"}, {seq(alt(d, lab("a_")), star(seq(lab("aa"), a)), d), "d a_ aa a d; 1 2; 5; 3 5,3 5,4,3 5,; false"},
	} {
		told(t, c.x, c.want)
	}
}

// P8.1: as many positions as 24 parts can have.
func TestAsManyPositionsAsMayBe(t *testing.T) {
	rising := func(from, to int) string {
		var l []int
		for p := from; p <= to; p++ {
			l = append(l, p)
		}
		return numbers(l)
	}
	wide := make([]string, 23)
	for p := range wide {
		wide[p] = fmt.Sprint(p + 2)
	}
	wide[22] = ""
	labels := strings.TrimSpace(strings.Repeat("a ", 23))
	told(t, seq(times(23, a)...), labels+"; 1; 23; "+strings.Join(wide, ",")+"; false")
	told(t, alt(times(23, a)...), labels+"; "+rising(1, 23)+"; "+rising(1, 23)+"; "+strings.Repeat(",", 22)+"; false")
	told(t, plus(alt(times(22, a)...)), labels[2:]+"; "+rising(1, 22)+"; "+rising(1, 22)+"; "+strings.TrimSuffix(strings.Repeat(rising(1, 22)+",", 22), ",")+"; false")
	last := append(times(22, a), b)
	n := made(t, seq(last...))
	if n.Len() != 23 || n.Label(22) != "a" || n.Label(23) != "b" {
		t.Error(tell(n))
	}
	steps(t, n, []int{21, 22}, "b", "23")
	steps(t, made(t, alt(last...)), []int{0}, "b", "23")
	takes(t, seq(last...), true, strings.Repeat("a ", 22)+"b")
	takes(t, seq(last...), false, strings.Repeat("a ", 21)+"b", strings.Repeat("a ", 23), strings.Repeat("a ", 22))
}

// P8.1: numbers that are no positions: the begin, what is below it, and what is beyond the last one.
func TestNumbersThatAreNoPositions(t *testing.T) {
	for _, x := range rights() {
		n := made(t, x)
		for _, p := range append([]int{0, n.Len() + 1, n.Len() + 2}, noPositions...) {
			if n.Label(p) != "" || len(n.Follow(p)) != 0 {
				t.Errorf("%+v %d: %q %d", x, p, n.Label(p), n.Follow(p))
			}
		}
		for p := 1; p <= n.Len(); p++ {
			if n.Label(p) == "" {
				t.Errorf("%+v %d", x, p)
			}
		}
	}
	n := made(t, plus(seq(a, b)))
	if n.Label(1) != "a" || n.Label(2) != "b" || !slices.Equal(n.Follow(1), []int{2}) || !slices.Equal(n.Follow(2), []int{1}) {
		t.Error(tell(n))
	}
}

// P8.1, R2: none, and ErrArg.
func TestNewOfWhatIsNotRight(t *testing.T) {
	for _, x := range wrongs() {
		if n, e := New(x); n != nil || e != api.ErrArg {
			t.Errorf("%.300q: %v %d", fmt.Sprint(x.Kind, x.Label, len(x.Kids)), n, e)
		}
	}
}

// P8.1, R6: lists of kids that are nil, and ones without entries.
func TestNewOfListsWithoutEntries(t *testing.T) {
	for _, kids := range [][]api.Expr{nil, {}, times(2, a)[:0]} {
		x := api.Expr{Kind: api.ExprLabel, Label: "a", Kids: kids}
		told(t, x, "a; 1; 1; ; false")
		told(t, seq(x, star(x)), "a a; 1; 1 2; 2,2; false")
	}
}

// follow is that one position follows another one.
type follow struct{ p, q int }

// positions are what the chapter tells of an expression, found in another way than the package does.
type positions struct {
	labels      []string
	first, last map[int]bool
	follows     map[follow]bool
}

// byTable are an expression's positions, of which some are ahead, as the chapter's table tells them, row by row.
func byTable(x api.Expr, ahead int) positions {
	if x.Kind == api.ExprLabel {
		return positions{[]string{x.Label}, map[int]bool{ahead + 1: true}, map[int]bool{ahead + 1: true}, map[follow]bool{}}
	}
	all := positions{first: map[int]bool{}, last: map[int]bool{}, follows: map[follow]bool{}}
	var kids []positions
	for _, kid := range x.Kids {
		of := byTable(kid, ahead+len(all.labels))
		kids = append(kids, of)
		all.labels = append(all.labels, of.labels...)
	}
	empty := func(from, to int) bool { // whether all kids between take the empty word
		return !slices.ContainsFunc(x.Kids[from:to], func(kid api.Expr) bool { return !expr.Empty(kid) })
	}
	row, loop := x.Kind == api.ExprSeq, x.Kind == api.ExprStar || x.Kind == api.ExprPlus
	for i, kid := range kids {
		for p := range kid.first {
			all.first[p] = all.first[p] || !row || empty(0, i)
		}
		for p := range kid.last {
			all.last[p] = all.last[p] || !row || empty(i+1, len(kids))
		}
		for f := range kid.follows {
			all.follows[f] = true
		}
		for j, behind := range kids {
			if row && i < j && empty(i+1, j) || loop {
				for p := range kid.last {
					for q := range behind.first {
						all.follows[follow{p, q}] = true
					}
				}
			}
		}
	}
	for _, set := range []map[int]bool{all.first, all.last} {
		for p, in := range set {
			if !in {
				delete(set, p)
			}
		}
	}
	return all
}

// byWords are likewise those of an expression that words of at most so many labels tell: with which ones they begin and end, and which stand side by side in one.
func byWords(x api.Expr, most int) positions {
	var labels []string
	all := positions{first: map[int]bool{}, last: map[int]bool{}, follows: map[follow]bool{}}
	for word := range language(x, most, &labels) {
		for i := range len(word) {
			if i == 0 {
				all.first[int(word[i])] = true
			} else {
				all.follows[follow{int(word[i-1]), int(word[i])}] = true
			}
			if i == len(word)-1 {
				all.last[int(word[i])] = true
			}
		}
	}
	all.labels = labels
	return all
}

// language are all words of at most so many labels that an expression takes, each label told by its position, as a byte.
func language(x api.Expr, most int, labels *[]string) map[string]bool {
	if x.Kind == api.ExprLabel {
		*labels = append(*labels, x.Label)
		return map[string]bool{string([]byte{byte(len(*labels))}): true}
	}
	words := map[string]bool{}
	for i, kid := range x.Kids {
		of := language(kid, most, labels)
		if x.Kind == api.ExprSeq && i > 0 {
			words = joined(words, of, most)
			continue
		}
		for word := range of {
			words[word] = true
		}
	}
	if x.Kind == api.ExprStar || x.Kind == api.ExprPlus {
		for one, size := words, -1; size != len(words); {
			size = len(words)
			more := joined(words, one, most)
			for word := range one {
				more[word] = true
			}
			words = more
		}
	}
	if x.Kind == api.ExprStar || x.Kind == api.ExprOpt {
		words[""] = true
	}
	return words
}

// joined are words of one behind words of another one, of at most so many labels.
func joined(ahead, behind map[string]bool, most int) map[string]bool {
	words := map[string]bool{}
	for one := range ahead {
		for other := range behind {
			if len(one)+len(other) <= most {
				words[one+other] = true
			}
		}
	}
	return words
}

// sorted are the positions of a set, rising.
func sorted(set map[int]bool) []int {
	var l []int
	for p := range set {
		l = append(l, p)
	}
	slices.Sort(l)
	return l
}

// agrees asks whether what is told of an expression's positions is that.
func agrees(t *testing.T, x api.Expr, want positions) {
	t.Helper()
	n := made(t, x)
	right := n.Len() == len(want.labels) && slices.Equal(n.First(), sorted(want.first)) && slices.Equal(n.Last(), sorted(want.last)) && n.Empty() == expr.Empty(x)
	for p := 1; p <= n.Len() && right; p++ {
		behind := map[int]bool{}
		for f := range want.follows {
			if f.p == p {
				behind[f.q] = true
			}
		}
		right = n.Label(p) == want.labels[p-1] && slices.Equal(n.Follow(p), sorted(behind))
	}
	if !right {
		t.Errorf("%+v: %s, not %+v", x, tell(n), want)
	}
}

// P8.1: as the table says.
func TestPositionsOfManyExpressions(t *testing.T) {
	for _, x := range append(rights(), many(5000, 24, 1)...) {
		agrees(t, x, byTable(x, 0))
	}
}

// P8.1: what begins, ends, and follows, is what does so in some word. (Twice as many labels as there are positions are enough for that.)
func TestPositionsByWords(t *testing.T) {
	came := map[int]int{}
	for _, x := range append(pairs(), many(3000, 8, 2)...) {
		if n := made(t, x).Len(); n <= 3 {
			came[n]++
			agrees(t, x, byWords(x, 2*n))
		}
	}
	for _, x := range []api.Expr{star(seq(a, b, c, d)), plus(seq(opt(a), b, opt(c), opt(d))), seq(star(alt(a, b)), opt(c), d), star(seq(alt(a, star(b)), plus(alt(c, d)))), alt(star(seq(a, opt(b))), seq(opt(c), plus(d)))} {
		agrees(t, x, byWords(x, 8))
	}
	if came[1] < 100 || came[2] < 100 || came[3] < 100 {
		t.Error(came)
	}
}

// P8.2: from none, from the begin, from some; with labels that stand nowhere, once, or at several positions.
func TestStep(t *testing.T) {
	n := made(t, star(seq(a, opt(b), a, alt(b, c)))) // 1 a, 2 b, 3 a, 4 b, 5 c
	for _, c := range []struct {
		from        []int
		label, want string
	}{
		{nil, "a", ""}, {[]int{}, "a", ""}, {nil, "", ""}, {[]int{0}, "a", "1"}, {[]int{0}, "b", ""}, {[]int{0}, "c", ""},
		{[]int{1}, "a", "3"}, {[]int{1}, "b", "2"}, {[]int{1}, "c", ""}, {[]int{2}, "a", "3"}, {[]int{2}, "b", ""}, {[]int{3}, "a", ""}, {[]int{3}, "b", "4"}, {[]int{3}, "c", "5"}, {[]int{4}, "a", "1"}, {[]int{5}, "a", "1"}, {[]int{5}, "b", ""},
		{[]int{0, 1}, "a", "1 3"}, {[]int{0, 1}, "b", "2"}, {[]int{0, 3}, "b", "4"}, {[]int{1, 3}, "b", "2 4"}, {[]int{1, 2}, "a", "3"}, {[]int{4, 5}, "a", "1"}, {[]int{0, 4, 5}, "a", "1"}, {[]int{0, 1, 2, 3, 4, 5}, "a", "1 3"}, {[]int{0, 1, 2, 3, 4, 5}, "b", "2 4"}, {[]int{0, 1, 2, 3, 4, 5}, "c", "5"},
		// Not rising; twice.
		{[]int{1, 0}, "a", "1 3"}, {[]int{3, 1}, "b", "2 4"}, {[]int{5, 4, 3, 2, 1, 0}, "a", "1 3"}, {[]int{3, 0, 1}, "b", "2 4"}, {[]int{0, 0}, "a", "1"}, {[]int{1, 1, 1}, "a", "3"}, {[]int{3, 1, 3, 1}, "b", "2 4"}, {[]int{1, 0, 1, 0}, "a", "1 3"},
		// What is no position says nothing.
		{[]int{-1}, "a", ""}, {[]int{6}, "a", ""}, {noPositions, "a", ""}, {noPositions, "b", ""}, {noPositions, "", ""}, {append([]int{0}, noPositions...), "a", "1"}, {append(noPositions[:len(noPositions):len(noPositions)], 3), "b", "4"}, {[]int{6, 3, -1}, "c", "5"},
		// What is no label of it.
		{[]int{0, 1, 2, 3, 4, 5}, "d", ""}, {[]int{0, 1, 2, 3, 4, 5}, "", ""}, {[]int{0, 1, 2, 3, 4, 5}, "aa", ""}, {[]int{0, 1, 2, 3, 4, 5}, "A", ""}, {[]int{0, 1, 2, 3, 4, 5}, "as", ""}, {[]int{0, 1, 2, 3, 4, 5}, "a ", ""}, {[]int{0, 1, 2, 3, 4, 5}, "a\x00", ""}, {[]int{0, 1, 2, 3, 4, 5}, "\xff", ""},
	} {
		steps(t, n, c.from, c.label, c.want)
	}
	steps(t, made(t, alt(times(23, a)...)), []int{0}, "a", numbers(made(t, alt(times(23, a)...)).First()))
	steps(t, made(t, a), []int{0, 1}, "a", "1")
	steps(t, made(t, a), []int{1}, "a", "")
	steps(t, made(t, star(a)), []int{1}, "a", "1")
	steps(t, made(t, opt(a)), []int{1}, "a", "")
}

// P8.2: as First, Follow and Label tell it, of whatever numbers.
func TestStepOfManyNumbers(t *testing.T) {
	next := chance(3)
	found := 0
	for _, x := range append(rights(), many(2000, 24, 4)...) {
		n := made(t, x)
		for range 20 {
			from := make([]int, next(6))
			for i := range from {
				from[i] = next(n.Len()+4) - 2
			}
			for _, label := range []string{"a", "b", "aa", "d", ""} {
				var want []int
				for p := 1; p <= n.Len(); p++ {
					if n.Label(p) == label && slices.ContainsFunc(from, func(f int) bool { return f == 0 && slices.Contains(n.First(), p) || slices.Contains(n.Follow(f), p) }) {
						want = append(want, p)
					}
				}
				found += len(want)
				if got := n.Step(from, label); !slices.Equal(got, want) {
					t.Fatalf("%+v from %d by %s: %d, not %d", x, from, label, got, want)
				}
			}
		}
	}
	if found < 10000 {
		t.Error(found)
	}
}

// P8.1, P8.2: what is told rises, each once, and is a position.
func TestWhatIsToldRises(t *testing.T) {
	for _, x := range append(rights(), many(2000, 24, 5)...) {
		n := made(t, x)
		told := [][]int{n.First(), n.Last()}
		all := []int{0}
		for p := n.Len(); p > 0; p-- {
			told = append(told, n.Follow(p))
			all = append(all, p, p)
		}
		for _, label := range expr.Labels(x) {
			told = append(told, n.Step(all, label), n.Step([]int{0}, label))
		}
		for _, l := range told {
			for i, p := range l {
				if p < 1 || p > n.Len() || i > 0 && l[i-1] >= p {
					t.Errorf("%+v: %d", x, l)
				}
			}
		}
	}
}

// P8.2
func TestTakes(t *testing.T) {
	for _, c := range []struct {
		x       api.Expr
		yes, no []string
	}{
		{a, []string{"a"}, []string{"", "b", "a a", "a b", "b a", "aa", "A"}},
		{lab("ab"), []string{"ab"}, []string{"", "a", "b", "a b", "abc", "ab ab"}},
		{seq(a, b), []string{"a b"}, []string{"", "a", "b", "b a", "a b c", "a b b", "a a b", "c a b", "ab", "a b a b"}},
		{alt(a, b), []string{"a", "b"}, []string{"", "a b", "b a", "a a", "c"}},
		{alt(a, seq(a, b)), []string{"a", "a b"}, []string{"", "b", "a a", "a a b", "a b b"}},
		{star(a), []string{"", "a", "a a", "a a a a a"}, []string{"b", "a b", "b a", "a a b", "a b a"}},
		{plus(a), []string{"a", "a a", "a a a a a"}, []string{"", "b", "a b", "a a b"}},
		{opt(a), []string{"", "a"}, []string{"a a", "b", "a b"}},
		{star(star(a)), []string{"", "a", "a a a"}, []string{"b", "a b"}},
		{plus(opt(a)), []string{"", "a", "a a a"}, []string{"b", "a b"}},
		{plus(plus(a)), []string{"a", "a a a"}, []string{"", "b", "a b"}},
		{plus(seq(a, b)), []string{"a b", "a b a b"}, []string{"", "a", "a b a", "b a"}},
		{star(alt(a, seq(b, c))), []string{"", "a", "b c", "a b c", "b c a", "b c b c a a"}, []string{"b", "c", "a b", "b a", "b c c", "c b"}},
		{seq(star(a), b), []string{"b", "a b", "a a a b"}, []string{"", "a", "b a", "a b b", "a b a b"}},
		{seq(a, star(b)), []string{"a", "a b", "a b b b"}, []string{"", "b", "a a", "a b a", "b a"}},
		{seq(star(a), a, a), []string{"a a", "a a a", "a a a a"}, []string{"", "a", "a b"}},
		{seq(opt(a), a, opt(a)), []string{"a", "a a", "a a a"}, []string{"", "a a a a", "b"}},
		{seq(opt(a), opt(b), opt(c)), []string{"", "a", "b", "c", "a b", "a c", "b c", "a b c"}, []string{"b a", "c a", "c b", "a a", "a b c a"}},
		{seq(a, opt(b), c), []string{"a b c", "a c"}, []string{"", "a", "a b", "b c", "a b b c", "c"}},
		{alt(star(a), star(b)), []string{"", "a a", "b b"}, []string{"a b", "b a"}},
		{seq(star(alt(a, b)), a, alt(a, b)), []string{"a a", "a b", "b a b", "a b a a"}, []string{"a", "b a", "b b", "a b b"}},
		{seq(times(23, a)...), []string{strings.Repeat("a ", 23)}, []string{"", strings.Repeat("a ", 22), strings.Repeat("a ", 24)}},
	} {
		takes(t, c.x, true, c.yes...)
		takes(t, c.x, false, c.no...)
		if n := made(t, c.x); n.Takes() != n.Empty() || n.Takes([]string{}...) != n.Empty() || n.Takes("") || n.Takes("a", "") || n.Takes("", "a") || n.Takes("a b") || n.Takes("match") {
			t.Errorf("%+v", c.x)
		}
	}
}

// words are all words of at most so many labels.
func words(most int, labels ...string) [][]string {
	all := [][]string{{}}
	for from, n := 0, 0; n < most; n++ {
		to := len(all)
		for _, word := range all[from:to] {
			for _, label := range labels {
				all = append(all, append(slices.Clip(word), label))
			}
		}
		from = to
	}
	return all
}

// walk says whether a word comes step by step from the begin to a last position.
func walk(n *Nfa, word []string) bool {
	at := []int{0}
	for _, label := range word {
		at = n.Step(at, label)
	}
	last := n.Last()
	return slices.ContainsFunc(at, func(p int) bool { return slices.Contains(last, p) })
}

// P8.2, P8.4: as the expression takes them; step by step from the begin to a last position, but the empty one.
func TestTakesOfManyWords(t *testing.T) {
	all := words(5, "a", "b", "aa")
	next := chance(6)
	for range 200 {
		word := make([]string, 6+next(40))
		for i := range word {
			word[i] = []string{"a", "a", "a", "b", "aa"}[next(5)]
		}
		all = append(all, word)
	}
	found := map[bool]int{}
	for _, x := range append(rights(), many(500, 24, 7)...) {
		n := made(t, x)
		for _, word := range all {
			want := expr.Takes(x, word...)
			found[want]++
			if n.Takes(word...) != want || walk(n, word) != (want && len(word) > 0) {
				t.Fatalf("%+v %q: not %t", x, word, want)
			}
		}
	}
	if found[true] < 5000 || found[false] < 5000 {
		t.Error(found)
	}
}

// P8.4: words that a walk over positions spells are taken, and so is none else.
func TestWalksOverPositions(t *testing.T) {
	next := chance(8)
	for _, x := range append(rights(), many(1000, 24, 9)...) {
		n := made(t, x)
		var word []string
		at := n.First()
		for len(word) < 60 {
			p := at[next(len(at))]
			word = append(word, n.Label(p))
			if n.Takes(word...) != walk(n, word) || slices.Contains(n.Last(), p) && !n.Takes(word...) || n.Takes(word...) != expr.Takes(x, word...) {
				t.Fatalf("%+v %q", x, word)
			}
			if at = n.Follow(p); len(at) == 0 {
				break
			}
		}
	}
}

// P8.2, R1: words and lists so long that what walks them again and again would not come to an end.
func TestVeryLongWords(t *testing.T) {
	const n = 2000000
	word := times(n, "a")
	behind := append(slices.Clip(word), "b")
	for i, c := range []struct {
		x          api.Expr
		yes, later bool
	}{
		{star(a), true, false}, {star(alt(seq(a, star(a), b), a)), true, true}, {star(seq(times(7, a)...)), n%7 == 0, false}, {seq(star(a), star(a), star(a), star(a), star(a), b), false, true}, {a, false, false}, {star(alt(times(22, a)...)), true, false},
	} {
		x := made(t, c.x)
		if x.Takes(word...) != c.yes || x.Takes(behind...) != c.later {
			t.Error(i)
		}
	}
	from := times(n, 2)
	steps(t, made(t, seq(a, a, b)), append(from, 1), "a", "2")
}

// P8.3
func TestOfNoNfa(t *testing.T) {
	n := made(t, star(seq(a, b)))
	copied := *n
	wrong, _ := New(api.Expr{})
	for i, none := range []*Nfa{nil, {}, new(Nfa), &copied, wrong} {
		if none.Len() != 0 || len(none.First()) != 0 || len(none.Last()) != 0 || none.Empty() || none.Takes() || none.Takes("a", "b") || none.Takes("a") || none.Takes("") {
			t.Error(i)
		}
		for _, p := range append([]int{0, 1, 2, 3}, noPositions...) {
			if none.Label(p) != "" || len(none.Follow(p)) != 0 || len(none.Step([]int{p}, "a")) != 0 || len(none.Step([]int{0, p}, "")) != 0 {
				t.Error(i, p)
			}
		}
		if len(none.Step(nil, "a")) != 0 || len(none.Step([]int{0, 1, 2}, "b")) != 0 {
			t.Error(i)
		}
	}
	if got := tell(n); got != "a b; 1; 2; 2,1; true" || !n.Takes("a", "b") {
		t.Error(got)
	}
}

// R3, R4: what is given is left as it is, and what lies behind it, too; and it is answered alike again.
func TestNothingIsChanged(t *testing.T) {
	x := seq(a, star(alt(b, a)), opt(c))
	x.Kids = append(x.Kids, lab("room"))[:3]
	word := []string{"a", "b", "room", "d"}
	from := []int{2, 0, -1, 0, 7}
	first, second := made(t, x), made(t, x)
	for _, n := range []*Nfa{first, second, first} {
		if got := tell(n); got != "a b a c; 1; 1 2 3 4; 2 3 4,2 3 4,2 3 4,; false" || !n.Takes(word[:2]...) || n.Takes(word...) {
			t.Error(got)
		}
		steps(t, n, from[:4], "a", "1 3")
	}
	if fmt.Sprint(x) != fmt.Sprint(seq(a, star(alt(b, a)), opt(c))) || x.Kids[:4][3].Label != "room" || !slices.Equal(word, []string{"a", "b", "room", "d"}) || !slices.Equal(from, []int{2, 0, -1, 0, 7}) {
		t.Error(x, word, from)
	}
}

// R3: what a caller does later with an expression, a list or a word that it gave, or got, is seen by none but itself.
func TestWhatIsToldIsOnItsOwn(t *testing.T) {
	inner := alt(b, a)
	x := plus(seq(a, star(inner), opt(c)))
	n := made(t, x)
	const want = "a b a c; 1; 1 2 3 4; 1 2 3 4,1 2 3 4,1 2 3 4,1; false"
	got := [][]int{n.First(), n.Last(), n.Follow(1), n.Follow(2), n.Follow(3), n.Step([]int{0, 1}, "a"), n.Step([]int{0, 1}, "a")}
	if fmt.Sprint(got[5:]) != "[[1 3] [1 3]]" || tell(n) != want {
		t.Error(got, tell(n))
	}
	inner.Kids[0], x.Kids[0].Kids[0] = d, star(d)
	x.Kids[0].Kids[2].Kids[0].Label = "other"
	x.Kids[0].Kids = x.Kids[0].Kids[:1]
	word, from := []string{"a", "b", "c"}, []int{0, 1}
	if !n.Takes(word...) {
		t.Error(word)
	}
	clear(word)
	clear(from)
	for i, l := range got {
		for k := range l {
			l[k] = 99
		}
		if i < len(got)-1 && slices.Contains(got[i+1], 99) {
			t.Error(i, "lies together with the next one")
		}
		got[i] = append(l[:0], 7, 7, 7, 7)
	}
	if tell(n) != want || !n.Takes("a", "b", "c", "a") || n.Takes("d") || numbers(n.Step([]int{0, 1}, "a")) != "1 3" {
		t.Error(tell(n))
	}
	if other, e := New(x); other != nil || e != api.ErrArg {
		t.Error(x, e)
	}
	x.Kids[0] = d
	told(t, x, "d; 1; 1; 1; false")
	if tell(n) != want {
		t.Error(tell(n))
	}
}

// R3: of a long text of which a piece is a label, that piece alone is kept.
func TestAnNfaKeepsNoLongerText(t *testing.T) {
	long := strings.Repeat("abc", 1000)
	n := made(t, seq(lab(long[3:6]), lab(long[1:2])))
	for p, given := range []string{long[3:6], long[1:2]} {
		if s := n.Label(p + 1); s != given || unsafe.StringData(s) == unsafe.StringData(given) {
			t.Error(p, s)
		}
	}
}
