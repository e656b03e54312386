package expr

import (
	"fmt"
	"math"
	"regexp"
	"slices"
	"strings"
	"testing"

	"kinescope/api"
)

// Expressions that are written out.
func lab(s string) api.Expr              { return api.Expr{Kind: api.ExprLabel, Label: s} }
func seq(kids ...api.Expr) api.Expr      { return api.Expr{Kind: api.ExprSeq, Kids: kids} }
func alt(kids ...api.Expr) api.Expr      { return api.Expr{Kind: api.ExprAlt, Kids: kids} }
func star(kid api.Expr) api.Expr         { return api.Expr{Kind: api.ExprStar, Kids: []api.Expr{kid}} }
func plus(kid api.Expr) api.Expr         { return api.Expr{Kind: api.ExprPlus, Kids: []api.Expr{kid}} }
func opt(kid api.Expr) api.Expr          { return api.Expr{Kind: api.ExprOpt, Kids: []api.Expr{kid}} }
func labs(labels string) []api.Expr      { return mapped(strings.Fields(labels), lab) }
func times(n int, x api.Expr) []api.Expr { return slices.Repeat([]api.Expr{x}, n) }

// mapped is what becomes of each of some.
func mapped[S, T any](l []S, f func(S) T) []T {
	var all []T
	for _, x := range l {
		all = append(all, f(x))
	}
	return all
}

// a, b, c, d are labels; kinds are all kinds; long20 is the longest name that is right.
var (
	a, b, c, d = lab("a"), lab("b"), lab("c"), lab("d")
	kinds      = []api.ExprKind{api.ExprLabel, api.ExprSeq, api.ExprAlt, api.ExprStar, api.ExprPlus, api.ExprOpt}
	rows       = []api.ExprKind{api.ExprSeq, api.ExprAlt}
	loops      = []api.ExprKind{api.ExprStar, api.ExprPlus, api.ExprOpt}
	long20     = strings.Repeat("ab_0", 5)
)

// freeNames are free names, otherNames are none.
var (
	freeNames  = []string{"a", "z", "a0", "a_", "ab", "as_", "ass", "matches", "s", "wher", "ranges", "slide0", "x1y2", long20[:19], long20}
	otherNames = []string{" ", "A", "aB", "a b", " a", "a ", "a-b", "a.b", "a|b", "a*", "(a)", "\x00", "a\n", "`", "{", "0", "9", "_", "_a", "0a", "007", "as", "match", "where", "and", "return", "range", "slide", "\xff", "\u00e4", "a\u0661", long20 + "a", strings.Repeat("z", 100000)}
)

// wrongs are expressions that are not right; neither is one that has one of them as a part.
func wrongs() []api.Expr {
	l := []api.Expr{{}, {Label: "a"}, {Kids: labs("a b")}, {Label: "a", Kids: labs("a b")}, {Kind: api.ExprLabel}, {Kind: api.ExprLabel, Kids: labs("a")}, {Kind: api.ExprLabel, Kids: labs("a b")}, {Kind: api.ExprLabel, Label: "a", Kids: labs("a")}, {Kind: api.ExprLabel, Label: "a", Kids: labs("a b")}, {Kind: api.ExprLabel, Label: "a", Kids: []api.Expr{{}}}}
	for _, s := range otherNames {
		l = append(l, lab(s))
	}
	for _, kind := range rows {
		l = append(l, api.Expr{Kind: kind}, api.Expr{Kind: kind, Kids: []api.Expr{}}, api.Expr{Kind: kind, Kids: labs("a")}, api.Expr{Kind: kind, Label: "a"}, api.Expr{Kind: kind, Label: "a", Kids: labs("a b")}, api.Expr{Kind: kind, Label: " ", Kids: labs("a b")}, api.Expr{Kind: kind, Kids: []api.Expr{a, {}}}, api.Expr{Kind: kind, Kids: []api.Expr{{}, a}}, api.Expr{Kind: kind, Kids: []api.Expr{a, b, {}}})
	}
	for _, kind := range loops {
		l = append(l, api.Expr{Kind: kind}, api.Expr{Kind: kind, Kids: []api.Expr{}}, api.Expr{Kind: kind, Kids: labs("a b")}, api.Expr{Kind: kind, Kids: labs("a b c")}, api.Expr{Kind: kind, Label: "a"}, api.Expr{Kind: kind, Label: "a", Kids: labs("a")}, api.Expr{Kind: kind, Label: " ", Kids: labs("a")}, api.Expr{Kind: kind, Kids: []api.Expr{{}}})
	}
	for _, kind := range []api.ExprKind{-1, 0, 7, 8, 256, 257, 1 << 32, 1<<32 + 1, math.MinInt, math.MaxInt} {
		l = append(l, api.Expr{Kind: kind}, api.Expr{Kind: kind, Label: "a"}, api.Expr{Kind: kind, Kids: labs("a")}, api.Expr{Kind: kind, Kids: labs("a b")}, api.Expr{Kind: kind, Label: "a", Kids: labs("a b")})
	}
	return l
}

// rights are expressions that are right, no two the same.
func rights() []api.Expr {
	l := mapped(freeNames, lab)
	for _, row := range []func(...api.Expr) api.Expr{seq, alt} {
		l = append(l, row(a, a), row(a, b), row(b, a), row(a, b, c), row(a, a, a, a), row(row(a, b), c), row(a, row(b, c)), row(star(a), star(a)), row(star(a), b), row(a, opt(b)), row(opt(a), plus(b)), row(opt(a), opt(b), opt(c)), row(plus(row(a, b)), a))
		for _, n := range []int{4, 5, 22, 23} {
			l = append(l, row(times(n, d)...))
		}
	}
	for _, loop := range []func(api.Expr) api.Expr{star, plus, opt} {
		l = append(l, loop(a), loop(loop(a)), loop(loop(loop(a))), loop(seq(a, b)), loop(alt(a, b)), loop(seq(star(a), plus(b))), loop(seq(opt(a), opt(b))), loop(alt(a, star(b))), seq(loop(a), loop(b)), seq(a, loop(b), c), alt(seq(a, loop(b)), c))
	}
	l = append(l, star(plus(opt(a))), opt(plus(star(a))), plus(opt(a)), star(opt(a)), opt(star(a)), plus(star(a)), seq(alt(a, seq(b, c)), star(alt(opt(a), plus(b)))), nest(22, star, plus(a)), nest(23, opt, a))
	return l
}

// nest is an expression in one of a kind in one of that kind, and so on.
func nest(n int, around func(api.Expr) api.Expr, x api.Expr) api.Expr {
	for range n {
		x = around(x)
	}
	return x
}

// chance are numbers that look as if they came by chance, the same ones each time.
func chance(seed uint64) func(n int) int {
	return func(n int) int {
		seed = seed*6364136223846793005 + 1442695040888963407
		return int(seed >> 33 % uint64(n))
	}
}

// some is an expression that is right, of at most so many parts.
func some(next func(n int) int, parts int, labels []string) api.Expr {
	if parts < 2 || next(6) == 0 {
		return lab(labels[next(len(labels))])
	}
	if parts < 3 || next(2) == 0 {
		kind := loops[next(3)]
		return api.Expr{Kind: kind, Kids: []api.Expr{some(next, parts-1, labels)}}
	}
	x := api.Expr{Kind: rows[next(2)]}
	for left := parts - 1; left > 0 && (len(x.Kids) < 2 || next(3) > 0); {
		most := left
		if len(x.Kids) == 0 {
			most--
		}
		kid := some(next, 1+next(most), labels)
		x.Kids = append(x.Kids, kid)
		left -= size(kid)
	}
	return x
}

// many are such expressions.
func many(n, parts int, seed uint64) []api.Expr {
	next := chance(seed)
	return mapped(make([]int, n), func(int) api.Expr { return some(next, 1+next(parts), []string{"a", "b", "aa"}) })
}

// size is how many parts there are, counted in another way.
func size(x api.Expr) int { return strings.Count(fmt.Sprintf("%#v", x), "Kind:") }

// cloned is an expression that shares nothing with the one given.
func cloned(x api.Expr) api.Expr {
	x.Kids = slices.Clone(x.Kids)
	for i, kid := range x.Kids {
		x.Kids[i] = cloned(kid)
	}
	return x
}

// spoil changes all parts, and what lies behind their kids.
func spoil(x api.Expr) {
	for _, kid := range x.Kids {
		spoil(kid)
	}
	clear(x.Kids[:cap(x.Kids)])
}

// inside are expressions that are like x, but for one part each, in whose place is y.
func inside(x, y api.Expr) []api.Expr {
	l := []api.Expr{y}
	for i, kid := range x.Kids {
		for _, changed := range inside(kid, y) {
			other := cloned(x)
			other.Kids[i] = changed
			l = append(l, other)
		}
	}
	return l
}

// signs is an expression as one of the library's, in which each label has a comma behind it.
func signs(x api.Expr) string {
	kids := mapped(x.Kids, signs)
	switch x.Kind {
	case api.ExprLabel:
		return "(?:" + x.Label + ",)"
	case api.ExprSeq:
		return "(?:" + strings.Join(kids, "") + ")"
	case api.ExprAlt:
		return "(?:" + strings.Join(kids, "|") + ")"
	}
	return "(?:" + kids[0] + map[api.ExprKind]string{api.ExprStar: "*", api.ExprPlus: "+", api.ExprOpt: "?"}[x.Kind] + ")"
}

// asker asks the library whether an expression takes a word.
func asker(x api.Expr) func(word []string) bool {
	fits := regexp.MustCompile("^" + signs(x) + "$").MatchString
	return func(word []string) bool {
		return fits(strings.Join(mapped(word, func(s string) string { return s + "," }), ""))
	}
}

// words are all words of at most so many labels.
func words(most int, labels ...string) [][]string {
	all := [][]string{{}}
	for from, n := 0, 0; n < most; n++ {
		to := len(all)
		for _, word := range all[from:to] {
			for _, label := range labels {
				all = append(all, append(slices.Clip(word), label))
			}
		}
		from = to
	}
	return all
}

// right asks whether an expression is; one that is not takes nothing, and has no labels.
func right(t *testing.T, x api.Expr, want bool) {
	t.Helper()
	if Right(x) != want {
		t.Errorf("%.300q: not %t", fmt.Sprint(x), want)
	}
	if want {
		return
	}
	if Empty(x) || Takes(x) || Takes(x, []string{}...) || Takes(x, "a") || Takes(x, "a", "b") || Takes(x, "") || Takes(x, x.Label) || len(Labels(x)) != 0 {
		t.Errorf("%.300q: takes something, or has labels", fmt.Sprint(x))
	}
}

// P7.1
func TestRight(t *testing.T) {
	for _, x := range rights() {
		right(t, x, true)
	}
	for _, x := range many(5000, 24, 1) {
		right(t, x, true)
	}
}

// P7.1, P7.2
func TestWhatIsNotRight(t *testing.T) {
	for _, x := range wrongs() {
		right(t, x, false)
	}
}

// P7.1: how many kids each kind has.
func TestRightByKids(t *testing.T) {
	for n := range 24 {
		kids := times(n, a)
		right(t, api.Expr{Kind: api.ExprLabel, Label: "a", Kids: kids}, n == 0)
		for _, kind := range rows {
			right(t, api.Expr{Kind: kind, Kids: kids}, n >= 2)
			right(t, api.Expr{Kind: kind, Kids: kids, Label: "a"}, false)
		}
		for _, kind := range loops {
			right(t, api.Expr{Kind: kind, Kids: kids}, n == 1)
			right(t, api.Expr{Kind: kind, Kids: kids, Label: "a"}, false)
		}
		for _, kind := range []api.ExprKind{0, 7, -1, -2} {
			right(t, api.Expr{Kind: kind, Kids: kids}, false)
			right(t, api.Expr{Kind: kind, Kids: kids, Label: "a"}, false)
		}
	}
}

// P7.1, R6: lists of kids that are nil, and ones without entries.
func TestRightOfListsWithoutEntries(t *testing.T) {
	for _, kids := range [][]api.Expr{nil, {}, labs("a b")[:0]} {
		x := api.Expr{Kind: api.ExprLabel, Label: "a", Kids: kids}
		for _, y := range []api.Expr{x, star(x), seq(x, x, a), opt(x)} {
			right(t, y, true)
			if !slices.Equal(Labels(y), []string{"a"}) || !Takes(y, slices.Repeat([]string{"a"}, max(len(y.Kids), 1))...) {
				t.Error(y)
			}
		}
		for _, kind := range append(kinds[1:], 0, 7) {
			right(t, api.Expr{Kind: kind, Kids: kids}, false)
			right(t, seq(a, api.Expr{Kind: kind, Kids: kids}), false)
		}
	}
}

// P7.1: names, alone and inside.
func TestRightOfNames(t *testing.T) {
	for _, s := range freeNames {
		for _, x := range []api.Expr{lab(s), star(lab(s)), seq(a, lab(s)), alt(lab(s), a), seq(a, alt(b, opt(lab(s))))} {
			right(t, x, true)
		}
	}
	for _, s := range append([]string{""}, otherNames...) {
		for _, x := range []api.Expr{lab(s), star(lab(s)), seq(a, lab(s)), alt(lab(s), a), seq(a, alt(b, opt(lab(s))))} {
			right(t, x, false)
		}
	}
}

// P7.1: something that is not right, in the place of each part.
func TestRightWithSomethingInside(t *testing.T) {
	for _, x := range rights() {
		if size(x) > 12 {
			continue
		}
		for _, y := range wrongs() {
			for _, changed := range inside(x, y) {
				right(t, changed, false)
			}
		}
		for _, changed := range inside(x, lab("other")) {
			right(t, changed, true)
		}
	}
	for n := range 24 {
		for _, around := range []func(api.Expr) api.Expr{star, plus, opt} {
			right(t, nest(n, around, a), true)
			right(t, nest(n, around, lab("as")), false)
			right(t, nest(n, around, api.Expr{}), false)
		}
	}
}

// P7.1: just 24 parts, and 25.
func TestRightByParts(t *testing.T) {
	behind := func(x api.Expr) api.Expr { return seq(a, x) }
	ahead := func(x api.Expr) api.Expr { return alt(x, a) }
	for _, x := range []api.Expr{seq(times(23, a)...), alt(times(23, a)...), nest(23, star, a), nest(23, plus, a), nest(23, opt, a), opt(nest(11, behind, a)), star(nest(11, ahead, a)), alt(star(seq(times(9, a)...)), alt(times(10, a)...), b), seq(seq(times(5, a)...), alt(times(5, a)...), seq(times(5, a)...), times(5, a)[0], plus(star(opt(a))))} {
		if size(x) != 24 || Size(x) != 24 {
			t.Fatal(size(x), Size(x))
		}
		right(t, x, true)
		for _, y := range []api.Expr{star(x), plus(x), opt(x), seq(x, a), seq(a, x), alt(x, x)} {
			right(t, y, false)
		}
		for _, y := range inside(x, star(a)) {
			right(t, y, size(y) <= 24)
		}
	}
	for n := 1; n <= 100; n++ {
		right(t, seq(times(n, a)...), 2 <= n && n <= 23)
		right(t, alt(times(n, a)...), 2 <= n && n <= 23)
		right(t, nest(n, star, a), n <= 23)
		right(t, nest(n, behind, a), n <= 11)
		right(t, nest(n, ahead, a), n <= 11)
		right(t, star(nest(n, behind, star(a))), n <= 10)
	}
	right(t, seq(times(100000, a)...), false)
}

// P7.1: of whatever is given.
func TestSize(t *testing.T) {
	for _, c := range []struct {
		x    api.Expr
		want int
	}{
		{api.Expr{}, 1}, {a, 1}, {lab(""), 1}, {lab("no name"), 1}, {star(a), 2}, {star(api.Expr{}), 2}, {seq(), 1}, {seq(a), 2}, {seq(a, b), 3}, {seq(a, b, c), 4}, {alt(a, a), 3}, {opt(plus(star(a))), 4}, {seq(a, seq(b, seq(c, d))), 7}, {seq(seq(seq(a, b), c), d), 7}, {alt(seq(a, star(b)), opt(c)), 7},
		{api.Expr{Kids: labs("a b c")}, 4}, {api.Expr{Kind: api.ExprLabel, Label: "a", Kids: labs("a b c")}, 4}, {api.Expr{Kind: -5, Kids: []api.Expr{{}, {Kind: 9, Kids: labs("a b")}, {}}}, 6}, {api.Expr{Kind: api.ExprStar, Kids: labs("a b c")}, 4}, {api.Expr{Kind: api.ExprStar, Kids: []api.Expr{}}, 1},
		{seq(times(23, a)...), 24}, {seq(times(24, a)...), 25}, {alt(times(1000, star(a))...), 2001}, {nest(23, star, a), 24}, {nest(24, star, a), 25}, {nest(1000, star, a), 1001}, {nest(1000, func(x api.Expr) api.Expr { return seq(a, x, b) }, c), 3001},
	} {
		if got := Size(c.x); got != c.want {
			t.Errorf("%.300q %d, not %d", fmt.Sprint(c.x), got, c.want)
		}
	}
	for _, x := range slices.Concat(rights(), wrongs(), many(2000, 60, 2)) {
		if got := Size(x); got != size(x) {
			t.Errorf("%.300q %d", fmt.Sprint(x), got)
		}
	}
}

// same asks whether two are, whichever is first.
func same(t *testing.T, x, y api.Expr, want bool) {
	t.Helper()
	if Same(x, y) != want || Same(y, x) != want {
		t.Errorf("%.300q %.300q: not %t", fmt.Sprint(x), fmt.Sprint(y), want)
	}
}

// P7.1
func TestSame(t *testing.T) {
	var l []api.Expr
	came := map[string]bool{}
	for _, x := range slices.Concat(rights(), wrongs(), many(300, 24, 3)) {
		// What is shown so is the same, but for lists without entries.
		if shown := fmt.Sprint(x); !came[shown] {
			came[shown] = true
			l = append(l, x)
		}
	}
	for i, x := range l {
		for j, y := range l {
			same(t, x, cloned(y), i == j)
		}
	}
}

// P7.1: ones that differ in one thing, in the place of each part.
func TestSameButForOneThing(t *testing.T) {
	for _, x := range append(rights(), wrongs()...) {
		if size(x) > 12 {
			continue
		}
		for _, part := range parts(x) {
			for _, change := range []func(p *api.Expr){
				func(p *api.Expr) { p.Kind++ }, func(p *api.Expr) { p.Kind-- }, func(p *api.Expr) { p.Kind += 1 << 32 }, func(p *api.Expr) { p.Label += "x" }, func(p *api.Expr) { p.Label = "other" }, func(p *api.Expr) { p.Label += "\x00" },
				func(p *api.Expr) { p.Kids = append(p.Kids, a) }, func(p *api.Expr) { p.Kids = append(p.Kids, api.Expr{}) }, func(p *api.Expr) { p.Kids = append(labs("other"), p.Kids...) }, func(p *api.Expr) { p.Kids = append([]api.Expr{{}}, p.Kids...) },
			} {
				y := cloned(x)
				change(at(&y, part))
				same(t, x, y, false)
			}
			y := cloned(x)
			if p := at(&y, part); len(p.Kids) > 0 {
				p.Kids = p.Kids[:len(p.Kids)-1]
				same(t, x, y, false)
			}
		}
	}
	// The same parts in another order, or put together otherwise.
	for _, two := range [][2]api.Expr{{seq(a, b), seq(b, a)}, {alt(a, b), alt(b, a)}, {seq(a, b, c), seq(a, c, b)}, {seq(a, seq(b, c)), seq(seq(a, b), c)}, {seq(a, b, c), seq(a, seq(b, c))}, {star(plus(a)), plus(star(a))}, {alt(star(a), b), alt(a, star(b))}, {alt(star(a), b), alt(b, star(a))}, {seq(a, b), alt(a, b)}, {star(a), plus(a)}, {star(a), opt(a)}, {plus(a), opt(a)}, {star(a), star(b)}, {star(a), a}, {seq(a, b), seq(a, b, c)}, {seq(a, b), seq(a, b, b)}, {seq(a, a), seq(a, a, a)}, {seq(lab("ab"), c), seq(a, lab("bc"))}, {seq(star(seq(a, b)), c), seq(star(seq(a, b, c)))}, {seq(star(seq(a, b)), c), seq(star(a), b, c)}} {
		same(t, two[0], two[1], false)
		same(t, star(two[0]), star(two[1]), false)
		same(t, seq(a, two[0]), seq(a, two[1]), false)
		same(t, alt(two[0], a), alt(two[1], a), false)
		same(t, seq(two[0], two[1]), seq(two[1], two[0]), false)
		same(t, seq(two[0], two[1]), cloned(seq(two[0], two[1])), true)
	}
}

// P7.1, R6
func TestSameOfListsWithoutEntries(t *testing.T) {
	with := func(kind api.ExprKind, label string, kids []api.Expr) api.Expr {
		return api.Expr{Kind: kind, Label: label, Kids: kids}
	}
	for _, kind := range append(kinds, 0, 7) {
		for _, label := range []string{"", "a"} {
			x, y, z := with(kind, label, nil), with(kind, label, []api.Expr{}), with(kind, label, labs("a b")[:0])
			for _, around := range []func(api.Expr) api.Expr{func(x api.Expr) api.Expr { return x }, star, func(x api.Expr) api.Expr { return seq(x, a) }, func(x api.Expr) api.Expr { return alt(a, opt(x)) }} {
				same(t, around(x), around(y), true)
				same(t, around(x), around(z), true)
				same(t, around(y), around(z), true)
				same(t, around(x), around(with(kind, label, labs("a"))), false)
				same(t, around(y), around(with(kind, label, []api.Expr{{}})), false)
			}
		}
	}
}

// parts are the places of all parts: which kid, and which kid of that, and so on.
func parts(x api.Expr) [][]int {
	l := [][]int{{}}
	for i, kid := range x.Kids {
		for _, place := range parts(kid) {
			l = append(l, append([]int{i}, place...))
		}
	}
	return l
}

// at is the part at a place.
func at(x *api.Expr, place []int) *api.Expr {
	for _, i := range place {
		x = &x.Kids[i]
	}
	return x
}

// P7.2
func TestEmpty(t *testing.T) {
	for _, c := range []struct {
		x    api.Expr
		want bool
	}{
		{a, false}, {star(a), true}, {opt(a), true}, {plus(a), false}, {plus(star(a)), true}, {plus(opt(a)), true}, {plus(plus(a)), false}, {star(star(a)), true}, {star(plus(a)), true}, {opt(plus(a)), true}, {opt(opt(a)), true},
		{seq(a, b), false}, {seq(star(a), b), false}, {seq(a, star(b)), false}, {seq(star(a), opt(b)), true}, {seq(star(a), opt(b), c), false}, {seq(star(a), b, opt(c)), false}, {seq(a, star(b), opt(c)), false}, {seq(star(a), star(b), opt(c)), true}, {seq(plus(a), star(b)), false}, {plus(seq(star(a), opt(b))), true}, {plus(seq(star(a), b)), false}, {star(seq(a, b)), true}, {opt(seq(a, b)), true},
		{alt(a, b), false}, {alt(star(a), b), true}, {alt(a, star(b)), true}, {alt(a, b, opt(c)), true}, {alt(a, opt(b), c), true}, {alt(a, plus(b), c), false}, {alt(seq(a, star(b)), c), false}, {alt(seq(star(a), star(b)), c), true}, {seq(alt(a, star(b)), alt(opt(c), d)), true}, {seq(alt(a, star(b)), alt(c, d)), false}, {seq(alt(a, b), alt(opt(c), d)), false},
		{nest(23, plus, a), false}, {nest(22, plus, opt(a)), true}, {nest(23, star, a), true}, {seq(times(11, opt(a))...), true}, {seq(append(times(11, opt(a)), a)...), false}, {seq(append(labs("a"), times(11, opt(a))...)...), false}, {alt(times(23, a)...), false},
	} {
		if Empty(c.x) != c.want || Takes(c.x) != c.want || Takes(c.x, []string{}...) != c.want {
			t.Errorf("%+v: not %t", c.x, c.want)
		}
	}
}

// takes asks for each of some words, told with spaces between its labels, whether it is taken.
func takes(t *testing.T, x api.Expr, want bool, words ...string) {
	t.Helper()
	for _, word := range words {
		if Takes(x, strings.Fields(word)...) != want {
			t.Errorf("%+v, %q: not %t", x, word, want)
		}
	}
}

// The example.
func TestTheExample(t *testing.T) {
	x := star(seq(a, b))
	takes(t, x, true, "", "a b", "a b a b")
	takes(t, x, false, "a", "a b a")
	if !Right(x) || Size(x) != 4 || !Empty(x) || !slices.Equal(Labels(x), []string{"a", "b"}) {
		t.Error(x)
	}
}

// P7.2
func TestTakes(t *testing.T) {
	for _, c := range []struct {
		x       api.Expr
		yes, no []string
	}{
		{a, []string{"a"}, []string{"", "b", "a a", "a b", "b a", "aa", "A"}},
		{lab("ab"), []string{"ab"}, []string{"", "a", "b", "a b", "abc", "ab ab"}},
		{seq(a, b), []string{"a b"}, []string{"", "a", "b", "b a", "a b c", "a b b", "a a b", "c a b", "ab", "a b a b"}},
		{seq(a, a), []string{"a a"}, []string{"", "a", "a a a", "a b"}},
		{seq(a, b, c), []string{"a b c"}, []string{"a b", "b c", "a c", "a b c c", "c b a"}},
		{alt(a, b), []string{"a", "b"}, []string{"", "a b", "b a", "a a", "c"}},
		{alt(a, b, c), []string{"a", "b", "c"}, []string{"", "a b", "a b c", "d"}},
		{alt(a, seq(a, b)), []string{"a", "a b"}, []string{"", "b", "a a", "a a b", "a b b"}},
		{alt(seq(a, b), seq(a, c)), []string{"a b", "a c"}, []string{"a", "a b c", "a d", "b c"}},
		{star(a), []string{"", "a", "a a", "a a a a a"}, []string{"b", "a b", "b a", "a a b", "a b a"}},
		{plus(a), []string{"a", "a a", "a a a a a"}, []string{"", "b", "a b", "a a b"}},
		{opt(a), []string{"", "a"}, []string{"a a", "b", "a b"}},
		{star(opt(a)), []string{"", "a", "a a a"}, []string{"b", "a b"}},
		{plus(opt(a)), []string{"", "a", "a a a"}, []string{"b", "a b"}},
		{opt(plus(a)), []string{"", "a", "a a a"}, []string{"b", "a b"}},
		{opt(opt(a)), []string{"", "a"}, []string{"a a", "b"}},
		{plus(star(a)), []string{"", "a", "a a a"}, []string{"b", "a b"}},
		{star(plus(a)), []string{"", "a", "a a a"}, []string{"b", "a b"}},
		{star(seq(a, b)), []string{"", "a b", "a b a b", "a b a b a b"}, []string{"a", "b", "a b a", "b a", "a b b", "a a b"}},
		{plus(seq(a, b)), []string{"a b", "a b a b", "a b a b a b"}, []string{"", "a", "a b a", "b a"}},
		{opt(seq(a, b)), []string{"", "a b"}, []string{"a", "b", "a b a b"}},
		{plus(alt(a, b)), []string{"a", "b", "a b", "b a", "a a b b a"}, []string{"", "c", "a c", "c a", "a c b"}},
		{star(alt(a, seq(b, c))), []string{"", "a", "b c", "a b c", "b c a", "b c b c a a"}, []string{"b", "c", "a b", "b a", "b c c", "c b"}},
		{seq(star(a), b), []string{"b", "a b", "a a a b"}, []string{"", "a", "b a", "a b b", "a b a b"}},
		{seq(a, star(b)), []string{"a", "a b", "a b b b"}, []string{"", "b", "a a", "a b a", "b a"}},
		{seq(star(a), star(b)), []string{"", "a", "b", "a b", "a a b b"}, []string{"b a", "a b a", "c"}},
		{seq(star(a), a), []string{"a", "a a", "a a a"}, []string{"", "b", "a b"}},
		{seq(star(a), a, a), []string{"a a", "a a a", "a a a a"}, []string{"", "a", "a b"}},
		{seq(opt(a), a, opt(a)), []string{"a", "a a", "a a a"}, []string{"", "a a a a", "b"}},
		{seq(opt(a), opt(b), opt(c)), []string{"", "a", "b", "c", "a b", "a c", "b c", "a b c"}, []string{"b a", "c a", "c b", "a a", "a b c a"}},
		{seq(a, opt(b), c), []string{"a b c", "a c"}, []string{"", "a", "a b", "b c", "a b b c", "c"}},
		{seq(plus(a), opt(b), plus(a)), []string{"a a", "a b a", "a a b a a", "a a a"}, []string{"a", "a b", "b a", "a b b a"}},
		{star(seq(star(a), b)), []string{"", "b", "a b", "a a b b a b"}, []string{"a", "b a", "a b a"}},
		{star(seq(a, star(b))), []string{"", "a", "a b", "a a b b a", "a b a b"}, []string{"b", "b a"}},
		{plus(seq(a, opt(b))), []string{"a", "a b", "a a", "a b a a b"}, []string{"", "b", "a b b", "b a"}},
		{star(seq(opt(a), opt(b))), []string{"", "a", "b", "b a", "b b a a"}, []string{"c", "a c"}},
		{alt(star(a), star(b)), []string{"", "a a", "b b"}, []string{"a b", "b a"}},
		{alt(a, a), []string{"a"}, []string{"", "a a", "b"}},
		{seq(alt(a, b), alt(a, c)), []string{"a a", "a c", "b a", "b c"}, []string{"a", "a b", "c a", "b b"}},
		{seq(seq(a, b), seq(c, d)), []string{"a b c d"}, []string{"a b", "c d", "c d a b"}},
		{star(star(seq(a, b))), []string{"", "a b", "a b a b"}, []string{"a", "a b a"}},
		{seq(star(alt(a, b)), a, alt(a, b)), []string{"a a", "a b", "b a b", "a b a a"}, []string{"a", "b a", "b b", "a b b"}},
		{nest(23, plus, a), []string{"a", "a a a"}, []string{"", "b", "a b"}},
		{nest(23, opt, a), []string{"", "a"}, []string{"a a", "b"}},
		{nest(22, star, plus(a)), []string{"", "a", "a a a"}, []string{"b", "a b"}},
		{seq(times(23, a)...), []string{strings.Repeat("a ", 23)}, []string{"", strings.Repeat("a ", 22), strings.Repeat("a ", 24)}},
		{seq(times(11, opt(a))...), []string{"", "a", strings.Repeat("a ", 10), strings.Repeat("a ", 11)}, []string{strings.Repeat("a ", 12), "b"}},
	} {
		takes(t, c.x, true, c.yes...)
		takes(t, c.x, false, c.no...)
	}
}

// P7.2: words of what is no label.
func TestTakesOfWhatIsNoLabel(t *testing.T) {
	for _, x := range []api.Expr{a, star(a), seq(a, a), plus(alt(a, b))} {
		for _, s := range append([]string{""}, otherNames...) {
			for _, word := range [][]string{{s}, {"a", s}, {s, "a"}, {"a", s, "a"}, {s, s}} {
				if Takes(x, word...) {
					t.Errorf("%+v %.100q", x, word)
				}
			}
		}
	}
	// Labels are not the signs that they are made of.
	takes(t, star(alt(a, b)), false, "ab", "aa", "a ab")
	takes(t, star(lab("ab")), false, "a", "a b", "abab")
	takes(t, seq(lab("ab"), c), false, "a bc", "abc", "a b c")
	if Takes(seq(a, b), "a b") || Takes(seq(a, b), "a,b") || Takes(seq(a, b), "a.b") || Takes(star(a), "") || Takes(star(a), "a", "") || !Takes(lab(long20), long20) || Takes(lab(long20), long20[:19]) {
		t.Error("signs")
	}
}

// P7.2: as the library says, of all short words.
func TestTakesOfManyWords(t *testing.T) {
	all := words(5, "a", "b", "aa")
	found := map[bool]int{}
	for _, x := range append(rights()[len(freeNames):], many(700, 24, 5)...) {
		asks := asker(x)
		if Empty(x) != asks(nil) {
			t.Fatalf("%+v", x)
		}
		for _, word := range all {
			want := asks(word)
			found[want]++
			if Takes(x, word...) != want {
				t.Fatalf("%+v %q: not %t", x, word, want)
			}
		}
	}
	if found[true] < 10000 || found[false] < 10000 {
		t.Error(found)
	}
}

// P7.2: as the library says, of long words of few labels.
func TestTakesOfLongWords(t *testing.T) {
	next := chance(7)
	found := map[bool]int{}
	for _, x := range many(3000, 24, 11) {
		asks := asker(x)
		for range 10 {
			word := mapped(make([]int, next(40)), func(int) string { return []string{"a", "a", "a", "b", "aa"}[next(5)] })
			want := asks(word)
			found[want]++
			if Takes(x, word...) != want {
				t.Fatalf("%+v %q: not %t", x, word, want)
			}
		}
	}
	if found[true] < 1000 || found[false] < 1000 {
		t.Error(found)
	}
}

// P7.2: words so long that what walks them again and again would not come to an end.
func TestTakesOfVeryLongWords(t *testing.T) {
	const n = 300000
	word := slices.Repeat([]string{"a"}, n)
	behind := append(slices.Clip(word), "b")
	for i, c := range []struct {
		x          api.Expr
		yes, later bool
	}{
		{star(a), true, false}, {nest(23, star, a), true, false}, {nest(23, plus, a), true, false}, {star(alt(seq(a, star(a), b), a)), true, true}, {star(seq(opt(a), opt(a), opt(a))), true, false}, {star(seq(a, a)), true, false}, {star(seq(a, a, a, a, a, a, a)), n%7 == 0, false},
		{seq(star(a), star(a), star(a), star(a), star(a), star(a), star(a), star(a), b), false, true}, {star(star(seq(star(a), star(a), opt(b)))), true, true}, {seq(plus(plus(plus(a))), b), false, true}, {seq(star(alt(a, seq(a, a))), star(seq(a, star(a))), b), false, true}, {a, false, false}, {seq(times(23, a)...), false, false}, {plus(alt(times(20, a)...)), true, false},
	} {
		if Takes(c.x, word...) != c.yes || Takes(c.x, behind...) != c.later {
			t.Error(i)
		}
	}
}

// P7.2
func TestLabels(t *testing.T) {
	for _, c := range []struct {
		x    api.Expr
		want string
	}{
		{a, "a"}, {lab(long20), long20}, {star(b), "b"}, {seq(a, b), "a b"}, {seq(b, a), "a b"}, {alt(c, b, a), "a b c"}, {seq(a, a), "a"}, {seq(b, a, b, a), "a b"}, {alt(seq(d, star(a)), opt(alt(c, plus(a)))), "a c d"}, {seq(times(23, b)...), "b"}, {nest(23, opt, d), "d"},
		{alt(labs("b a_ aa a0 a ab")...), "a a0 a_ aa ab b"}, {seq(labs("z y x w v u t s r q p o n m l k j i h g f e d")...), "d e f g h i j k l m n o p q r s t u v w x y z"}, {seq(star(c), alt(b, seq(a, c)), opt(b)), "a b c"},
	} {
		if got := Labels(c.x); !slices.Equal(got, strings.Fields(c.want)) {
			t.Errorf("%+v %q", c.x, got)
		}
	}
	for _, x := range append(rights(), many(2000, 24, 13)...) {
		var want []string
		for _, s := range regexp.MustCompile(`Label:"([a-z0-9_]+)"`).FindAllStringSubmatch(fmt.Sprintf("%#v", x), -1) {
			want = append(want, s[1])
		}
		slices.Sort(want)
		if got := Labels(x); !slices.Equal(got, slices.Compact(want)) {
			t.Errorf("%+v %q", x, got)
		}
	}
}

// P7.3: no word with a label that does not stand in it; the empty one just if Empty.
func TestNoOtherLabelIsTaken(t *testing.T) {
	all := words(4, "a", "b", "aa", "zz")
	for _, x := range many(300, 24, 17) {
		known := Labels(x)
		for _, word := range all {
			strange := slices.ContainsFunc(word, func(s string) bool { return !slices.Contains(known, s) })
			if Takes(x, word...) && (strange || len(word) == 0 && !Empty(x)) || len(word) == 0 && Empty(x) && !Takes(x, word...) {
				t.Fatalf("%+v %q", x, word)
			}
		}
	}
}

// P7.3: what follows of expressions that are made of others.
func TestWhatIsMadeOfOthers(t *testing.T) {
	all := words(4, "a", "b", "aa")
	next := chance(19)
	for range 200 {
		x, y := some(next, 1+next(9), []string{"a", "b", "aa"}), some(next, 1+next(9), []string{"a", "b", "aa"})
		for _, word := range all {
			inX, inY, inStar := Takes(x, word...), Takes(y, word...), Takes(star(x), word...)
			behind, more, one := false, false, false
			for i := range len(word) + 1 {
				first, then := word[:i], word[i:]
				behind = behind || Takes(x, first...) && Takes(y, then...)
				more = more || Takes(star(x), first...) && Takes(x, then...)
				one = one || Takes(x, first...) && Takes(star(x), then...)
			}
			empty := len(word) == 0
			if Takes(alt(x, y), word...) != (inX || inY) || Takes(alt(y, x), word...) != (inX || inY) || Takes(seq(x, y), word...) != behind || Takes(opt(x), word...) != (inX || empty) || inStar != (empty || more) || inStar != (empty || one) || Takes(plus(x), word...) != more || Takes(plus(x), word...) != one {
				t.Fatalf("%+v %+v %q", x, y, word)
			}
		}
	}
}

// R3, R4: what is given is left as it is, and what lies behind it, too; and it is answered alike again.
func TestNothingIsChanged(t *testing.T) {
	for _, x := range append(rights(), wrongs()...) {
		given := cloned(x)
		if len(given.Kids) > 0 {
			given.Kids = append(given.Kids, lab("room"))[:len(given.Kids)]
		}
		word := []string{"a", "b", "room", "d"}
		first := fmt.Sprint(Right(given), Size(given), Empty(given), Labels(given), Takes(given, word[:2]...), Same(given, given))
		again := fmt.Sprint(Right(given), Size(given), Empty(given), Labels(given), Takes(given, word[:2]...), Same(given, x))
		if first != again || fmt.Sprint(given) != fmt.Sprint(x) || !slices.Equal(word, []string{"a", "b", "room", "d"}) {
			t.Errorf("%+v %+v %s %s %q", x, given, first, again, word)
		}
		if n := len(given.Kids); n > 0 && given.Kids[:n+1][n].Label != "room" {
			t.Errorf("%+v", x)
		}
	}
}

// R3: what a caller does later with an expression, a word or labels that it gave, or got, is seen by none but itself.
func TestWhatIsToldIsOnItsOwn(t *testing.T) {
	want := []string{"a", "b", "c"}
	x := seq(c, star(alt(b, a)), opt(b))
	got, again := Labels(x), Labels(x)
	word := []string{"c", "a", "b"}
	if !Takes(x, word...) {
		t.Error(word)
	}
	for i := range got {
		got[i] = "changed"
	}
	got = append(got, "more")
	if !slices.Equal(again, want) || !slices.Equal(Labels(x), want) || !Takes(x, word...) || len(got) != 4 {
		t.Error(again, Labels(x))
	}
	clear(word)
	if Takes(x, word...) || !Takes(x, "c", "a", "b") {
		t.Error(word)
	}
	spoil(x)
	if !slices.Equal(again, want) || Right(x) || Takes(x, "c", "a", "b") || len(Labels(x)) != 0 {
		t.Error(again, x)
	}
	// Of an expression that was changed what it is now counts.
	x = seq(a, b)
	if !Takes(x, "a", "b") {
		t.Error(x)
	}
	x.Kids[1] = star(c)
	if Takes(x, "a", "b") || !Takes(x, "a", "c", "c") || !slices.Equal(Labels(x), []string{"a", "c"}) || Size(x) != 4 {
		t.Error(x)
	}
}

// R1: expressions so deep that calls within calls would be at the end of their stack.
func TestDeepExpressions(t *testing.T) {
	const most = 8000000
	x := nest(most, star, a)
	if got := Size(x); got != most+1 || !Same(x, x) || Same(x, star(x)) {
		t.Error(got)
	}
	right(t, x, false)
	const n = 300000
	for _, around := range []func(api.Expr) api.Expr{star, func(x api.Expr) api.Expr { return seq(x, a) }, func(x api.Expr) api.Expr { return alt(a, x) }} {
		x, y, other := nest(n, around, a), nest(n, around, a), nest(n, around, b)
		if want := (Size(around(a))-1)*n + 1; Size(x) != want || !Same(x, y) || Same(x, other) || Same(other, x) || Same(x, around(y)) {
			t.Error(Size(x), want)
		}
		right(t, x, false)
	}
}

// R1: expressions of many kids.
func TestWideExpressions(t *testing.T) {
	const n = 1000000
	wide, last := times(n, a), append(times(n-1, a), b)
	if x := seq(wide...); Size(x) != n+1 || !Same(x, seq(times(n, a)...)) || Same(x, seq(last...)) || Same(x, seq(wide[1:]...)) {
		t.Error(Size(x))
	}
	right(t, seq(wide...), false)
	right(t, star(seq(wide...)), false)
}

// R1: what stands in itself has no end, and is not right.
func TestWhatStandsInItself(t *testing.T) {
	for n := 1; n <= 3; n++ {
		for _, kind := range append(kinds, 0, 7) {
			kids := times(n, a)
			kids[0] = api.Expr{Kind: kind, Kids: kids}
			right(t, kids[0], false)
			right(t, star(kids[0]), false)
			kids[0], kids[n-1] = a, api.Expr{Kind: kind, Kids: kids}
			right(t, kids[n-1], false)
		}
	}
}
