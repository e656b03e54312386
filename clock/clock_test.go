package clock

import (
	"iter"
	"math"
	"slices"
	"testing"

	"kinescope/api"
)

// odd are numbers that are no times, watermarks, ranges or slides, whichever is asked for.
var odd = []int{math.MinInt, math.MinInt + 1, -api.MaxTime - 1, -api.MaxTime, -2, api.MaxTime + 1, math.MaxInt - 1, math.MaxInt}

// noSpans are numbers that are no ranges, and no slides.
var noSpans = append([]int{-1, 0, api.MaxWindow + 1, api.MaxTime}, odd...)

// listed are the closes by the words that say what they are: the multiples from 1 by the slide on, above one watermark, at most another one.
func listed(from, to, slide int) []int {
	var l []int
	for c := slide; c <= to; c += slide {
		if c > from {
			l = append(l, c)
		}
	}
	return l
}

// some are the first ones of those that are gone through, at most n.
func some(seq iter.Seq[int], n int) []int {
	var l []int
	for c := range seq {
		if len(l) == n {
			break
		}
		l = append(l, c)
	}
	return l
}

// P1.1
func TestIsAndMark(t *testing.T) {
	for _, c := range []struct {
		n        int
		is, mark bool
	}{
		{-1, false, true}, {0, true, true}, {1, true, true}, {api.MaxWindow + 1, true, true},
		{api.MaxTime - 1, true, true}, {api.MaxTime, true, true},
	} {
		if Is(c.n) != c.is || Mark(c.n) != c.mark {
			t.Error(c.n, Is(c.n), Mark(c.n))
		}
	}
	for _, n := range odd {
		if Is(n) || Mark(n) {
			t.Error(n, Is(n), Mark(n))
		}
	}
}

// P1.1
func TestAdd(t *testing.T) {
	const top = api.MaxTime
	for _, c := range []struct {
		a, b, want int
		e          api.Errno
	}{
		{2, 3, 5, api.OK}, {0, 0, 0, api.OK}, {3, -4, -1, api.OK}, {0, -1, -1, api.OK}, {-1, 0, -1, api.OK},
		{top, 0, top, api.OK}, {0, top, top, api.OK}, {top, -top, 0, api.OK}, {-top, top, 0, api.OK}, {top, -1, top - 1, api.OK},
		{-top, top - 1, -1, api.OK}, {top / 2, top / 2, top, api.OK},
		{3, -5, 0, api.ErrTime}, {-1, -1, 0, api.ErrTime}, {top, 1, 0, api.ErrTime}, {1, top, 0, api.ErrTime},
		{top, top, 0, api.ErrTime}, {-top, -top, 0, api.ErrTime}, {-top, top - 2, 0, api.ErrTime},
		// The sum would be a watermark, but one of the two is too far off.
		{top + 1, -1, 0, api.ErrTime}, {-1, top + 1, 0, api.ErrTime}, {top + 1, -top, 0, api.ErrTime},
		{-top - 1, top, 0, api.ErrTime}, {top, -top - 1, 0, api.ErrTime},
		{math.MaxInt, -math.MaxInt, 0, api.ErrTime}, {math.MinInt, math.MinInt, 0, api.ErrTime}, {math.MaxInt, math.MinInt, 0, api.ErrTime},
		{math.MaxInt, math.MaxInt, 0, api.ErrTime}, {math.MinInt, math.MaxInt, 0, api.ErrTime},
	} {
		if n, e := Add(c.a, c.b); n != c.want || e != c.e {
			t.Error(c.a, c.b, n, e)
		}
	}
}

// P1.2
func TestNext(t *testing.T) {
	const top, wide = api.MaxTime, api.MaxWindow
	for _, c := range []struct{ w, slide, want int }{
		{3, 5, 5}, {4, 5, 5}, {5, 5, 10}, {6, 5, 10},
		{-1, 1, 1}, {-1, 5, 5}, {0, 1, 1}, {0, 5, 5}, // 0 is no close
		{-1, wide, wide}, {wide - 1, wide, wide}, {wide, wide, 2 * wide}, {wide, wide - 1, 2*wide - 2},
		{top - 1, 1, top}, {top - 2, 1, top - 1}, {top - 1, wide, top}, {top - wide, wide, top}, {top - wide - 1, wide, top - wide},
		{top - 3, 7, top - 2}, // 2^40 is 2 above a multiple of 7
	} {
		if n, e := Next(c.w, c.slide); n != c.want || e != api.OK {
			t.Error(c.w, c.slide, n, e)
		}
	}
	for _, c := range [][2]int{{top, 1}, {top, 7}, {top, wide}, {top - 1, 7}, {top - 2, 7}, {top - 1, wide - 1}} {
		if n, e := Next(c[0], c[1]); n != 0 || e != api.ErrTime {
			t.Error(c, n, e)
		}
	}
}

// P1.2
func TestNextOfWhatMayNotBe(t *testing.T) {
	for _, w := range odd {
		if n, e := Next(w, 5); n != 0 || e != api.ErrArg {
			t.Error(w, n, e)
		}
	}
	for _, slide := range noSpans {
		for _, w := range []int{-1, 0, 7, api.MaxTime} { // above MaxTime no close is left, but ErrArg is told ahead of that
			if n, e := Next(w, slide); n != 0 || e != api.ErrArg {
				t.Error(w, slide, n, e)
			}
		}
	}
}

// P1.2
func TestCount(t *testing.T) {
	const top, wide = api.MaxTime, api.MaxWindow
	for _, c := range []struct{ from, to, slide, want int }{
		{3, 15, 5, 3}, {5, 15, 5, 2}, {4, 14, 5, 2}, {5, 5, 5, 0}, {4, 5, 5, 1}, {15, 3, 5, 0}, {top, -1, 1, 0},
		{-1, -1, 1, 0}, {-1, 0, 1, 0}, {0, 0, 1, 0}, {0, -1, 1, 0}, {-1, 1, 1, 1}, {-1, 4, 5, 0}, {-1, 5, 5, 1},
		{-1, top, 1, top}, {0, top, 1, top}, {1, top, 1, top - 1}, {-1, top, wide, wide}, {-1, wide - 1, wide, 0}, {-1, wide, wide, 1},
		{top - 1, top, 1, 1}, {top - 1, top, wide, 1}, {top - 1, top, 7, 0}, {top, top, 1, 0}, {-1, top, 7, (top - 2) / 7},
	} {
		if n, e := Count(c.from, c.to, c.slide); n != c.want || e != api.OK {
			t.Error(c.from, c.to, c.slide, n, e)
		}
	}
}

// P1.2
func TestClosesAreThoseListed(t *testing.T) {
	for slide := 1; slide < 12; slide++ {
		for from := -1; from < 26; from++ {
			for to := -1; to < 26; to++ {
				want := listed(from, to, slide)
				seq := Closes(from, to, slide)
				got, again := slices.Collect(seq), slices.Collect(seq)
				n, e := Count(from, to, slide)
				if !slices.Equal(got, want) || !slices.Equal(again, want) || n != len(want) || e != api.OK {
					t.Fatal(from, to, slide, got, again, n, e)
				}
			}
		}
	}
}

// P1.2
func TestClosesFarOut(t *testing.T) {
	const top, wide = api.MaxTime, api.MaxWindow
	for _, c := range []struct {
		from, to, slide int
		want            []int
	}{
		{-1, top, 1, []int{1, 2, 3}}, {-1, top, wide, []int{wide, 2 * wide, 3 * wide}}, {top - 2, top, 1, []int{top - 1, top}},
		{top - 9, top, 7, []int{top - 2}}, {top - 10, top, 7, []int{top - 9, top - 2}}, {top - 1, top, wide, []int{top}}, {top, top, 1, nil},
	} {
		if got := some(Closes(c.from, c.to, c.slide), 3); !slices.Equal(got, c.want) {
			t.Error(c.from, c.to, c.slide, got)
		}
	}
}

// P1.2
func TestClosesEndWhereNoMoreAreWanted(t *testing.T) {
	for wanted := 1; wanted < 5; wanted++ {
		var got []int
		Closes(0, 25, 5)(func(c int) bool {
			got = append(got, c)
			return len(got) < wanted
		})
		if !slices.Equal(got, listed(0, 5*wanted, 5)) {
			t.Error(wanted, got)
		}
	}
}

// P1.2
func TestClosesOfWhatMayNotBe(t *testing.T) {
	none := func(from, to, slide int) {
		n, e := Count(from, to, slide)
		if got := some(Closes(from, to, slide), 3); n != 0 || e != api.ErrArg || got != nil {
			t.Error(from, to, slide, n, e, got)
		}
	}
	for _, w := range odd {
		none(w, 10, 5)
		none(0, w, 5)
		none(w, w, 5)
	}
	for _, slide := range noSpans {
		none(0, 10, slide)
		none(10, 0, slide) // none are there, but the slide is asked first
	}
}

// P1.3
func TestBegin(t *testing.T) {
	const top, wide = api.MaxTime, api.MaxWindow
	for _, c := range []struct{ c, r, want int }{
		{10, 4, 6}, {10, 1, 9}, {3, 2, 1}, {3, 3, 0}, {3, 4, -1}, {3, 5, -1}, {3, wide, -1},
		{0, 1, -1}, {0, 2, -1}, {0, wide, -1}, {wide, wide, 0}, {wide - 1, wide, -1}, {wide - 2, wide, -1}, {wide + 1, wide, 1},
		{top, 1, top - 1}, {top, wide, top - wide}, {top - 1, wide, top - 1 - wide},
	} {
		if n, e := Begin(c.c, c.r); n != c.want || e != api.OK {
			t.Error(c.c, c.r, n, e)
		}
	}
	for _, c := range append([]int{-1}, odd...) {
		if n, e := Begin(c, 3); n != 0 || e != api.ErrArg {
			t.Error(c, n, e)
		}
	}
	for _, r := range noSpans {
		if n, e := Begin(3, r); n != 0 || e != api.ErrArg {
			t.Error(r, n, e)
		}
	}
}

// P1.3
func TestIn(t *testing.T) {
	const top, wide = api.MaxTime, api.MaxWindow
	for _, c := range []struct {
		t, c, r int
		want    bool
	}{
		{6, 10, 4, false}, {7, 10, 4, true}, {10, 10, 4, true}, {11, 10, 4, false}, {10, 10, 1, true}, {9, 10, 1, false},
		{0, 0, 1, true}, {0, 0, wide, true}, {1, 0, wide, false}, {0, 3, 3, false}, {0, 3, 4, true}, {0, 3, 9, true},
		{-1, 3, 9, false}, {-1, 0, 2, false}, {-2, 3, 9, false}, {-1, -1, 1, false}, // a window may begin below 0, but no time is there
		{0, wide, wide, false}, {1, wide, wide, true}, {0, wide - 1, wide, true},
		{top, top, 1, true}, {top - 1, top, 1, false}, {top - wide, top, wide, false}, {top - wide + 1, top, wide, true},
		{top, top - 1, wide, false}, {top + 1, top, wide, false}, {top + 1, top + 1, 2, false}, {top, top + 1, 2, false},
	} {
		if got := In(c.t, c.c, c.r); got != c.want {
			t.Error(c, got)
		}
	}
	for _, n := range odd {
		if In(n, 10, 4) || In(10, n, 4) || In(n, n, 4) || In(10, 10, n) {
			t.Error(n)
		}
	}
	for _, r := range noSpans {
		if In(10, 10, r) || In(8, 10, r) {
			t.Error(r)
		}
	}
}

// P1.4
func TestClosesRiseAndJoin(t *testing.T) {
	const top = api.MaxTime
	for _, base := range []int{-1, 0, 1000, top - 40} {
		for slide := 1; slide < 9; slide++ {
			end := base + 40
			whole := slices.Collect(Closes(base, end, slide))
			for i, c := range whole {
				if i > 0 && c != whole[i-1]+slide {
					t.Fatal(base, slide, whole)
				}
			}
			for mid := base; mid <= end; mid++ {
				parts := slices.AppendSeq(slices.Collect(Closes(base, mid, slide)), Closes(mid, end, slide))
				a, _ := Count(base, mid, slide)
				b, _ := Count(mid, end, slide)
				if !slices.Equal(parts, whole) || a+b != len(whole) {
					t.Fatal(base, mid, slide, parts, a, b)
				}
			}
		}
	}
}

// P1.4: Next and the closes tell the same.
func TestNextIsTheFirstClose(t *testing.T) {
	const top = api.MaxTime
	for _, base := range []int{-1, 1000, top - 40} {
		for w := base; w <= base+40; w++ {
			for _, slide := range []int{1, 2, 3, 7, 40, 1000} {
				first := some(Closes(w, top, slide), 1)
				n, e := Next(w, slide)
				if e == api.OK && !slices.Equal(first, []int{n}) || e != api.OK && (e != api.ErrTime || n != 0 || first != nil) {
					t.Fatal(w, slide, first, n, e)
				}
			}
		}
	}
}

// P1.4
func TestWindowsLieAboveBegin(t *testing.T) {
	const top = api.MaxTime
	for _, base := range []int{0, 1000, top - 20} {
		for c := base; c <= base+20; c++ {
			for r := 1; r < 25; r++ {
				begin, e := Begin(c, r)
				if e != api.OK || !Mark(begin) || begin >= c {
					t.Fatal(c, r, begin, e)
				}
				for x := base - 30; x <= base+30; x++ {
					if want := Is(x) && x > begin && x <= c; In(x, c, r) != want || want != (Is(x) && x > c-r && x <= c) {
						t.Fatal(x, c, r, begin)
					}
				}
			}
		}
	}
}
