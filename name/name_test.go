package name

import (
	"iter"
	"math"
	"slices"
	"strconv"
	"strings"
	"testing"
	"unsafe"

	"kinescope/api"
)

// signs are all signs of names, the letters first.
const signs = "abcdefghijklmnopqrstuvwxyz0123456789_"

// noNumbers are numbers that no text of any book has.
var noNumbers = []int{-1, -2, math.MinInt, math.MinInt + 1, MaxBook, MaxBook + 1, math.MaxInt - 1, math.MaxInt}

// noNames are texts that are no names of vertices; in a book they may stand all the same.
var noNames = []string{"", " ", "a b", "A", "é", "\x00", "\xff", "\xff\xfe", "a\n", "\"", strings.Repeat("a", 21), strings.Repeat("ab", 1<<16)}

// entry is a number with its text, as they are gone through.
type entry struct {
	n int
	s string
}

// all are those that are gone through.
func all(seq iter.Seq2[int, string]) []entry {
	var l []entry
	for n, s := range seq {
		l = append(l, entry{n, s})
	}
	return l
}

// entries are texts with their places.
func entries(texts []string) []entry {
	var l []entry
	for n, s := range texts {
		l = append(l, entry{n, s})
	}
	return l
}

// many are n texts, each its own, that begin with the same.
func many(begin string, n int) []string {
	l := make([]string, n)
	for i := range l {
		l[i] = begin + strconv.Itoa(i)
	}
	return l
}

// filled is a book of these texts.
func filled(t *testing.T, texts ...string) *Book {
	t.Helper()
	b := New()
	if n, e := b.Of(texts...); len(n) != len(texts) || e != api.OK {
		t.Fatal(len(n), e)
	}
	return b
}

// of asks a book for texts' numbers, that must be those.
func of(t *testing.T, b *Book, texts []string, want ...int) {
	t.Helper()
	if n, e := b.Of(texts...); !slices.Equal(n, want) || e != api.OK {
		t.Error(texts, n, e, want)
	}
}

// has asks a book for all that it tells: it must have these texts, none else.
func has(t *testing.T, b *Book, texts ...string) {
	t.Helper()
	if n := b.Len(); n != len(texts) {
		t.Error(n, len(texts))
	}
	if got := all(b.All()); !slices.Equal(got, entries(texts)) {
		t.Error(len(got), len(texts))
	}
	for i, s := range texts {
		if n, ok := b.Find(s); n != i || !ok {
			t.Error(i, s, n, ok)
		}
		if got, ok := b.Text(i); got != s || !ok {
			t.Error(i, s, got, ok)
		}
	}
	for _, n := range append([]int{len(texts)}, noNumbers...) {
		if s, ok := b.Text(n); s != "" || ok {
			t.Error(n, s, ok)
		}
	}
}

// lacks asks a book for texts that it must not have.
func lacks(t *testing.T, b *Book, texts ...string) {
	t.Helper()
	for _, s := range texts {
		if n, ok := b.Find(s); n != 0 || ok {
			t.Error(s, n, ok)
		}
	}
}

// refused asks a book for texts' numbers, of which nothing may come but an error.
func refused(t *testing.T, b *Book, e api.Errno, texts ...string) {
	t.Helper()
	if n, got := b.Of(texts...); len(n) != 0 || got != e {
		t.Error(len(n), got, e)
	}
}

// P2.1
func TestVertexAndFree(t *testing.T) {
	for _, c := range []struct {
		s            string
		vertex, free bool
	}{
		{"", false, false}, {"a", true, true}, {"z", true, true}, {"0", true, false}, {"9", true, false}, {"_", true, false},
		{"1a", true, false}, {"_a", true, false}, {"a1", true, true}, {"a_", true, true}, {"a_b_9", true, true}, {"__", true, false}, {"007", true, false},
		{"-1", false, false}, {"a b", false, false}, {" a", false, false}, {"a ", false, false}, {"aB", false, false}, {"Ab", false, false}, {"a-b", false, false},
		{"abcdefghijklmnopqrs", true, true}, {"abcdefghijklmnopqrst", true, true}, {"abcdefghijklmnopqrstu", false, false},
		{"0123456789_123456789", true, false}, {"0123456789_1234567890", false, false}, {strings.Repeat("_", 20), true, false}, {strings.Repeat("_", 21), false, false},
		{strings.Repeat("a", 1<<20), false, false},
	} {
		if Vertex(c.s) != c.vertex || Free(c.s) != c.free {
			t.Error(c.s, Vertex(c.s), Free(c.s))
		}
	}
}

// P2.1
func TestWordsAreNotFree(t *testing.T) {
	for _, w := range []string{"as", "match", "where", "and", "return", "range", "slide"} {
		if !Vertex(w) || Free(w) {
			t.Error(w, Vertex(w), Free(w))
		}
		for _, s := range []string{w + "1", w + "_", w + w, "x" + w, w[:len(w)-1], w[1:], w + "s"} {
			if !Vertex(s) || !Free(s) {
				t.Error(s, Vertex(s), Free(s))
			}
		}
		for _, s := range []string{"1" + w, "_" + w} {
			if !Vertex(s) || Free(s) {
				t.Error(s, Vertex(s), Free(s))
			}
		}
		for _, s := range []string{strings.ToUpper(w), w + " ", " " + w, w + "\x00"} {
			if Vertex(s) || Free(s) {
				t.Error(s, Vertex(s), Free(s))
			}
		}
	}
	for _, s := range []string{"or", "not", "in", "from", "to", "select", "emit", "every", "vertex", "edge", "path"} {
		if !Free(s) {
			t.Error(s)
		}
	}
}

// P2.1
func TestEachByteIsASignOrNot(t *testing.T) {
	for n := range 256 {
		s := string([]byte{byte(n)})
		sign := strings.Contains(signs, s)
		letter := strings.Contains(signs[:26], s)
		if Vertex(s) != sign || Free(s) != letter {
			t.Error(n, Vertex(s), Free(s))
		}
		for _, near := range []string{"x" + s, "x" + s + "x", strings.Repeat("x", 19) + s} {
			if Vertex(near) != sign || Free(near) != sign {
				t.Error(n, near, Vertex(near), Free(near))
			}
		}
		if near := s + strings.Repeat("x", 19); Vertex(near) != sign || Free(near) != letter {
			t.Error(n, near, Vertex(near), Free(near))
		}
	}
}

// P2.1: runes whose lower bits are a sign's, letters and digits of other scripts, and bytes that are no runes.
func TestRunesThatAreNoSigns(t *testing.T) {
	var odd []string
	for _, r := range signs {
		for _, up := range []rune{0x80, 0x100, 0x200, 0x10000} {
			odd = append(odd, string(up+r))
		}
	}
	odd = append(odd, "é", "ａ", "０", "٣", "＿", "𝒶", "\ufffd", "\xc3", "\xe2\x82", "\xed\xa0\x80", "\xc1\xa1", "\xf8\x88\x80\x80\x80")
	for _, s := range odd {
		for _, text := range []string{s, "a" + s, s + "a", "a" + s + "a"} {
			if Vertex(text) || Free(text) {
				t.Errorf("%q %v %v", text, Vertex(text), Free(text))
			}
		}
	}
}

// P2.2, P2.3
func TestOfTheExample(t *testing.T) {
	b := New()
	has(t, b)
	of(t, b, []string{"b", "a", "b"}, 0, 1, 0)
	has(t, b, "b", "a")
	of(t, b, []string{"a", "c"}, 1, 2)
	has(t, b, "b", "a", "c")
	lacks(t, b, "", "d", "A", "ab", "a ", "0")
	if s, ok := b.Text(1); s != "a" || !ok {
		t.Error(s, ok)
	}
}

// P2.2
func TestOfNoTexts(t *testing.T) {
	b := New()
	of(t, b, nil)
	of(t, b, []string{})
	has(t, b)
	of(t, b, []string{"x"}, 0)
	of(t, b, nil)
	has(t, b, "x")
}

// P2.2: a text comes once, however often it stands in a call, or was there.
func TestATextComesOnce(t *testing.T) {
	b := New()
	of(t, b, []string{"x", "x", "x"}, 0, 0, 0)
	of(t, b, []string{"x"}, 0)
	of(t, b, []string{"y", "x", "y", "z", "x", "z", "y"}, 1, 0, 1, 2, 0, 2, 1)
	has(t, b, "x", "y", "z")
}

// P2.2: what comes into a book need be no name.
func TestTextsThatAreNoNames(t *testing.T) {
	b := New()
	lacks(t, b, noNames...)
	if n, e := b.Of(noNames...); len(n) != len(noNames) || !slices.IsSorted(n) || e != api.OK {
		t.Error(n, e)
	}
	has(t, b, noNames...)
	lacks(t, b, "\x00\x00", "\ufffd", "\xfe", "a", "as")
	of(t, b, []string{"as", ""}, len(noNames), 0)
}

// P2.2: just as many as may be come in one call.
func TestABookThatIsFull(t *testing.T) {
	if MaxBook != 65536 {
		t.Error(MaxBook)
	}
	texts := many("t", MaxBook)
	b := filled(t, texts...)
	has(t, b, texts...)
	of(t, b, []string{texts[MaxBook-1], texts[0], texts[7], texts[0]}, MaxBook-1, 0, 7, 0)
	of(t, b, nil)
	refused(t, b, api.ErrLong, "one more")
	refused(t, b, api.ErrLong, texts[0], "one more", texts[1])
	refused(t, b, api.ErrLong, "one more", "one more")
	has(t, b, texts...)
	lacks(t, b, "one more")
	if n, e := b.Of(texts...); len(n) != MaxBook || n[MaxBook-1] != MaxBook-1 || e != api.OK {
		t.Error(len(n), e)
	}
}

// P2.2: one call makes one more than may be, in a book that had some, or none: none of its texts comes.
func TestOneMoreThanMayBe(t *testing.T) {
	texts := many("t", MaxBook+1)
	b := New()
	refused(t, b, api.ErrLong, texts...)
	has(t, b)
	lacks(t, b, texts[0], texts[MaxBook-1], texts[MaxBook])
	of(t, b, []string{"a", "b", "c"}, 0, 1, 2)
	refused(t, b, api.ErrLong, texts[:MaxBook-2]...)
	has(t, b, "a", "b", "c")
	lacks(t, b, texts[0], texts[MaxBook-3])
	of(t, b, []string{texts[9], "b"}, 3, 1) // as if nothing had been asked between
	has(t, b, "a", "b", "c", texts[9])
}

// P2.2: texts that are there already, or stand twice, take no room.
func TestTextsThatTakeNoRoom(t *testing.T) {
	const had = 100
	texts := many("t", MaxBook)
	more := slices.Concat(texts[:had], texts[had:], texts[had:], texts)
	b := filled(t, texts[:had]...)
	refused(t, b, api.ErrLong, append(slices.Clone(more), "one more")...)
	refused(t, b, api.ErrLong, append([]string{"one more"}, more...)...)
	refused(t, b, api.ErrLong, append([]string{"one more", "one more"}, more...)...)
	has(t, b, texts[:had]...)
	lacks(t, b, "one more", texts[had], texts[MaxBook-1])
	n, e := b.Of(more...)
	if len(n) != len(more) || e != api.OK {
		t.Fatal(len(n), e)
	}
	for i, s := range more {
		if texts[n[i]] != s {
			t.Fatal(i, s, n[i])
		}
	}
	has(t, b, texts...)
}

// P2.2: the first text that finds no room may stand anywhere; one room that is left is enough for one.
func TestTheLastRoom(t *testing.T) {
	texts := many("t", MaxBook-1)
	b := filled(t, texts...)
	refused(t, b, api.ErrLong, "y", "z")
	refused(t, b, api.ErrLong, "y", texts[3], "y", "z")
	lacks(t, b, "y", "z")
	of(t, b, []string{"z", texts[3], "z"}, MaxBook-1, 3, MaxBook-1)
	refused(t, b, api.ErrLong, "y")
	has(t, b, append(texts, "z")...)
}

// P2.2, R3: neither what was given, nor what was answered, is the book's.
func TestABookIsItsOwn(t *testing.T) {
	b := New()
	given := []string{"x", "y", "x"}
	n, _ := b.Of(given...)
	if !slices.Equal(given, []string{"x", "y", "x"}) {
		t.Error(given)
	}
	given[0], given[1] = "p", "q"
	n[0], n[1] = 7, 8
	has(t, b, "x", "y")
	lacks(t, b, "p", "q")
	of(t, b, []string{"y", "x"}, 1, 0)
	other := New()
	of(t, other, []string{"y"}, 0)
	has(t, other, "y")
	has(t, b, "x", "y")
}

// P2.2, R3: of a long text of which a piece is given, the book keeps that piece alone.
func TestABookKeepsNoLongerText(t *testing.T) {
	long := strings.Repeat("abc", 1000)
	b := filled(t, long[3:6], long[1:2])
	for n, s := range b.All() {
		if given := long[3-2*n:]; s != "abc"[n:3-n] || unsafe.StringData(s) == unsafe.StringData(given) {
			t.Error(n, s)
		}
	}
	has(t, b, "abc", "b")
}

// P2.3
func TestAllThatIsLeftOnTheWay(t *testing.T) {
	texts := []string{"d", "b", "", "c"}
	b := filled(t, texts...)
	for wanted := 1; wanted <= len(texts); wanted++ {
		var got []entry
		b.All()(func(n int, s string) bool {
			got = append(got, entry{n, s})
			return len(got) < wanted
		})
		if !slices.Equal(got, entries(texts[:wanted])) {
			t.Error(wanted, got)
		}
	}
	has(t, b, texts...)
}

// P2.3: the same one may be gone through again, one within the other, and asks the book anew each time.
func TestAllOnceMore(t *testing.T) {
	b := filled(t, "x", "y")
	seq := b.All()
	for range 2 {
		if got := all(seq); !slices.Equal(got, entries([]string{"x", "y"})) {
			t.Error(got)
		}
	}
	n := 0
	for range seq {
		n += len(all(seq))
	}
	if n != 4 {
		t.Error(n)
	}
	of(t, b, []string{"z"}, 2)
	if got := all(seq); !slices.Equal(got, entries([]string{"x", "y", "z"})) {
		t.Error(got)
	}
}

// P2.3, R1: it ends also where a text comes for each that is told; those that were there are told.
func TestAllWhileTextsCome(t *testing.T) {
	b := filled(t, "x", "y")
	var got []entry
	for n, s := range b.All() {
		got = append(got, entry{n, s})
		of(t, b, []string{s, s + s}, n, n+2)
	}
	if !slices.Equal(got, entries([]string{"x", "y"})) {
		t.Error(got)
	}
	has(t, b, "x", "y", "xx", "yy")
}

// P2.4
func TestOfNoBook(t *testing.T) {
	b := filled(t, "a", "b")
	copied, empty := *b, *New()
	for i, none := range []*Book{nil, {}, new(Book), &copied, &empty} {
		refused(t, none, api.ErrNil)
		refused(t, none, api.ErrNil, "a", "c")
		refused(t, none, api.ErrNil, many("t", MaxBook+1)...) // too many, too, but ErrNil is told ahead of that
		lacks(t, none, "", "a", "c", "t0")
		if n := none.Len(); n != 0 {
			t.Error(i, n)
		}
		for _, n := range append([]int{0, 1, 2}, noNumbers...) {
			if s, ok := none.Text(n); s != "" || ok {
				t.Error(i, n, s, ok)
			}
		}
		if got := all(none.All()); got != nil {
			t.Error(i, got)
		}
	}
	has(t, b, "a", "b")
	of(t, b, []string{"c"}, 2)
}

// P2.5: against a list of texts, that is gone through from its beginning on for each one that is asked for.
func TestNumbersAndTextsAreOneToOne(t *testing.T) {
	b := New()
	var list []string
	number := func(s string) int {
		if n := slices.Index(list, s); n >= 0 {
			return n
		}
		list = append(list, s)
		return len(list) - 1
	}
	for i := range 300 {
		var texts []string
		var want []int
		for k := range i % 7 {
			s := strconv.Itoa((i*i*31 + k*k*17 + i*k) % 211)
			texts = append(texts, s)
			want = append(want, number(s))
		}
		of(t, b, texts, want...)
		has(t, b, list...)
	}
	if len(list) < 100 {
		t.Error(len(list))
	}
}

// P2.5: what a call that was refused would have made has no number, and what stays keeps its own.
func TestWhatIsThereStays(t *testing.T) {
	b := New()
	tooMany := many("t", MaxBook+1)
	var texts []string
	for i := range 20 {
		s := strings.Repeat("x", i)
		of(t, b, []string{s}, i)
		texts = append(texts, s)
		if i%5 == 0 {
			refused(t, b, api.ErrLong, tooMany...)
		}
		has(t, b, texts...)
	}
	lacks(t, b, tooMany...)
}

// R4: the same calls tell the same of each book.
func TestBooksTellTheSame(t *testing.T) {
	texts := many("k", 2000)
	a, b := filled(t, texts...), New()
	for i := 0; i < len(texts); i += 50 {
		if _, e := b.Of(texts[i : i+50]...); e != api.OK {
			t.Fatal(i, e)
		}
	}
	if !slices.Equal(all(a.All()), all(b.All())) {
		t.Error("not the same")
	}
	has(t, a, texts...)
}
