package bag

import (
	"iter"
	"math"
	"slices"
	"strings"
	"testing"
	"unsafe"

	"kinescope/api"
)

// numbers are numbers at both ends of the range, and about the middle, rising.
var numbers = []int{math.MinInt, math.MinInt + 1, -1, 0, 1, math.MaxInt - 1, math.MaxInt}

// keys are keys in order: the empty one, some that begin as others, some that are no text.
var keys = []string{"", "\x00", "\x00\xff", " ", "A", "a", "a\x00", "a b", "aa", "aab", "ab", "b", "\x80", "\xc3", "\xc3\xa4", "\xff", "\xff\x00", "\xff\xff"}

// chance are numbers that look as if they came by chance, the same ones each time.
func chance(seed uint64) func(n int) int {
	return func(n int) int {
		seed = seed*6364136223846793005 + 1442695040888963407
		return int(seed >> 33 % uint64(n))
	}
}

// put puts entries.
func put(t *testing.T, b *Bag, entries ...Entry) {
	t.Helper()
	if e := b.Put(entries...); e != api.OK {
		t.Error(entries, e)
	}
}

// bagOf is a bag with entries.
func bagOf(t *testing.T, entries ...Entry) *Bag {
	t.Helper()
	b := New()
	put(t, b, entries...)
	return b
}

// drop takes an entry away, that must be there, or not.
func drop(t *testing.T, b *Bag, key string, val int, there bool) {
	t.Helper()
	if got := b.Drop(key, val); got != there {
		t.Error(key, val, got)
	}
}

// cut takes away what ends, which must be so many.
func cut(t *testing.T, b *Bag, end, n int) {
	t.Helper()
	if got := b.Cut(end); got != n {
		t.Error(end, got, n)
	}
}

// entriesOf are the entries that a sequence of values and ends tells for a key.
func entriesOf(key string, seq iter.Seq2[int, int]) []Entry {
	var l []Entry
	for val, end := range seq {
		l = append(l, Entry{key, val, end})
	}
	return l
}

// ofKey are the entries of a key.
func ofKey(key string, entries []Entry) []Entry {
	return slices.DeleteFunc(slices.Clone(entries), func(entry Entry) bool { return entry.Key != key })
}

// least is the least end of entries.
func least(entries []Entry) (int, bool) {
	first, there := 0, false
	for _, entry := range entries {
		if !there || entry.End < first {
			first, there = entry.End, true
		}
	}
	return first, there
}

// has asks a bag for all that it tells without a change: it must have these entries, in order, none else.
func has(t *testing.T, b *Bag, want ...Entry) {
	t.Helper()
	if n := b.Len(); n != len(want) {
		t.Error(n, len(want))
	}
	if got := b.All(); !slices.Equal(got, want) {
		t.Error(got, want)
	}
	first, there := least(want)
	if got, ok := b.First(); got != first || ok != there {
		t.Error(got, ok, want)
	}
	for _, entry := range want {
		if end, ok := b.End(entry.Key, entry.Val); end != entry.End || !ok {
			t.Error(entry, end, ok)
		}
		if got := entriesOf(entry.Key, b.Of(entry.Key)); !slices.Equal(got, ofKey(entry.Key, want)) {
			t.Error(entry.Key, got, want)
		}
	}
}

// P4.1, P4.2
func TestTheExample(t *testing.T) {
	b := bagOf(t, Entry{"x", 1, 5}, Entry{"x", 1, 3}, Entry{"x", 2, 4})
	has(t, b, Entry{"x", 1, 5}, Entry{"x", 2, 4})
	cut(t, b, 4, 1)
	has(t, b, Entry{"x", 1, 5})
}

// P4.1, P4.2
func TestAnEmptyBag(t *testing.T) {
	b := New()
	for range 2 {
		has(t, b)
		put(t, b)
		put(t, b, []Entry{}...)
		drop(t, b, "", 0, false)
		cut(t, b, math.MaxInt, 0)
		cut(t, b, math.MinInt, 0)
		if end, there := b.End("", 0); end != 0 || there {
			t.Error(end, there)
		}
		if got := entriesOf("", b.Of("")); len(got) != 0 {
			t.Error(got)
		}
		has(t, b)
		put(t, b, Entry{})
		has(t, b, Entry{})
		cut(t, b, 0, 1)
	}
}

// P4.1: bags do not share what they have.
func TestBagsAreApart(t *testing.T) {
	a, b := bagOf(t, Entry{"x", 1, 1}), bagOf(t, Entry{"x", 1, 2}, Entry{"y", 1, 1})
	cut(t, b, 1, 1)
	drop(t, a, "x", 1, true)
	has(t, a)
	has(t, b, Entry{"x", 1, 2})
}

// P4.1: of the same key and value there is one entry, with the greatest end that came.
func TestTheSameEntryAgain(t *testing.T) {
	b := New()
	for _, c := range []struct{ put, end int }{{3, 3}, {3, 3}, {2, 3}, {-9, 3}, {4, 4}, {3, 4}, {4, 4}, {math.MinInt, 4}, {math.MaxInt, math.MaxInt}, {0, math.MaxInt}} {
		put(t, b, Entry{"k", 7, c.put})
		has(t, b, Entry{"k", 7, c.end})
	}
	has(t, bagOf(t, Entry{"k", 7, 1}, Entry{"k", 7, 5}, Entry{"k", 7, 3}), Entry{"k", 7, 5})
}

// P4.1: the end of one is not that of another one with the same key, or the same value.
func TestEntriesOfOneKeyOrOneValue(t *testing.T) {
	b := bagOf(t, Entry{"x", 2, 5}, Entry{"y", 1, 6}, Entry{"x", -1, 9}, Entry{"y", 2, 1}, Entry{"x", 1, 5})
	has(t, b, Entry{"x", -1, 9}, Entry{"x", 1, 5}, Entry{"x", 2, 5}, Entry{"y", 1, 6}, Entry{"y", 2, 1})
	put(t, b, Entry{"y", 2, 8})
	has(t, b, Entry{"x", -1, 9}, Entry{"x", 1, 5}, Entry{"x", 2, 5}, Entry{"y", 1, 6}, Entry{"y", 2, 8})
	for _, none := range []Entry{{"x", 0, 0}, {"x", 6, 0}, {"y", -1, 0}, {"", 1, 0}, {"xy", 1, 0}, {"z", 1, 0}} {
		if end, there := b.End(none.Key, none.Val); end != 0 || there {
			t.Error(none, end, there)
		}
	}
}

// P4.1: keys stand byte by byte, values by their size, from one end of the range to the other.
func TestKeysAndValuesInOrder(t *testing.T) {
	var all []Entry
	for _, key := range keys {
		for i, val := range numbers {
			all = append(all, Entry{key, val, numbers[len(numbers)-1-i]})
		}
	}
	back := slices.Clone(all)
	slices.Reverse(back)
	has(t, bagOf(t, all...), all...)
	b := bagOf(t, back...)
	has(t, b, all...)
	for i, end := range numbers {
		cut(t, b, end, len(keys))
		all = slices.DeleteFunc(all, func(entry Entry) bool { return entry.End == end })
		has(t, b, all...)
		if len(all) != len(keys)*(len(numbers)-1-i) {
			t.Error(end, len(all))
		}
	}
}

// P4.1: a key that no entry has, though others begin as it, or it begins as they do.
func TestOfAKeyThatNoEntryHas(t *testing.T) {
	b := bagOf(t, Entry{"ab", 1, 1}, Entry{"b", 2, 2})
	for _, key := range []string{"", "a", "abc", "ab\x00", "B", "\xff"} {
		if got := entriesOf(key, b.Of(key)); len(got) != 0 {
			t.Error(key, got)
		}
		drop(t, b, key, 1, false)
	}
	has(t, b, Entry{"ab", 1, 1}, Entry{"b", 2, 2})
}

// P4.1: it goes no further than is asked, and once more from the beginning on.
func TestOfThatIsLeftOnTheWay(t *testing.T) {
	all := []Entry{{"x", 1, 9}, {"x", 2, 8}, {"x", 3, 7}}
	b := bagOf(t, all...)
	seq := b.Of("x")
	for wanted := 1; wanted <= 3; wanted++ {
		var got []Entry
		seq(func(val, end int) bool {
			got = append(got, Entry{"x", val, end})
			return len(got) < wanted
		})
		if !slices.Equal(got, all[:wanted]) {
			t.Error(wanted, got)
		}
	}
	if got := entriesOf("x", seq); !slices.Equal(got, all) {
		t.Error(got)
	}
	has(t, b, all...)
}

// P4.1: it asks when it is gone through, not when it is made.
func TestOfAsksWhenItIsGoneThrough(t *testing.T) {
	b := New()
	seq := b.Of("x")
	for _, c := range []struct {
		change func()
		want   []Entry
	}{
		{func() {}, nil},
		{func() { put(t, b, Entry{"x", 2, 5}, Entry{"y", 3, 3}) }, []Entry{{"x", 2, 5}}},
		{func() { put(t, b, Entry{"x", 1, 4}, Entry{"x", 2, 6}) }, []Entry{{"x", 1, 4}, {"x", 2, 6}}},
		{func() { cut(t, b, 4, 2) }, []Entry{{"x", 2, 6}}},
		{func() { drop(t, b, "x", 2, true) }, nil},
	} {
		c.change()
		for range 2 {
			if got := entriesOf("x", seq); !slices.Equal(got, c.want) {
				t.Error(got, c.want)
			}
		}
	}
}

// P4.1, P4.2: what is put, dropped and cut in the midst of Of is done at once, and told by the next one.
func TestChangesInTheMidstOfOf(t *testing.T) {
	all := []Entry{{"x", 1, 5}, {"x", 3, 6}, {"x", 5, 7}, {"x", 7, 8}}
	for _, c := range []struct {
		name   string
		change func(b *Bag)
		want   []Entry
	}{
		{"put", func(b *Bag) {
			put(t, b, Entry{"x", 0, 1}, Entry{"x", 4, 1}, Entry{"x", 9, 1}, Entry{"x", 5, 9}, Entry{"x", 7, 0})
		},
			[]Entry{{"x", 0, 1}, {"x", 1, 5}, {"x", 3, 6}, {"x", 4, 1}, {"x", 5, 9}, {"x", 7, 8}, {"x", 9, 1}}},
		{"drop", func(b *Bag) { b.Drop("x", 3); b.Drop("x", 5) }, []Entry{{"x", 1, 5}, {"x", 7, 8}}},
		{"drop all", func(b *Bag) { b.Drop("x", 1); b.Drop("x", 3); b.Drop("x", 5); b.Drop("x", 7) }, nil},
		{"cut", func(b *Bag) { b.Cut(6) }, []Entry{{"x", 5, 7}, {"x", 7, 8}}},
		{"cut all", func(b *Bag) { b.Cut(math.MaxInt) }, nil},
		{"cut and put", func(b *Bag) { b.Cut(math.MaxInt); put(t, b, Entry{"x", 3, 1}) }, []Entry{{"x", 3, 1}}},
	} {
		for at := range all {
			b := bagOf(t, all...)
			var got []Entry
			for val, end := range b.Of("x") {
				if len(got) == at {
					c.change(b)
					has(t, b, c.want...)
				}
				got = append(got, Entry{"x", val, end})
			}
			if !slices.Equal(got, all) {
				t.Error(c.name, at, got)
			}
			has(t, b, c.want...)
		}
	}
}

// P4.1: one Of goes within another one.
func TestOfWithinOf(t *testing.T) {
	all := []Entry{{"x", 1, 9}, {"x", 2, 8}}
	b := bagOf(t, all...)
	n := 0
	for range b.Of("x") {
		if got := entriesOf("x", b.Of("x")); !slices.Equal(got, all) {
			t.Error(got)
		}
		n++
	}
	if n != 2 {
		t.Error(n)
	}
}

// P4.2
func TestDrop(t *testing.T) {
	b := bagOf(t, Entry{"x", 1, 5}, Entry{"x", 2, 3}, Entry{"y", 1, 4})
	drop(t, b, "x", 3, false)
	drop(t, b, "y", 2, false)
	drop(t, b, "", 1, false)
	has(t, b, Entry{"x", 1, 5}, Entry{"x", 2, 3}, Entry{"y", 1, 4})
	drop(t, b, "x", 2, true) // that of the least end
	drop(t, b, "x", 2, false)
	has(t, b, Entry{"x", 1, 5}, Entry{"y", 1, 4})
	drop(t, b, "x", 1, true) // that of the greatest end
	has(t, b, Entry{"y", 1, 4})
	drop(t, b, "y", 1, true) // the last one
	drop(t, b, "y", 1, false)
	has(t, b)
}

// P4.1, P4.2: what is put behind a Drop has its own end, be it a smaller one, and is there until that.
func TestPutBehindADrop(t *testing.T) {
	for _, end := range []int{2, 5, 8} {
		b := bagOf(t, Entry{"x", 1, 5}, Entry{"x", 2, 9})
		drop(t, b, "x", 1, true)
		put(t, b, Entry{"x", 1, end})
		has(t, b, Entry{"x", 1, end}, Entry{"x", 2, 9})
		cut(t, b, end-1, 0)
		has(t, b, Entry{"x", 1, end}, Entry{"x", 2, 9})
		cut(t, b, end, 1)
		has(t, b, Entry{"x", 2, 9})
		drop(t, b, "x", 1, false)
	}
}

// P4.2, P4.4: an end below all, that some have, between, above all, each twice.
func TestCut(t *testing.T) {
	all := []Entry{{"", 0, 4}, {"x", 1, 5}, {"x", 2, -3}, {"x", 3, 4}, {"y", 1, 4}, {"y", 2, 9}}
	for _, c := range []struct{ end, gone int }{
		{math.MinInt, 0}, {-4, 0}, {-3, 1}, {-2, 1}, {3, 1}, {4, 4}, {5, 5}, {6, 5}, {8, 5}, {9, 6}, {10, 6}, {math.MaxInt, 6},
	} {
		b := bagOf(t, all...)
		left := slices.DeleteFunc(slices.Clone(all), func(entry Entry) bool { return entry.End <= c.end })
		cut(t, b, c.end, c.gone)
		has(t, b, left...)
		cut(t, b, c.end, 0)
		has(t, b, left...)
		cut(t, b, math.MinInt, 0)
		has(t, b, left...)
		put(t, b, all...)
		has(t, b, all...)
	}
}

// P4.2: it is there until the greatest end that it was given, and is counted once.
func TestCutBehindAnEndThatWasMadeGreater(t *testing.T) {
	b := bagOf(t, Entry{"x", 1, 2}, Entry{"x", 2, 3})
	put(t, b, Entry{"x", 1, 5}, Entry{"x", 1, 4})
	has(t, b, Entry{"x", 1, 5}, Entry{"x", 2, 3})
	cut(t, b, 2, 0)
	has(t, b, Entry{"x", 1, 5}, Entry{"x", 2, 3})
	cut(t, b, 4, 1)
	has(t, b, Entry{"x", 1, 5})
	put(t, b, Entry{"x", 1, 7})
	cut(t, b, 6, 0)
	has(t, b, Entry{"x", 1, 7})
	cut(t, b, 7, 1)
	has(t, b)
	put(t, b, Entry{"x", 1, 1})
	has(t, b, Entry{"x", 1, 1})
	cut(t, b, 7, 1)
	has(t, b)
}

// P4.2: a Cut may go as far as what was made greater on the way to it.
func TestCutThatTakesAllEndsOfOneEntry(t *testing.T) {
	b := New()
	for end := range 20 {
		put(t, b, Entry{"x", 1, end}, Entry{"x", 2, 100 - end})
	}
	has(t, b, Entry{"x", 1, 19}, Entry{"x", 2, 100})
	cut(t, b, 99, 1)
	has(t, b, Entry{"x", 2, 100})
	cut(t, b, 100, 1)
	has(t, b)
}

// P4.2
func TestFirst(t *testing.T) {
	b := bagOf(t, Entry{"x", 1, 6}, Entry{"y", 2, 2}, Entry{"a", 3, 4}, Entry{"x", 2, 8})
	first := func(end int) {
		t.Helper()
		if got, there := b.First(); got != end || !there {
			t.Error(got, there, end)
		}
	}
	first(2)
	put(t, b, Entry{"y", 2, 7})
	first(4)
	drop(t, b, "a", 3, true)
	first(6)
	cut(t, b, 6, 1)
	first(7)
	put(t, b, Entry{"a", 3, math.MinInt})
	first(math.MinInt)
	put(t, b, Entry{"a", 3, 0})
	first(0)
	drop(t, b, "x", 2, true)
	first(0)
	drop(t, b, "a", 3, true)
	first(7)
	drop(t, b, "y", 2, true)
	has(t, b)
}

// P4.2: 0 is an end as others are.
func TestFirstOfAnEndOfZero(t *testing.T) {
	b := bagOf(t, Entry{"", 0, 0})
	if got, there := b.First(); got != 0 || !there {
		t.Error(got, there)
	}
	if got, there := b.End("", 0); got != 0 || !there {
		t.Error(got, there)
	}
}

// P4.3
func TestOfNoBag(t *testing.T) {
	b := bagOf(t, Entry{"x", 1, 5}, Entry{"y", 2, 6})
	copied, empty := *b, *New()
	for i, none := range []*Bag{nil, {}, new(Bag), &copied, &empty} {
		for _, entries := range [][]Entry{nil, {{"x", 1, 9}, {"z", 1, 1}}} {
			if e := none.Put(entries...); e != api.ErrNil {
				t.Error(i, e)
			}
		}
		if got := entriesOf("x", none.Of("x")); len(got) != 0 {
			t.Error(i, got)
		}
		if end, there := none.End("x", 1); end != 0 || there {
			t.Error(i, end, there)
		}
		if none.Drop("x", 1) {
			t.Error(i)
		}
		if n := none.Cut(math.MaxInt); n != 0 {
			t.Error(i, n)
		}
		if end, there := none.First(); end != 0 || there {
			t.Error(i, end, there)
		}
		if n := none.Len(); n != 0 {
			t.Error(i, n)
		}
		if got := none.All(); got != nil {
			t.Error(i, got)
		}
		has(t, b, Entry{"x", 1, 5}, Entry{"y", 2, 6})
	}
}

// P4.3: one that is overwritten is no bag any more, not even for an Of that was made ahead of it.
func TestABagThatIsOverwritten(t *testing.T) {
	b, other := bagOf(t, Entry{"x", 1, 5}), bagOf(t, Entry{"x", 2, 6})
	seq := b.Of("x")
	*b = *other
	if got := entriesOf("x", seq); len(got) != 0 {
		t.Error(got)
	}
	if e := b.Put(Entry{"x", 3, 3}); e != api.ErrNil {
		t.Error(e)
	}
	has(t, other, Entry{"x", 2, 6})
	c := bagOf(t, Entry{"x", 1, 5}, Entry{"x", 2, 6})
	n := 0
	for range c.Of("x") {
		*c = Bag{}
		n++
	}
	if n > 2 || c.Len() != 0 {
		t.Error(n, c.Len())
	}
}

// P4.1, R3: neither what was given, nor what was answered, is the bag's.
func TestABagIsItsOwn(t *testing.T) {
	given := []Entry{{"y", 3, 3}, {"x", 1, 1}, {"x", 2, 2}, {"z", 9, 9}}[:3]
	b := bagOf(t, given...)
	if !slices.Equal(given[:4], []Entry{{"y", 3, 3}, {"x", 1, 1}, {"x", 2, 2}, {"z", 9, 9}}) {
		t.Error(given[:4])
	}
	clear(given)
	want := []Entry{{"x", 1, 1}, {"x", 2, 2}, {"y", 3, 3}}
	has(t, b, want...)
	got := b.All()
	clear(got)
	_ = append(got[:0], Entry{"w", 1, 1}, Entry{"w", 2, 2}, Entry{"w", 3, 3}, Entry{"w", 4, 4})
	has(t, b, want...)
	got = b.All()
	put(t, b, Entry{"x", 1, 7}, Entry{"a", 1, 1})
	cut(t, b, 2, 2)
	if !slices.Equal(got, want) {
		t.Error(got)
	}
	has(t, b, Entry{"x", 1, 7}, Entry{"y", 3, 3})
}

// P4.1: a key that is made anew is the same as the one of equal bytes.
func TestKeysAreTheirBytes(t *testing.T) {
	b := bagOf(t, Entry{strings.Repeat("ab", 2), 1, 1})
	put(t, b, Entry{"abab", 1, 4}, Entry{"xababx"[1:5], 2, 3})
	has(t, b, Entry{"abab", 1, 4}, Entry{"abab", 2, 3})
	drop(t, b, string([]byte{'a', 'b', 'a', 'b'}), 1, true)
	has(t, b, Entry{"abab", 2, 3})
}

// R3: what is kept of a key is no piece of the text that was given.
func TestAGivenKeyIsNotKept(t *testing.T) {
	text := strings.Repeat("ab", 1000)
	b := bagOf(t, Entry{text[:3], 1, 1})
	put(t, b, Entry{text[:3], 1, 2}, Entry{text[:3], 2, 2})
	kept := []string{b.All()[0].Key, b.All()[1].Key}
	for _, place := range b.places {
		kept = append(kept, place.key)
	}
	for _, key := range kept {
		if unsafe.StringData(key) == unsafe.StringData(text) {
			t.Error(key)
		}
	}
}

// P4.4: each order of a few entries, some of one key and value, put at once or one by one.
func TestEachOrderOfAFewEntries(t *testing.T) {
	full := []Entry{{"x", 1, 3}, {"x", 1, 5}, {"x", 1, 4}, {"x", 2, 4}, {"y", 1, 5}, {"y", 1, 2}}
	want := []Entry{{"x", 1, 5}, {"x", 2, 4}, {"y", 1, 5}}
	var each func(begin, rest []Entry)
	each = func(begin, rest []Entry) {
		if len(rest) == 0 {
			one := New()
			for _, entry := range begin {
				put(t, one, entry)
			}
			for _, b := range []*Bag{bagOf(t, begin...), one} {
				has(t, b, want...)
				cut(t, b, 4, 1)
				has(t, b, want[0], want[2])
				cut(t, b, 5, 2)
				has(t, b)
			}
		}
		for i := range rest {
			each(append(slices.Clone(begin), rest[i]), slices.Concat(rest[:i], rest[i+1:]))
		}
	}
	each(nil, full)
}

// model is a bag as a list in order.
type model []Entry

// find is where an entry of a key and a value stands, or would stand.
func (m model) find(key string, val int) (int, bool) {
	for i, entry := range m {
		if entry.Key == key && entry.Val == val {
			return i, true
		}
		if entry.Key > key || entry.Key == key && entry.Val > val {
			return i, false
		}
	}
	return len(m), false
}

// put puts an entry.
func (m model) put(entry Entry) model {
	i, there := m.find(entry.Key, entry.Val)
	if !there {
		return slices.Insert(m, i, entry)
	}
	m[i].End = max(m[i].End, entry.End)
	return m
}

// P4.1, P4.2, P4.4: held against a list in which all is looked for from the beginning on.
func TestBagsAgainstLists(t *testing.T) {
	for seed := range uint64(60) {
		next := chance(seed)
		b, m := New(), model(nil)
		// Some have few entries that are changed time and again, some have many.
		nkeys, nvals := 1+next(6), 1+next(9)
		for step := range 300 {
			key, val := keys[next(nkeys)], next(nvals)-3
			switch next(10) {
			case 0, 1:
				i, there := m.find(key, val)
				drop(t, b, key, val, there)
				if there {
					m = slices.Delete(m, i, i+1)
				}
			case 2:
				end, n := step-next(40), len(m)
				m = slices.DeleteFunc(m, func(entry Entry) bool { return entry.End <= end })
				cut(t, b, end, n-len(m))
			default:
				entries := make([]Entry, next(4))
				for i := range entries {
					entries[i] = Entry{keys[next(nkeys)], next(nvals) - 3, step + next(30)}
					m = m.put(entries[i])
				}
				put(t, b, entries...)
			}
			has(t, b, m...)
			if t.Failed() {
				t.Fatal(seed, step)
			}
		}
	}
}

// keeps asks how many things a bag keeps of any kind: so many at most.
func keeps(t *testing.T, b *Bag, most int) {
	t.Helper()
	if n := len(b.rows) + len(b.places) + b.ends.Len(); n > most {
		t.Fatal(n, most)
	}
}

// P4.1, P4.2, DOC P5: what is put again and again, with a greater end or behind a Drop, leaves nothing behind.
func TestNothingPilesUp(t *testing.T) {
	b := bagOf(t, Entry{"a", 0, math.MinInt}) // the least end, so that none is taken away from ahead of it
	for n := range 3000 {
		put(t, b, Entry{"x", 1, n}, Entry{"y", n, n}, Entry{"z", 1, -n})
		drop(t, b, "y", n, true)
		drop(t, b, "z", 1, true)
		keeps(t, b, 2+2+4)
	}
	has(t, b, Entry{"a", 0, math.MinInt}, Entry{"x", 1, 2999})
	for n := range 3000 {
		put(t, b, Entry{string(rune('b' + n%7)), n, n})
	}
	cut(t, b, 2998, 3000)
	has(t, b, Entry{"e", 2999, 2999}, Entry{"x", 1, 2999})
	keeps(t, b, 2+2+4)
	cut(t, b, 2999, 2)
	keeps(t, b, 0)
}

// P4.1, P4.2: many entries, of many keys and of one.
func TestManyEntries(t *testing.T) {
	const many = 100000
	b := New()
	next := chance(1)
	for n := range many {
		key := "k"
		if n%2 == 0 {
			key = keys[1] + string(rune(next(60000)+1))
		}
		put(t, b, Entry{key, n, next(1000)}, Entry{key, n, 1000 + n})
	}
	if n := b.Len(); n != many {
		t.Error(n)
	}
	if got, there := b.First(); got != 1000 || !there {
		t.Error(got, there)
	}
	n := 0
	for val, end := range b.Of("k") {
		if val != 2*n+1 || end != 1000+val {
			t.Fatal(n, val, end)
		}
		n++
	}
	cut(t, b, 1000+many/2, many/2+1)
	if got, there := b.First(); got != 1001+many/2 || !there {
		t.Error(got, there)
	}
	cut(t, b, math.MaxInt, many/2-1)
	has(t, b)
}
