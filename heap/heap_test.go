package heap

import (
	"iter"
	"math"
	"slices"
	"testing"

	"kinescope/api"
)

// ends are numbers at both ends of the range, and about the middle.
var ends = []int{math.MinInt, math.MinInt + 1, -1, 0, 1, math.MaxInt - 1, math.MaxInt}

// items are keys and values, one behind the other, as items.
func items(numbers ...int) []Item {
	var l []Item
	for pair := range slices.Chunk(numbers, 2) {
		l = append(l, Item{pair[0], pair[1]})
	}
	return l
}

// before says whether an item stands before another one.
func before(a, b Item) bool { return a.Key < b.Key || a.Key == b.Key && a.Val < b.Val }

// ordered are items, put one by one where they stand.
func ordered(given []Item) []Item {
	var l []Item
	for _, item := range given {
		place := 0
		for place < len(l) && !before(item, l[place]) {
			place++
		}
		l = slices.Insert(l, place, item)
	}
	return l
}

// chance are numbers that look as if they came by chance, the same ones each time.
func chance(seed uint64) func(n int) int {
	return func(n int) int {
		seed = seed*6364136223846793005 + 1442695040888963407
		return int(seed >> 33 % uint64(n))
	}
}

// someItems are n items with few keys and values.
func someItems(next func(int) int, n int) []Item {
	l := make([]Item, n)
	for i := range l {
		l[i] = Item{next(7) - 3, next(5) - 2}
	}
	return l
}

// push puts items.
func push(t *testing.T, h *Heap, put ...Item) {
	t.Helper()
	if e := h.Push(put...); e != api.OK {
		t.Error(put, e)
	}
}

// has asks a heap for all that it tells without a change: it must have these items, in order, none else.
func has(t *testing.T, h *Heap, want ...Item) {
	t.Helper()
	if n := h.Len(); n != len(want) {
		t.Error(n, len(want))
	}
	if got := h.Items(); !slices.Equal(got, want) {
		t.Error(got, want)
	}
	var first Item
	if len(want) > 0 {
		first = want[0]
	}
	if got, ok := h.First(); got != first || ok != (len(want) > 0) {
		t.Error(got, ok, want)
	}
}

// empties takes all items of a heap, one by one: these, in order.
func empties(t *testing.T, h *Heap, want ...Item) {
	t.Helper()
	for i, item := range want {
		has(t, h, want[i:]...)
		if got, ok := h.Pop(); got != item || !ok {
			t.Error(i, got, ok, item)
		}
	}
	for range 2 {
		has(t, h)
		if got, ok := h.Pop(); got != (Item{}) || ok {
			t.Error(got, ok)
		}
	}
}

// tells asks for all that is gone through: these, in this order.
func tells(t *testing.T, seq iter.Seq[Item], want ...Item) {
	t.Helper()
	if got := slices.Collect(seq); !slices.Equal(got, want) {
		t.Error(got, want)
	}
}

// P3.1, P3.2
func TestTheExample(t *testing.T) {
	h := New(items(3, 7, 1, 9, 3, 2)...)
	has(t, h, items(1, 9, 3, 2, 3, 7)...)
	tells(t, h.UpTo(3), items(1, 9, 3, 2, 3, 7)...)
	has(t, h)
}

// P3.1
func TestAnEmptyHeap(t *testing.T) {
	for _, h := range []*Heap{New(), New(nil...), New([]Item{}...), New().Copy()} {
		empties(t, h)
		push(t, h)
		push(t, h, []Item{}...)
		empties(t, h)
		tells(t, h.UpTo(math.MaxInt))
		push(t, h, Item{})
		empties(t, h, Item{})
		push(t, h, Item{4, 2})
		has(t, h, Item{4, 2})
	}
}

// P3.1: the same item more than once is there as often.
func TestTheSameItemMoreThanOnce(t *testing.T) {
	h := New(items(2, 2, 1, 1, 2, 2)...)
	push(t, h, items(1, 1, 2, 2, 3, 3, 1, 1)...)
	push(t, h, items(3, 3)...)
	empties(t, h, items(1, 1, 1, 1, 1, 1, 2, 2, 2, 2, 2, 2, 3, 3, 3, 3)...)
}

// P3.1: by key first, by value next, not by how they came.
func TestItemsOfOneKey(t *testing.T) {
	h := New(items(5, 3, 5, 1, 5, 2)...)
	push(t, h, items(5, -1, 4, 9, 5, 0, 6, -9)...)
	empties(t, h, items(4, 9, 5, -1, 5, 0, 5, 1, 5, 2, 5, 3, 6, -9)...)
}

// P3.1: keys and values at both ends of their range.
func TestEndsOfTheRange(t *testing.T) {
	var all []Item
	for _, key := range ends {
		for _, val := range ends {
			all = append(all, Item{key, val})
		}
	}
	back := slices.Clone(all)
	slices.Reverse(back)
	h := New(back...)
	has(t, h, all...)
	push(t, h, back...)
	twice := ordered(slices.Concat(all, all))
	empties(t, h.Copy(), twice...)
	for i, key := range ends {
		c := h.Copy()
		tells(t, c.UpTo(key), twice[:2*len(ends)*(i+1)]...)
		empties(t, c, twice[2*len(ends)*(i+1):]...)
	}
}

// P3.1, P3.4: each order of up to seven items, put at once, one by one, or some and some.
func TestEachOrderOfAFewItems(t *testing.T) {
	full := items(1, 1, 1, 1, 1, 2, 2, 1, 3, 0, 3, 0, 4, 4)
	var each func(begin, rest []Item)
	each = func(begin, rest []Item) {
		if len(rest) == 0 {
			one := New()
			for _, item := range begin {
				push(t, one, item)
			}
			some := New(begin[:len(begin)/2]...)
			push(t, some, begin[len(begin)/2:]...)
			for _, h := range []*Heap{New(begin...), one, some} {
				for _, item := range full[:len(begin)] {
					if got, ok := h.Pop(); got != item || !ok {
						t.Fatal(begin, got, ok, item)
					}
				}
			}
		}
		for i := range rest {
			each(append(slices.Clone(begin), rest[i]), slices.Concat(rest[:i], rest[i+1:]))
		}
	}
	for n := range len(full) + 1 {
		each(nil, full[:n])
	}
}

// P3.1, R3: neither what was given, nor what was answered, is the heap's.
func TestAHeapIsItsOwn(t *testing.T) {
	given := items(3, 3, 1, 1, 2, 2)
	h := New(given...)
	if !slices.Equal(given, items(3, 3, 1, 1, 2, 2)) {
		t.Error(given)
	}
	clear(given)
	has(t, h, items(1, 1, 2, 2, 3, 3)...)
	more := items(5, 5, 0, 0, 4, 4, 9, 9)[:3]
	push(t, h, more...)
	if !slices.Equal(more[:4], items(5, 5, 0, 0, 4, 4, 9, 9)) {
		t.Error(more)
	}
	clear(more)
	want := items(0, 0, 1, 1, 2, 2, 3, 3, 4, 4, 5, 5)
	has(t, h, want...)
	got := h.Items()
	clear(got)
	_ = append(got[:0], items(7, 7, 7, 7)...)
	has(t, h, want...)
	got = h.Items()
	h.Pop()
	push(t, h, items(-1, -1)...)
	if !slices.Equal(got, want) {
		t.Error(got)
	}
}

// P3.1, R3: a list with room behind what is given keeps what stands there.
func TestAGivenListKeepsItsRoom(t *testing.T) {
	given := items(1, 1, 2, 2, 3, 3)
	h := New(given[:1]...)
	push(t, h, given[2])
	push(t, h, given[:1]...)
	push(t, h, given[2])
	if !slices.Equal(given, items(1, 1, 2, 2, 3, 3)) {
		t.Error(given)
	}
	empties(t, h, items(1, 1, 1, 1, 3, 3, 3, 3)...)
}

// P3.2: a key below all, between, at some, above all.
func TestUpTo(t *testing.T) {
	all := items(-2, 5, 1, 0, 1, 8, 4, 4, 4, 4, 7, -1)
	for _, c := range []struct{ key, told int }{
		{math.MinInt, 0}, {-3, 0}, {-2, 1}, {-1, 1}, {0, 1}, {1, 3}, {2, 3}, {3, 3}, {4, 5}, {5, 5}, {6, 5}, {7, 6}, {8, 6}, {math.MaxInt, 6},
	} {
		h := New(all[3], all[5], all[2], all[0], all[4], all[1])
		seq := h.UpTo(c.key)
		has(t, h, all...)
		tells(t, seq, all[:c.told]...)
		has(t, h, all[c.told:]...)
		tells(t, seq)
		tells(t, h.UpTo(c.key))
		empties(t, h, all[c.told:]...)
	}
}

// P3.2: what was told is gone, the last one, too, and what was not told stays.
func TestUpToThatIsLeftOnTheWay(t *testing.T) {
	all := items(1, 1, 1, 2, 2, 0, 3, 3, 3, 4, 9, 9)
	for wanted := 1; wanted <= 5; wanted++ {
		h := New(all...)
		var got []Item
		h.UpTo(3)(func(item Item) bool {
			got = append(got, item)
			has(t, h, all[len(got):]...) // it is there no more when it is told
			return len(got) < wanted
		})
		if !slices.Equal(got, all[:wanted]) {
			t.Error(wanted, got)
		}
		has(t, h, all[wanted:]...)
		tells(t, h.UpTo(3), all[wanted:5]...)
		has(t, h, all[5])
	}
}

// P3.2: what is pushed on the way is told where it stands: ahead of what is to come, among it, or behind; what is above the key stays.
func TestPushInTheMidstOfUpTo(t *testing.T) {
	h := New(items(2, 2, 4, 4)...)
	var got []Item
	for item := range h.UpTo(6) {
		got = append(got, item)
		switch len(got) {
		case 1:
			push(t, h, items(6, 1, 3, 3, 1, 1, 7, 0)...) // one ahead of what was told, one among what is to come, one behind, one above the key
		case 3:
			push(t, h, items(4, 3, 4, 5, 6, 0)...)
		case 8:
			push(t, h, items(6, 2, 6, 1, -9, 9, 6, 0)...)
		}
	}
	if want := items(2, 2, 1, 1, 3, 3, 4, 3, 4, 4, 4, 5, 6, 0, 6, 1, -9, 9, 6, 0, 6, 1, 6, 2); !slices.Equal(got, want) {
		t.Error(got, want)
	}
	empties(t, h, items(7, 0)...)
}

// P3.2: it goes on for as long as what is pushed stands up to the key.
func TestPushAtEachStepOfUpTo(t *testing.T) {
	h := New(Item{0, 0})
	var got []Item
	for item := range h.UpTo(50) {
		got = append(got, item)
		push(t, h, Item{item.Key + 1, -item.Key})
	}
	if len(got) != 51 || got[50] != (Item{50, -49}) {
		t.Error(got)
	}
	has(t, h, Item{51, -50})
}

// P3.2: what is popped on the way, by a call or by one that goes within the other, is not told.
func TestPopInTheMidstOfUpTo(t *testing.T) {
	h := New(items(1, 1, 2, 2, 3, 3, 4, 4, 5, 5, 6, 6)...)
	var got []Item
	for item := range h.UpTo(5) {
		got = append(got, item)
		switch item.Key {
		case 1:
			if popped, ok := h.Pop(); popped != (Item{2, 2}) || !ok {
				t.Error(popped, ok)
			}
		case 3:
			tells(t, h.UpTo(4), items(4, 4)...)
		case 5:
			tells(t, h.UpTo(9), items(6, 6)...)
		}
	}
	if !slices.Equal(got, items(1, 1, 3, 3, 5, 5)) {
		t.Error(got)
	}
	has(t, h)
}

// P3.2: it asks when it is gone through, not when it is made; each time anew.
func TestUpToAsksWhenItIsGoneThrough(t *testing.T) {
	h := New()
	seq := h.UpTo(5)
	tells(t, seq)
	push(t, h, items(6, 6, 5, 5, 1, 1)...)
	tells(t, seq, items(1, 1, 5, 5)...)
	tells(t, seq)
	push(t, h, items(2, 2, 7, 7)...)
	tells(t, seq, items(2, 2)...)
	has(t, h, items(6, 6, 7, 7)...)
}

// P3.2: each is changed apart from the other.
func TestCopy(t *testing.T) {
	h := New(items(3, 3, 1, 1, 2, 2, 1, 1)...)
	c := h.Copy()
	has(t, c, items(1, 1, 1, 1, 2, 2, 3, 3)...)
	h.Pop()
	has(t, c, items(1, 1, 1, 1, 2, 2, 3, 3)...)
	push(t, h, items(0, 0, 0, 1)...)
	has(t, c, items(1, 1, 1, 1, 2, 2, 3, 3)...)
	push(t, c, items(-5, 5)...)
	tells(t, c.UpTo(1), items(-5, 5, 1, 1, 1, 1)...)
	has(t, h, items(0, 0, 0, 1, 1, 1, 2, 2, 3, 3)...)
	has(t, c, items(2, 2, 3, 3)...)
	again := c.Copy().Copy()
	empties(t, c, items(2, 2, 3, 3)...)
	empties(t, h, items(0, 0, 0, 1, 1, 1, 2, 2, 3, 3)...)
	empties(t, again, items(2, 2, 3, 3)...)
}

// P3.2: a copy that is made on the way has what was not told.
func TestCopyInTheMidstOfUpTo(t *testing.T) {
	h := New(items(1, 1, 2, 2, 3, 3)...)
	var c *Heap
	for item := range h.UpTo(3) {
		if item.Key == 1 {
			c = h.Copy()
			push(t, c, items(0, 0)...)
		}
	}
	has(t, h)
	empties(t, c, items(0, 0, 2, 2, 3, 3)...)
}

// P3.3
func TestOfNoHeap(t *testing.T) {
	h := New(items(1, 1, 2, 2)...)
	copied, empty := *h, *New()
	for i, none := range []*Heap{nil, {}, new(Heap), &copied, &empty} {
		if e := none.Push(); e != api.ErrNil {
			t.Error(i, e)
		}
		if e := none.Push(items(0, 0, 3, 3)...); e != api.ErrNil {
			t.Error(i, e)
		}
		if got, ok := none.First(); got != (Item{}) || ok {
			t.Error(i, got, ok)
		}
		if got, ok := none.Pop(); got != (Item{}) || ok {
			t.Error(i, got, ok)
		}
		if n := none.Len(); n != 0 {
			t.Error(i, n)
		}
		if got := none.Items(); got != nil {
			t.Error(i, got)
		}
		for _, key := range ends {
			tells(t, none.UpTo(key))
		}
		c := none.Copy()
		if c != nil || c.Push(items(1, 1)...) != api.ErrNil {
			t.Error(i, c)
		}
		tells(t, c.UpTo(math.MaxInt))
	}
	has(t, h, items(1, 1, 2, 2)...)
	push(t, h, items(0, 0)...)
	empties(t, h, items(0, 0, 1, 1, 2, 2)...)
}

// P3.3: one that is overwritten on the way is no heap any more.
func TestAHeapThatIsOverwritten(t *testing.T) {
	h := New(items(1, 1, 2, 2)...)
	seq := h.UpTo(2)
	var got []Item
	for item := range seq {
		got = append(got, item)
		*h = Heap{}
	}
	if !slices.Equal(got, items(1, 1)) {
		t.Error(got)
	}
	tells(t, seq)
}

// P3.4: popped, they come in order, each as often as it was pushed, of many.
func TestManyItems(t *testing.T) {
	next := chance(1)
	for n := range 70 {
		put := someItems(next, n)
		h := New(put[:n/3]...)
		push(t, h, put[n/3:]...)
		empties(t, h, ordered(put)...)
	}
	rising := make([]Item, 20000)
	for i := range rising {
		rising[i] = Item{i / 3, i % 3}
	}
	falling := slices.Clone(rising)
	slices.Reverse(falling)
	for _, put := range [][]Item{rising, falling} {
		h := New()
		push(t, h, put...)
		tells(t, h.Copy().UpTo(math.MaxInt), rising...)
		tells(t, New(put...).UpTo(math.MaxInt), rising...)
		has(t, h, rising...)
	}
}

// P3.1, P3.2, P3.4: against a list in which each item is put where it stands.
func TestAgainstAList(t *testing.T) {
	next := chance(7)
	h, list := New(), []Item(nil)
	for range 3000 {
		switch next(5) {
		case 0, 1:
			put := someItems(next, next(4))
			push(t, h, put...)
			list = ordered(append(list, put...))
		case 2:
			got, ok := h.Pop()
			if len(list) == 0 && (ok || got != Item{}) || len(list) > 0 && (!ok || got != list[0]) {
				t.Fatal(got, ok, list)
			}
			list = list[min(1, len(list)):]
		case 3:
			key := next(9) - 6
			n := 0
			for n < len(list) && list[n].Key <= key {
				n++
			}
			tells(t, h.UpTo(key), list[:n]...)
			list = list[n:]
		case 4:
			h = h.Copy()
		}
		has(t, h, list...)
	}
}

// P3.4, P5: a heap that was great and is small keeps no great room, and goes on.
func TestAHeapGivesBackItsRoom(t *testing.T) {
	h := New()
	for i := range 10000 {
		push(t, h, Item{i, i})
	}
	for i := range 9990 {
		if got, ok := h.Pop(); got != (Item{i, i}) || !ok {
			t.Fatal(i, got, ok)
		}
	}
	if cap(h.items) > 64 {
		t.Error(cap(h.items))
	}
	tells(t, h.UpTo(9998), h.Items()[:9]...)
	push(t, h, items(1, 1)...)
	empties(t, h, items(1, 1, 9999, 9999)...)
}
