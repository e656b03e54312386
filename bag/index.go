package bag

import (
	"cmp"
	"iter"
	"maps"
	"slices"
	"strings"
)

// sorted is things by what they are found by, which is the order in which they are gone through.
type sorted[K cmp.Ordered, T any] map[K]T

// rising goes through all, as they are there when it begins.
func (s sorted[K, T]) rising() iter.Seq2[K, T] {
	return func(yield func(K, T) bool) {
		things := maps.Clone(s)
		for _, k := range slices.Sorted(maps.Keys(things)) {
			if !yield(k, things[k]) {
				return
			}
		}
	}
}

// stay is until when an entry is there, and the number by which it is found.
type stay struct{ end, number int }

// row is a key with what stands under it, by values.
type row struct {
	key   string
	stays sorted[int, stay]
}

// place is where an entry stands.
type place struct {
	key string
	val int
}

// index is entries by their places, and by numbers: an entry has a new number each time that it is set.
type index struct {
	rows   sorted[string, row]
	places map[int]place
	last   int // the number that was given last; none is given twice
}

// newIndex is an empty index.
func newIndex() index {
	return index{rows: sorted[string, row]{}, places: map[int]place{}}
}

// size is how many entries there are.
func (x *index) size() int { return len(x.places) }

// find is what stands at a place.
func (x *index) find(key string, val int) (stay, bool) {
	found, there := x.rows[key].stays[val]
	return found, there
}

// at is where the entry of a number stands.
func (x *index) at(number int) (place, bool) {
	found, there := x.places[number]
	return found, there
}

// values goes through what stands under a key.
func (x *index) values(key string) iter.Seq2[int, stay] { return x.rows[key].stays.rising() }

// set lets an entry stay at a place until an end, and answers its number.
func (x *index) set(key string, val, end int) int {
	row := x.open(key)
	delete(x.places, row.stays[val].number)
	x.last++
	row.stays[val] = stay{end, x.last}
	x.places[x.last] = place{row.key, val}
	return x.last
}

// open is the row of a key, a new one if there is none.
func (x *index) open(key string) row {
	found, there := x.rows[key]
	if !there {
		// A key may be a piece of a far longer text, all of which would be kept with it.
		found = row{key: strings.Clone(key), stays: sorted[int, stay]{}}
		x.rows[found.key] = found
	}
	return found
}

// remove takes the entry at a place away, if there is one.
func (x *index) remove(key string, val int) bool {
	found, there := x.find(key, val)
	if !there {
		return false
	}
	delete(x.places, found.number)
	delete(x.rows[key].stays, val)
	if len(x.rows[key].stays) == 0 {
		delete(x.rows, key)
	}
	return true
}
