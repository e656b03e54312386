package nfa

import (
	"iter"
	"math/bits"
	"slices"
)

// set is places, each a bit of its own: positions, and the begin.
type set uint32

// begin is the place where words begin: ahead of all positions, and none itself.
const begin = 0

// only is the set of one place alone.
func only(p int) set { return 1 << p }

// rising goes through a set's places.
func (s set) rising() iter.Seq[int] {
	return func(yield func(int) bool) {
		for left := s; left != 0; left &= left - 1 {
			if !yield(bits.TrailingZeros32(uint32(left))) {
				return
			}
		}
	}
}

// list is a set's places, rising.
func (s set) list() []int { return slices.Collect(s.rising()) }
