// Package clock is layer 1, ticks that are counted safely: see shared/doc/01-clock.md.
package clock

import (
	"cmp"
	"iter"

	"kinescope/api"
)

// ahead is the watermark that lies ahead of all times.
const ahead = -1

// Is says whether a number is a time.
func Is(t int) bool { return within(0, api.MaxTime, t) }

// Mark says whether a number is a watermark.
func Mark(w int) bool { return within(ahead, api.MaxTime, w) }

// Add is a sum, if it is a watermark.
func Add(a, b int) (int, api.Errno) {
	// Both are asked ahead of the sum, which could wrap round otherwise.
	if !within(-api.MaxTime, api.MaxTime, a, b) || !Mark(a+b) {
		return 0, api.ErrTime
	}
	return a + b, api.OK
}

// Next is the first close above a watermark.
func Next(w, slide int) (int, api.Errno) {
	if !Mark(w) || !isSpan(slide) {
		return 0, api.ErrArg
	}
	next := (upTo(w, slide) + 1) * slide
	if !Is(next) {
		return 0, api.ErrTime
	}
	return next, api.OK
}

// Count is how many closes there are above one watermark, up to another one.
func Count(from, to, slide int) (int, api.Errno) {
	if !within(ahead, api.MaxTime, from, to) || !isSpan(slide) {
		return 0, api.ErrArg
	}
	return max(upTo(to, slide)-upTo(from, slide), 0), api.OK
}

// Closes goes through the closes above one watermark, up to another one, rising.
func Closes(from, to, slide int) iter.Seq[int] {
	// No error is asked here: beside one the count is 0, and where the count is not 0, there is a next one.
	n, _ := Count(from, to, slide)
	first, _ := Next(from, slide)
	return func(yield func(int) bool) {
		for i := range n {
			if !yield(first + i*slide) {
				return
			}
		}
	}
}

// Begin is the watermark above which the window of a close begins.
func Begin(c, r int) (int, api.Errno) {
	if !Is(c) || !isSpan(r) {
		return 0, api.ErrArg
	}
	return max(c-r, ahead), api.OK
}

// In says whether a time is in the window of a close.
func In(t, c, r int) bool {
	begin, e := Begin(c, r)
	// What is above a watermark, and at most a time, is a time.
	return e == api.OK && begin < t && t <= c
}

// isSpan says whether a number may be a window's range, or its slide.
func isSpan(n int) bool { return within(1, api.MaxWindow, n) }

// upTo is how many closes of a slide there are at most at a watermark.
func upTo(w, slide int) int {
	// 0 is no close: ahead of all times there are as many as up to it.
	return max(w, 0) / slide
}

// within says whether all numbers are at least low, and at most high.
func within[T cmp.Ordered](low, high T, numbers ...T) bool {
	for _, n := range numbers {
		if n < low || n > high {
			return false
		}
	}
	return true
}
