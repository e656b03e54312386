package expr

import (
	"iter"

	"kinescope/api"
)

// spot is a part of a right expression, and how it stands where a word is walked.
type spot struct {
	kind  api.ExprKind
	label string
	size  int  // how many spots it and the parts of its kids are, which stand behind it
	empty bool // whether it takes the empty word
	ends  bool // whether labels that it takes may end at the place to which the word was walked
}

// spotsOf are an expression's parts, from the left, each ahead of its kids.
func spotsOf(x api.Expr) []spot {
	var spots []spot
	for part := range partsOf(x) {
		spots = append(spots, spot{kind: part.Kind, label: part.Label, size: Size(part), empty: isEmpty(part)})
	}
	return spots
}

// kidsOf goes through the kids of the first spot, each with the spots of its own kids behind it.
func kidsOf(spots []spot) iter.Seq[[]spot] {
	return func(yield func([]spot) bool) {
		for left := spots[1:]; len(left) > 0; left = left[left[0].size:] {
			if !yield(left[:left[0].size]) {
				return
			}
		}
	}
}

// step walks over a label, with which what the first spot takes begins or not, and says whether it may end behind it.
// What may end ahead of the label is what all spots say until they are walked themselves.
func step(spots []spot, label string, begins bool) bool {
	whole := &spots[0]
	switch whole.kind {
	case api.ExprLabel:
		whole.ends = begins && whole.label == label
	case api.ExprSeq:
		whole.ends = stepRow(kidsOf(spots), label, begins)
	case api.ExprAlt, api.ExprOpt:
		whole.ends = false
		for kid := range kidsOf(spots) {
			ends := step(kid, label, begins)
			whole.ends = whole.ends || ends
		}
	case api.ExprStar, api.ExprPlus:
		kid := spots[1:]
		whole.ends = step(kid, label, begins || kid[0].ends)
	}
	return whole.ends
}

// stepRow walks likewise over a label with kids of which each takes what comes behind those ahead.
func stepRow(kids iter.Seq[[]spot], label string, begins bool) bool {
	ends := false
	for kid := range kids {
		next := kid[0].ends || begins && kid[0].empty
		ends = step(kid, label, begins) || ends && kid[0].empty
		begins = next
	}
	return ends
}
