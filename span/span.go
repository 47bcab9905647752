// Package span is stretches of time. See ../../shared/doc/01-span.md.
package span

import (
	"cmp"
	"slices"

	"regesta/api"
)

// Right tells whether a span has points, within the limits.
func Right(s api.Span) bool {
	return api.Least <= s.From && s.From < s.To && s.To <= api.Most
}

// Has tells whether a point is within; Overlaps whether two have a point together; Meets whether one ends where the other one begins.
func Has(s api.Span, p int) bool {
	return Right(s) && s.From <= p && p < s.To
}

func Overlaps(a, b api.Span) bool {
	_, ok := Both(a, b)
	return ok
}

func Meets(a, b api.Span) bool {
	return Right(a) && Right(b) && a.To == b.From
}

// Both are the points of both; Minus those of one that are not the other one's.
func Both(a, b api.Span) (api.Span, bool) {
	// Wrong spans may well have a right piece between them (-2000 to 5 and 0 to 2000 have 0 to 5), so each is asked by itself.
	if !Right(a) || !Right(b) {
		return api.Span{}, false
	}
	both := api.Span{From: max(a.From, b.From), To: min(a.To, b.To)}
	if !Right(both) {
		return api.Span{}, false
	}
	return both, true
}

func Minus(a, b api.Span) []api.Span {
	if !Right(a) {
		return nil
	}
	both, ok := Both(a, b)
	if !ok {
		return []api.Span{a}
	}
	return addPiece(addPiece(nil, a.From, both.From), both.To, a.To)
}

// Join are the points of all, as few spans; Gaps those of a span that none has; Covers tells whether there are none.
func Join(l []api.Span) []api.Span {
	var joined []api.Span
	rising := byStart(l)
	for i := range len(rising) {
		s := rising[i]
		last := len(joined) - 1
		if last >= 0 && s.From <= joined[last].To {
			joined[last].To = max(joined[last].To, s.To)
		} else {
			joined = append(joined, s)
		}
	}
	return joined
}

func Gaps(l []api.Span, s api.Span) []api.Span {
	if !Right(s) {
		return nil
	}
	var gaps []api.Span
	from := s.From
	joined := Join(l)
	for i := range len(joined) {
		both, ok := Both(joined[i], s)
		if !ok {
			continue
		}
		gaps = addPiece(gaps, from, both.From)
		from = both.To
	}
	return addPiece(gaps, from, s.To)
}

func Covers(l []api.Span, s api.Span) bool {
	// Joined spans do not touch, so a span without gaps lies in one of them whole.
	joined := Join(l)
	for i := range len(joined) {
		if both, ok := Both(joined[i], s); ok && both == s {
			return true
		}
	}
	return false
}

// Cut is a span, cut at points; Count how many points all have.
func Cut(s api.Span, at []int) []api.Span {
	if !Right(s) {
		return nil
	}
	var pieces []api.Span
	from := s.From
	cuts := innerPoints(s, at)
	for i := range len(cuts) {
		pieces = addPiece(pieces, from, cuts[i])
		from = cuts[i]
	}
	return addPiece(pieces, from, s.To)
}

func Count(l []api.Span) int {
	count := 0
	joined := Join(l)
	for i := range len(joined) {
		count += joined[i].To - joined[i].From
	}
	return count
}

// Apart tells whether no two have a point together.
func Apart(l []api.Span) bool {
	// If any two overlap, some neighbours by start do, so neighbours are enough.
	rising := byStart(l)
	for i := range len(rising) {
		if i > 0 && Overlaps(rising[i-1], rising[i]) {
			return false
		}
	}
	return true
}

// byStart is a new list, so that sorting leaves the caller's as it is. Wrong spans have no points, and fall out here for all who ask.
func byStart(l []api.Span) []api.Span {
	var rising []api.Span
	for i := range len(l) {
		if Right(l[i]) {
			rising = append(rising, l[i])
		}
	}
	slices.SortFunc(rising, func(a, b api.Span) int {
		return cmp.Compare(a.From, b.From)
	})
	return rising
}

// innerPoints leaves out the ends of s: a cut there would make a piece without points.
func innerPoints(s api.Span, at []int) []int {
	var inner []int
	for i := range len(at) {
		if Has(s, at[i]) && at[i] != s.From {
			inner = append(inner, at[i])
		}
	}
	slices.Sort(inner)
	return inner
}

// addPiece passes over pieces without points, so that callers need not tell whether there is anything between two places.
func addPiece(l []api.Span, from, to int) []api.Span {
	if from >= to {
		return l
	}
	return append(l, api.Span{From: from, To: to})
}
