package span

import (
	"math"

	"onair/api"
)

// membership says which of two lists contain an integer.
type membership struct {
	first  bool
	second bool
}

func (m membership) either() bool {
	return m.first || m.second
}

func (m membership) both() bool {
	return m.first && m.second
}

func (m membership) onlyFirst() bool {
	return m.first && !m.second
}

// piece is a span of integers that all have the same membership.
type piece struct {
	api.Span
	membership
}

// look reports whether a valid list that contains no integer before x contains x, and up to where the integers from x on are like it.
func look(l []api.Span, x int) (bool, int) {
	switch {
	case len(l) == 0:
		return false, math.MaxInt
	case l[0].From > x:
		return false, l[0].From
	}
	return true, l[0].To
}

// drop returns a valid list without its first span if that one ends at x.
func drop(l []api.Span, x int) []api.Span {
	if len(l) > 0 && l[0].To == x {
		return l[1:]
	}
	return l
}

// pieces yields the pieces of two valid lists in ascending order, from the smallest integer up to the last one that is in a list.
func pieces(a, b []api.Span) func(yield func(piece) bool) {
	return func(yield func(piece) bool) {
		begin, restA, restB := math.MinInt, a, b
		for len(restA) > 0 || len(restB) > 0 {
			first, firstEnd := look(restA, begin)
			second, secondEnd := look(restB, begin)
			end := min(firstEnd, secondEnd)
			if !yield(piece{api.Span{From: begin, To: end}, membership{first, second}}) {
				return
			}
			begin, restA, restB = end, drop(restA, end), drop(restB, end)
		}
	}
}

// combine returns the valid list that contains the integers whose membership in a and b is wanted.
func combine(a, b []api.Span, wanted func(membership) bool) []api.Span {
	var kept []api.Span
	for p := range pieces(normal(a), normal(b)) {
		if wanted(p.membership) {
			kept = join(kept, p.Span)
		}
	}
	return kept
}

// Union returns the valid list that contains the integers that are contained in a or b.
func Union(a []api.Span, b []api.Span) []api.Span {
	return combine(a, b, membership.either)
}

// Intersect returns the valid list that contains the integers that are contained in both a and b.
func Intersect(a []api.Span, b []api.Span) []api.Span {
	return combine(a, b, membership.both)
}

// Subtract returns the valid list that contains the integers that are contained in a, but not in b.
func Subtract(a []api.Span, b []api.Span) []api.Span {
	return combine(a, b, membership.onlyFirst)
}
