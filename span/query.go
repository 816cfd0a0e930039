package span

import (
	"slices"

	"onair/api"
)

// Has reports whether l contains x.
func Has(l []api.Span, x int) bool {
	return slices.ContainsFunc(l, func(s api.Span) bool { return s.From <= x && x < s.To })
}

// Covers reports whether l contains all integers that s contains.
func Covers(l []api.Span, s api.Span) bool {
	if isEmpty(s) {
		return true
	}
search:
	for _, t := range normal(l) {
		switch {
		case t.From > s.From:
			break search
		case t.To >= s.To:
			return true
		}
	}
	return false
}

// Earliest returns the smallest integer from at on from which l contains n integers in a row, and whether there is one.
func Earliest(l []api.Span, at int, n int) (int, bool) {
	if n <= 0 {
		return at, true
	}
	for _, s := range normal(l) {
		rest := api.Span{From: max(s.From, at), To: s.To}
		if !isEmpty(rest) && size(rest) >= uint(n) {
			return rest.From, true
		}
	}
	return 0, false
}

// Total returns the number of integers that l contains, but at most MaxInt.
func Total(l []api.Span) int {
	total := uint(0)
	for _, s := range normal(l) {
		total += size(s)
	}
	// The sum did not overflow, as no integer was counted twice.
	return int(min(total, api.MaxInt))
}
