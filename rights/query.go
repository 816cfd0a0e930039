package rights

import (
	"slices"
	"sort"

	"onair/api"
	"onair/span"
)

func isRegion(n int) bool {
	return isFrom(n, 0, api.MaxRegions-1)
}

// contains reports whether a set of regions contains a region, which may be any integer.
func contains(regions, region int) bool {
	return isRegion(region) && regions>>region&1 == 1
}

// about yields the valid clauses of l that name an item and a region, in the order of l.
func about(l []api.Clause, item, region int) func(yield func(api.Clause) bool) {
	return func(yield func(api.Clause) bool) {
		for _, c := range l {
			if c.Item == item && contains(c.Regions, region) && Valid(c) && !yield(c) {
				return
			}
		}
	}
}

// change combines a window with a valid list. Only the spans that it overlaps or touches can change, and they are found by searching.
func change(l []api.Span, window api.Span, combine func(a, b []api.Span) []api.Span) []api.Span {
	first := sort.Search(len(l), func(i int) bool { return l[i].To >= window.From })
	end := sort.Search(len(l), func(i int) bool { return l[i].From > window.To })
	return slices.Replace(l, first, end, combine(l[first:end], []api.Span{window})...)
}

// Spans returns the seconds at which an item may be shown in a region.
func Spans(l []api.Clause, item int, region int) []api.Span {
	var granted []api.Span
	for c := range about(l, item, region) {
		window := api.Span{From: c.From, To: c.To}
		switch c.Kind {
		case api.CGrant:
			granted = change(granted, window, span.Union)
		case api.CWithdraw:
			granted = change(granted, window, span.Subtract)
		}
	}
	return granted
}

// last returns N of the last valid clause of a kind for an item and a region, or none if there is no such clause.
func last(l []api.Clause, kind, item, region, none int) int {
	n := none
	for c := range about(l, item, region) {
		if c.Kind == kind {
			n = c.N
		}
	}
	return n
}

// Runs returns how often an item may be shown in a region, or -1 if that is not limited.
func Runs(l []api.Clause, item int, region int) int {
	return last(l, api.CRuns, item, region, -1)
}

// Catchup returns for how many seconds an item may be shown on demand in a region after an airing.
func Catchup(l []api.Clause, item int, region int) int {
	return last(l, api.CCatchup, item, region, 0)
}

// Gap returns how many seconds apart the items of two sponsors are to be.
func Gap(l []api.Clause, a int, b int) int {
	gap := 0
	for _, c := range l {
		isPair := c.A == a && c.B == b || c.A == b && c.B == a
		if isPair && c.Kind == api.CCompete && Valid(c) {
			gap = max(gap, c.N)
		}
	}
	return gap
}

// Watersheds returns the seconds of the local day to which items with a rating are restricted, one span for each clause.
func Watersheds(l []api.Clause, rating int) []api.Span {
	var windows []api.Span
	for _, c := range l {
		if c.Kind == api.CWatershed && c.A <= rating && Valid(c) {
			windows = append(windows, api.Span{From: c.From, To: c.To})
		}
	}
	return windows
}
