package calendar_test

import (
	"math"
	"math/rand"
	"slices"
	"testing"

	"onair/api"
	"onair/calendar"
)

// inWindow reports whether a second of the day lies in a daily window, as the chapter defines it.
func inWindow(second, from, to int) bool {
	if from < to {
		return second >= from && second < to
	}
	if from > to {
		return second >= from || second < to
	}
	return true
}

// windows contains daily windows as pairs of seconds of the day.
var windows = [][2]int{{0, 0}, {0, 1}, {1, 0}, {0, 86399}, {86399, 0}, {86399, 86399}, {43200, 43200}, {79200, 18000}, {18000, 79200}, {10000, 11000}, {11000, 10000}, {86398, 86399}, {86399, 86398}, {0, 3600}, {3600, 0}}

// secondsOf returns the seconds of a list of spans, and whether the list is ascending, without empty spans and spans that touch or overlap.
func secondsOf(l []api.Span) (map[int]bool, bool) {
	all := map[int]bool{}
	for i, s := range l {
		if s.From >= s.To || i > 0 && s.From <= l[i-1].To {
			return nil, false
		}
		for x := s.From; x < s.To; x++ {
			all[x] = true
		}
	}
	return all, true
}

// wanted returns the spans of the seconds of s that lie in a daily window, found one by one.
func wanted(z api.Zone, s api.Span, from, to int) []api.Span {
	var l []api.Span
	open := false
	for x := s.From; x < s.To; x++ {
		in := false
		if x >= 0 && x <= api.MaxSecond {
			_, second := localDay(z, x)
			in = inWindow(second, from, to)
		}
		if in && !open {
			l = append(l, api.Span{From: x})
		}
		if in {
			l[len(l)-1].To = x + 1
		}
		open = in
	}
	return l
}

// P4.1: the chapter's examples of windows, and their ends.
func TestWithinExamples(t *testing.T) {
	for _, c := range []struct {
		second, from, to int
		want             bool
	}{
		{90000, 10000, 11000, true}, {90000, 79200, 18000, true}, {90000, 10800, 10801, true}, {90000, 10799, 10800, false}, {90000, 10801, 11000, false},
		{90000, 10801, 10800, false}, {90000, 10800, 10799, true}, {90000, 11000, 10801, true}, {90000, 10801, 10801, true}, {90000, 0, 86399, true},
		{82799, 0, 86399, false}, {82799, 86399, 0, true}, {82800, 86399, 0, false}, {82800, 86399, 1, true},
	} {
		if in := calendar.Within(example, c.second, c.from, c.to); in != c.want {
			t.Errorf("Within(%d, %d, %d) = %t", c.second, c.from, c.to, in)
		}
	}
}

// P4.1: Within is what the chapter defines.
func TestWithin(t *testing.T) {
	for _, z := range zones() {
		for _, s := range samples(z) {
			_, second := localDay(z, s)
			all := append([][2]int{{second, 100}, {100, second}}, windows...)
			if second < 86399 {
				all = append(all, [2]int{second, second + 1}, [2]int{second + 1, second})
			}
			for _, w := range all {
				if in := calendar.Within(z, s, w[0], w[1]); in != inWindow(second, w[0], w[1]) {
					t.Fatalf("Within(%v, %d, %d, %d) = %t", z, s, w[0], w[1], in)
				}
			}
		}
	}
}

// P4.1: integers that are no seconds of universal time belong to no window, and windows whose ends are no seconds of the day contain nothing.
func TestNoWindows(t *testing.T) {
	for _, z := range zones() {
		for _, s := range outside {
			for _, w := range windows {
				if calendar.Within(z, s, w[0], w[1]) {
					t.Errorf("Within(%v, %d, %d, %d) is true", z, s, w[0], w[1])
				}
			}
		}
		for _, n := range notOfDay {
			for _, other := range []int{0, 50000, n} {
				if calendar.Within(z, 90000, n, other) || calendar.Within(z, 90000, other, n) {
					t.Errorf("Within(%v, 90000) is true for %d and %d", z, n, other)
				}
				s := api.Span{From: 0, To: 200000}
				if a, b := calendar.Spans(z, s, n, other), calendar.Spans(z, s, other, n); len(a) != 0 || len(b) != 0 {
					t.Errorf("Spans(%v, %v) = %v, %v for %d and %d", z, s, a, b, n, other)
				}
			}
		}
	}
}

// P4.1: the chapter's example of Spans, spans cut off at both ends, and windows over midnight and shifts, which are joined.
func TestSpansExamples(t *testing.T) {
	for _, c := range []struct {
		span     api.Span
		from, to int
		want     []api.Span
	}{
		{api.Span{From: 80000, To: 95000}, 0, 3600, []api.Span{{From: 82800, To: 86400}}},
		{api.Span{From: 83000, To: 84000}, 0, 3600, []api.Span{{From: 83000, To: 84000}}},
		{api.Span{From: 82000, To: 83000}, 86000, 100, []api.Span{{From: 82400, To: 82900}}},
		{api.Span{From: 85000, To: 95000}, 7000, 11000, []api.Span{{From: 89800, To: 90200}}},
		{api.Span{From: 85000, To: 95000}, 7200, 10800, nil},
		{api.Span{From: 190000, To: 210000}, 30800, 34400, []api.Span{{From: 196400, To: 203600}}},
		{api.Span{From: 190000, To: 210000}, 30000, 32000, []api.Span{{From: 195600, To: 197600}, {From: 200000, To: 201200}}},
		{api.Span{From: 0, To: 300000}, 500, 500, []api.Span{{From: 0, To: 300000}}},
		{api.Span{From: 0, To: 300000}, 3599, 3600, []api.Span{{From: 86399, To: 86400}, {From: 169199, To: 169200}, {From: 259199, To: 259200}}},
		{api.Span{From: -1000, To: 10}, 3600, 3605, []api.Span{{From: 0, To: 5}}},
		{api.Span{From: -1000, To: 1}, 0, 0, []api.Span{{From: 0, To: 1}}},
		{api.Span{From: -1000, To: 0}, 0, 0, nil},
		{api.Span{From: api.MaxSecond, To: api.MaxSecond + 100}, 0, 0, []api.Span{{From: api.MaxSecond, To: api.MaxSecond + 1}}},
		{api.Span{From: api.MaxSecond + 1, To: api.MaxSecond + 100}, 0, 0, nil},
		{api.Span{From: 7, To: 7}, 0, 0, nil},
		{api.Span{From: 8, To: 7}, 0, 0, nil},
		{api.Span{From: 90000, To: 80000}, 0, 0, nil},
	} {
		if l := calendar.Spans(example, c.span, c.from, c.to); !slices.Equal(l, c.want) {
			t.Errorf("Spans(%v, %d, %d) = %v, want %v", c.span, c.from, c.to, l, c.want)
		}
	}
}

// P4.1: a span of 1000000 integers is searched, a longer one is not, wherever it lies.
func TestSpansLimit(t *testing.T) {
	for _, c := range []struct {
		from, to int
		want     []api.Span
	}{
		{0, 1000000, []api.Span{{From: 0, To: 1000000}}}, {0, 1000001, nil}, {5000, 1005000, []api.Span{{From: 5000, To: 1005000}}}, {5000, 1005001, nil},
		{-999999, 1, []api.Span{{From: 0, To: 1}}}, {-1000000, 1, nil}, {-1, 999999, []api.Span{{From: 0, To: 999999}}}, {-1, 1000000, nil},
		{api.MaxSecond, api.MaxSecond + 1000000, []api.Span{{From: api.MaxSecond, To: api.MaxSecond + 1}}}, {api.MaxSecond, api.MaxSecond + 1000001, nil},
		{api.MaxSecond - 999999, api.MaxSecond + 1, []api.Span{{From: api.MaxSecond - 999999, To: api.MaxSecond + 1}}}, {api.MaxSecond - 1000000, api.MaxSecond + 1, nil},
		{0, math.MaxInt, nil}, {math.MinInt, 1, nil}, {math.MinInt, math.MaxInt, nil}, {-1, math.MaxInt, nil}, {math.MinInt, 1000000, nil}, {-5000000000000000000, 5000000000000000000, nil},
		{math.MaxInt - 5, math.MaxInt, nil}, {math.MinInt, math.MinInt + 5, nil}, {math.MaxInt, math.MinInt, nil}, {math.MaxInt, 0, nil}, {0, math.MinInt, nil}, {math.MaxInt, math.MinInt + 5, nil}, {1, math.MinInt, nil},
	} {
		for _, z := range zones() {
			if l := calendar.Spans(z, api.Span{From: c.from, To: c.to}, 0, 0); !slices.Equal(l, c.want) {
				t.Errorf("Spans(%v, %d to %d) = %v, want %v", z, c.from, c.to, l, c.want)
			}
		}
	}
}

// checkSpans checks Spans against the seconds of s one by one, and the window against its complement.
func checkSpans(t *testing.T, z api.Zone, s api.Span, from, to int) {
	l := calendar.Spans(z, s, from, to)
	if want := wanted(z, s, from, to); !slices.Equal(l, want) {
		t.Fatalf("Spans(%v, %v, %d, %d) = %v, want %v", z, s, from, to, l, want)
	}
	in, ok := secondsOf(l)
	if !ok {
		t.Fatalf("Spans(%v, %v, %d, %d) = %v is no list of spans", z, s, from, to, l)
	}
	out, ok := secondsOf(calendar.Spans(z, s, to, from))
	for x := s.From; x < s.To; x++ {
		belongs := x >= 0 && x <= api.MaxSecond
		if in[x] != calendar.Within(z, x, from, to) || from != to && in[x] == out[x] && belongs || from == to && in[x] != belongs || out[x] && !belongs || !ok {
			t.Fatalf("Spans(%v, %v, %d, %d): %d is in the window: %t, in the complement: %t", z, s, from, to, x, in[x], out[x])
		}
	}
}

// P4.4: Spans contains exactly the seconds within the window, for short spans around shifts and the ends of time.
func TestSpans(t *testing.T) {
	r := rand.New(rand.NewSource(44))
	for _, z := range zones() {
		for _, s := range samples(z) {
			if r.Intn(8) > 0 {
				continue
			}
			span := api.Span{From: s - r.Intn(300), To: s + r.Intn(300)}
			_, second := localDay(z, s)
			near := (second + r.Intn(200) - 100 + 86400) % 86400
			for _, w := range [][2]int{{near, second}, {second, near}, {near, 0}, {r.Intn(86400), r.Intn(86400)}} {
				checkSpans(t, z, span, w[0], w[1])
			}
		}
	}
}

// P4.4: Spans contains exactly the seconds within the window, for spans of many days.
func TestLongSpans(t *testing.T) {
	r := rand.New(rand.NewSource(444))
	for _, z := range zones() {
		for _, w := range [][2]int{{79200, 18000}, {r.Intn(86400), r.Intn(86400)}} {
			from := r.Intn(200000) - 1000
			s := api.Span{From: from, To: from + 1000000}
			if l := calendar.Spans(z, s, w[0], w[1]); !slices.Equal(l, wanted(z, s, w[0], w[1])) {
				t.Fatalf("Spans(%v, %v, %d, %d) = %v", z, s, w[0], w[1], l)
			}
		}
	}
}
