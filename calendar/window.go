package calendar

import "onair/api"

// maxSpan is the greatest number of seconds among which Spans looks for a window.
const maxSpan = 1000000

// window is a daily window: it begins at a second of each local day, and takes a number of seconds, if need be beyond midnight.
type window struct {
	begin  int
	length int
}

// makeWindow returns the daily window from a second of the day to another one, and whether both are seconds of the day.
func makeWindow(from, to int) (window, bool) {
	if !isSecondOfDay(from) || !isSecondOfDay(to) {
		return window{}, false
	}
	length := rest(to - from)
	if length == 0 {
		length = api.Day
	}
	return window{begin: from, length: length}, true
}

// elapsed returns the number of seconds of local time since the window began last, which is also known if it has ended.
func (w window) elapsed(local int) int {
	return rest(local - w.begin)
}

// Within reports whether the second of the day at a second of universal time lies in the daily window from from to to.
func Within(z api.Zone, second int, from int, to int) bool {
	w, ok := makeWindow(from, to)
	if !ok || !Valid(z) || !isSecond(second) {
		return false
	}
	_, ofDay := Local(z, second)
	return w.elapsed(ofDay) < w.length
}

// isLong reports whether more than maxSpan integers lie in s. The difference of any two integers in ascending order is a uint.
func isLong(s api.Span) bool {
	return s.From < s.To && uint(s.To)-uint(s.From) > maxSpan
}

// Spans returns the seconds of s that lie in the daily window from from to to, as spans that neither overlap nor touch.
func Spans(z api.Zone, s api.Span, from int, to int) []api.Span {
	w, ok := makeWindow(from, to)
	if !ok || !Valid(z) || isLong(s) {
		return nil
	}
	var spans []api.Span
	add := func(begin, end int) {
		last := len(spans) - 1
		switch {
		case begin >= end:
		case last >= 0 && spans[last].To == begin:
			spans[last].To = end
		default:
			spans = append(spans, api.Span{From: begin, To: end})
		}
	}
search:
	for st := range stretches(z) {
		switch {
		case st.to <= s.From:
			continue search
		case st.from >= s.To:
			break search
		}
		begin, end := max(st.from, s.From), min(st.to, s.To)
		// The window that began last may still be open where the stretch begins.
		for opens := begin - w.elapsed(begin+st.offset); opens < end; opens += api.Day {
			add(max(opens, begin), min(opens+w.length, end))
		}
	}
	return spans
}
