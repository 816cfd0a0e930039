package permit

import (
	"onair/api"
	"onair/calendar"
	"onair/rights"
	"onair/span"
	"onair/timecode"
)

// maxFrames is the greatest number of frames that Spans and Allowed look at.
const maxFrames = 1000000

// restrictions yields the sets of seconds that restrict an item of a timed plan in a region: what its grants contain, and the seconds of s in the window of each watershed.
func restrictions(p api.Plan, it api.Item, region int, s api.Span) func(yield func([]api.Span) bool) {
	return func(yield func([]api.Span) bool) {
		if !yield(rights.Spans(p.Clauses, it.ID, region)) {
			return
		}
		for _, window := range rights.Watersheds(p.Clauses, it.Rating) {
			if !yield(calendar.Spans(p.Zone, s, window.From, window.To)) {
				return
			}
		}
	}
}

// clip returns the frame numbers of s, and whether there are any, but not too many of them.
func clip(s api.Span) (api.Span, bool) {
	frames := api.Span{From: max(s.From, 0), To: min(s.To, api.MaxFrame+1)}
	return frames, frames.From < frames.To && frames.To-frames.From <= maxFrames
}

// restricted returns those of some frames, at least one, at which an item of a timed plan that is not fill is permitted in a region.
func restricted(p api.Plan, it api.Item, region int, frames api.Span) []api.Span {
	s := api.Span{From: second(p, frames.From), To: second(p, frames.To-1) + 1}
	seconds := []api.Span{s}
	for set := range restrictions(p, it, region, s) {
		seconds = span.Intersect(seconds, set)
		if len(seconds) == 0 {
			break
		}
	}
	firstFrame := func(of int) int { return timecode.Frames(p.Rate, of-p.Epoch) }
	var permitted []api.Span
	for _, t := range seconds {
		permitted = append(permitted, api.Span{From: firstFrame(t.From), To: firstFrame(t.To)})
	}
	// The first and the last second may have more frames than those asked for.
	return span.Intersect(permitted, []api.Span{frames})
}

// Spans returns the frame numbers of s at which an item is permitted in a region.
func Spans(p api.Plan, item int, region int, s api.Span) []api.Span {
	it, ok := find(p, item)
	frames, some := clip(s)
	switch {
	case !ok || !some || !isRegion(region):
		return nil
	case it.Kind == api.KFill:
		return []api.Span{frames}
	case !isTimed(p):
		return nil
	}
	return restricted(p, it, region, frames)
}

// Allowed reports whether an item is permitted in a region at all of a number of frames from a frame on.
func Allowed(p api.Plan, item int, region int, frame int, frames int) bool {
	if !isFrame(frame) || frames < 1 || frames > maxFrames {
		return false
	}
	s := api.Span{From: frame, To: frame + frames}
	return span.Covers(Spans(p, item, region, s), s)
}
