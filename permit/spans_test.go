package permit_test

import (
	"math"
	"math/rand"
	"slices"
	"testing"

	"onair/api"
	"onair/calendar"
	"onair/permit"
	"onair/rights"
	"onair/span"
)

// isOpen reports whether the watersheds of a timed plan permit an item with a rating at a second.
func isOpen(p api.Plan, rating, second int) bool {
	for _, w := range rights.Watersheds(p.Clauses, rating) {
		if !calendar.Within(p.Zone, second, w.From, w.To) {
			return false
		}
	}
	return true
}

// isPermitted reports whether an item is permitted in a region at a frame, as the chapter defines it.
func isPermitted(p api.Plan, item, region, frame int) bool {
	it, ok := itemOf(p, item)
	if !ok || region < 0 || region > 7 || frame < 0 || frame > 100000000 {
		return false
	}
	if it.Kind == api.KFill {
		return true
	}
	if !isTimed(p) {
		return false
	}
	second := p.Epoch + frame*p.Rate.Den/p.Rate.Num
	return span.Has(rights.Spans(p.Clauses, item, region), second) && isOpen(p, it.Rating, second)
}

// spansOf returns the frames of s at which a function is true, as a valid list.
func spansOf(s api.Span, isTrue func(frame int) bool) []api.Span {
	var l []api.Span
	for f := s.From; f < s.To; f++ {
		switch last := len(l) - 1; {
		case !isTrue(f):
		case last >= 0 && l[last].To == f:
			l[last].To++
		default:
			l = append(l, api.Span{From: f, To: f + 1})
		}
	}
	return l
}

// perSecond returns a function that computes one that is the same for all frames of a second once for each second from 0 on, and for other frames each time.
func perSecond(p api.Plan, isTrue func(frame int) bool) func(frame int) bool {
	known := map[int]bool{}
	return func(frame int) bool {
		if !isTimed(p) || frame < 0 || frame > api.MaxFrame {
			return isTrue(frame)
		}
		second := frame * p.Rate.Den / p.Rate.Num
		if _, ok := known[second]; !ok {
			known[second] = isTrue(frame)
		}
		return known[second]
	}
}

// pairs makes a list of spans of pairs of integers.
func pairs(l ...int) []api.Span {
	var out []api.Span
	for i := 0; i < len(l); i += 2 {
		out = append(out, api.Span{From: l[i], To: l[i+1]})
	}
	return out
}

// P7.1: the chapter's examples, windows of rights and of watersheds, and regions and items that are not there.
func TestSpansExamples(t *testing.T) {
	watershed := func(rating, from, to int) api.Clause {
		return api.Clause{Kind: api.CWatershed, A: rating, From: from, To: to}
	}
	withdraw := api.Clause{Kind: api.CWithdraw, Item: 12, From: 1012, To: 1013, Regions: 2}
	grant := api.Clause{Kind: api.CGrant, Item: 12, From: 0, To: 10000, Regions: all}
	for _, c := range []struct {
		p            api.Plan
		item, region int
		from, to     int
		want         []api.Span
	}{
		{example(), 12, 1, 0, 1000, pairs(250, 500)}, {example(), 13, 1, 0, 1000, nil}, {example(), 13, 0, 0, 1000, pairs(250, 500)}, {example(), 1, 5, 0, 10, pairs(0, 10)},
		{example(watershed(2, 1020, 21600)), 12, 0, 0, 1000, nil}, {example(watershed(3, 1020, 21600)), 12, 0, 0, 1000, pairs(250, 500)}, {example(watershed(1, 1020, 21600)), 12, 0, 0, 1000, nil}, {example(watershed(1, 1020, 21600)), 13, 0, 0, 1000, pairs(250, 500)}, {example(watershed(1, 1020, 21600)), 1, 0, 0, 1000, pairs(0, 1000)},
		{example(grant, watershed(2, 1020, 1080)), 12, 0, 0, 10000, pairs(500, 2000)}, {example(grant, watershed(2, 1080, 1020)), 12, 0, 0, 10000, pairs(0, 500, 2000, 10000)}, {example(grant, watershed(2, 1020, 1140), watershed(1, 1080, 21600)), 12, 0, 0, 10000, pairs(2000, 3500)}, {example(grant, watershed(2, 1020, 1080), watershed(1, 1080, 1140)), 12, 0, 0, 10000, nil},
		{example(withdraw), 12, 1, 0, 1000, pairs(250, 300, 325, 500)}, {example(withdraw), 12, 0, 0, 1000, pairs(250, 500)}, {example(withdraw), 12, 1, 299, 326, pairs(299, 300, 325, 326)}, {example(withdraw), 12, 1, 300, 325, nil}, {example(withdraw), 12, 1, 310, 340, pairs(325, 340)},
		{example(), 12, 1, 249, 251, pairs(250, 251)}, {example(), 12, 1, 250, 251, pairs(250, 251)}, {example(), 12, 1, 260, 270, pairs(260, 270)}, {example(), 12, 1, 499, 501, pairs(499, 500)}, {example(), 12, 1, 500, 501, nil}, {example(), 12, 1, 249, 250, nil},
		{example(), 12, 7, 0, 1000, pairs(250, 500)}, {example(), 12, 8, 0, 1000, nil}, {example(), 12, -1, 0, 1000, nil}, {example(), 12, 64, 0, 1000, nil}, {example(), 1, 7, 0, 10, pairs(0, 10)}, {example(), 1, 8, 0, 10, nil}, {example(), 1, -1, 0, 10, nil}, {example(), 1, math.MinInt, 0, 10, nil}, {example(), 1, math.MaxInt, 0, 10, nil},
		{example(), 14, 0, 0, 1000, nil}, {example(api.Clause{Kind: api.CGrant, Item: 14, From: 0, To: 9000, Regions: all}), 14, 0, 0, 1000, nil}, {example(), 0, 0, 0, 1000, nil}, {example(), -1, 0, 0, 1000, nil},
		{example(), 12, 0, 500, 500, nil}, {example(), 12, 0, 300, 299, nil}, {example(), 1, 0, 7, 7, nil}, {example(), 1, 0, 7, 6, nil}, {example(), 1, 0, 7, 8, pairs(7, 8)},
	} {
		if l := permit.Spans(c.p, c.item, c.region, api.Span{From: c.from, To: c.to}); !slices.Equal(l, c.want) {
			t.Errorf("Spans(%v, %d, %d, %d to %d) = %v, not %v", c.p, c.item, c.region, c.from, c.to, l, c.want)
		}
	}
	p := example()
	for i, want := range []api.Span{{From: 240, To: 480}, {From: 240, To: 480}, {From: 250, To: 500}, {From: 300, To: 600}, {From: 300, To: 600}, {From: 500, To: 1000}, {From: 600, To: 1199}, {From: 600, To: 1200}} {
		p.Rate = rates[i]
		if l := permit.Spans(p, 12, 0, api.Span{To: 5000}); !slices.Equal(l, []api.Span{want}) {
			t.Errorf("Spans at the rate %v = %v, not %v", p.Rate, l, want)
		}
	}
}

// P7.1: at most 1000000 frame numbers are searched; integers that are no frame numbers do not count.
func TestSpansLimits(t *testing.T) {
	p := example(api.Clause{Kind: api.CGrant, Item: 12, From: 0, To: api.MaxSecond, Regions: all})
	const most = api.MaxFrame
	for _, c := range []struct {
		from, to int
		want     []api.Span
	}{
		{0, 1000000, pairs(0, 1000000)}, {0, 1000001, nil}, {7, 1000007, pairs(7, 1000007)}, {7, 1000008, nil}, {-5, 1000000, pairs(0, 1000000)}, {-5, 1000001, nil}, {-5000000, 3, pairs(0, 3)}, {-5000000, 0, nil}, {-1, 1, pairs(0, 1)},
		{most, most + 1, pairs(most, most+1)}, {most, most + 5000000, pairs(most, most+1)}, {most + 1, most + 2, nil}, {most - 999999, most + 1, pairs(most-999999, most+1)}, {most - 999999, most + 9, pairs(most-999999, most+1)}, {most - 1000000, most + 1, nil}, {most - 1000000, most, pairs(most-1000000, most)}, {0, most + 1, nil},
		{math.MinInt, math.MaxInt, nil}, {math.MinInt, 1000000, pairs(0, 1000000)}, {math.MinInt, 1000001, nil}, {most - 5, math.MaxInt, pairs(most-5, most+1)}, {math.MaxInt, math.MinInt, nil}, {math.MinInt, math.MinInt, nil}, {math.MinInt, -1, nil}, {math.MaxInt - 1, math.MaxInt, nil}, {0, math.MinInt, nil}, {math.MaxInt, 0, nil},
	} {
		for _, item := range []int{12, 1} {
			if l := permit.Spans(p, item, 0, api.Span{From: c.from, To: c.to}); !slices.Equal(l, c.want) {
				t.Errorf("Spans of item %d, %d to %d = %v, not %v", item, c.from, c.to, l, c.want)
			}
		}
	}
}

// P7.1, P7.5: in a plan that is not timed, fill is permitted, and nothing else; the least and the greatest Epoch are those of timed plans.
func TestUntimed(t *testing.T) {
	p := example(api.Clause{Kind: api.CGrant, Item: 12, From: 0, To: api.MaxSecond, Regions: all})
	s := api.Span{From: 3, To: 9}
	for _, q := range untimed(p) {
		if l := permit.Spans(q, 12, 0, s); len(l) > 0 || permit.Allowed(q, 12, 0, 3, 1) {
			t.Errorf("Spans of item 12 in %v = %v", q, l)
		}
		if l := permit.Spans(q, 1, 0, s); !slices.Equal(l, []api.Span{s}) || !permit.Allowed(q, 1, 0, 3, 6) {
			t.Errorf("Spans of fill in %v = %v", q, l)
		}
	}
	for _, epoch := range []int{0, 1, 8999999999, 9000000000} {
		p.Epoch = epoch
		if l := permit.Spans(p, 12, 0, s); !slices.Equal(l, []api.Span{s}) || !permit.Allowed(p, 12, 0, api.MaxFrame-5, 6) {
			t.Errorf("Spans of item 12 for the Epoch %d = %v", epoch, l)
		}
	}
}

// P7.1: the item with an ID is the first one, whatever its ID is.
func TestItems(t *testing.T) {
	s := api.Span{From: 0, To: 1000}
	watershed := api.Clause{Kind: api.CWatershed, A: 1, From: 7200, To: 10800}
	for _, c := range []struct {
		items []api.Item
		id    int
		want  []api.Span
	}{
		{[]api.Item{{ID: 12, Kind: api.KSpot}, {ID: 12, Kind: api.KFill}}, 12, pairs(250, 500)}, {[]api.Item{{ID: 12, Kind: api.KFill}, {ID: 12, Kind: api.KSpot}}, 12, pairs(0, 1000)},
		{[]api.Item{{ID: 12, Rating: 0}, {ID: 12, Rating: 1}}, 12, pairs(250, 500)}, {[]api.Item{{ID: 12, Rating: 1}, {ID: 12, Rating: 0}}, 12, nil}, {[]api.Item{{ID: 12, Rating: 99}}, 12, nil}, {[]api.Item{{ID: 12, Rating: -1}}, 12, pairs(250, 500)}, {[]api.Item{{ID: 12, Rating: math.MaxInt, Kind: api.KFill}}, 12, pairs(0, 1000)},
		{[]api.Item{{ID: 0, Kind: api.KFill}}, 0, pairs(0, 1000)}, {[]api.Item{{ID: math.MinInt, Kind: api.KFill}}, math.MinInt, pairs(0, 1000)}, {[]api.Item{{ID: 0, Kind: api.KSpot}}, 0, nil}, {nil, 0, nil}, {nil, 12, nil},
		{[]api.Item{{ID: 12, Kind: 0}}, 12, pairs(250, 500)}, {[]api.Item{{ID: 12, Kind: 6}}, 12, pairs(250, 500)}, {[]api.Item{{ID: 12, Kind: -1}}, 12, pairs(250, 500)},
	} {
		p := example(watershed)
		p.Items = c.items
		if l := permit.Spans(p, c.id, 0, s); !slices.Equal(l, c.want) {
			t.Errorf("Spans of %d among %v = %v, not %v", c.id, c.items, l, c.want)
		}
	}
}

// P7.1: watersheds follow the local clock, also where it is set forward or back; a window may include midnight.
func TestLocalWatersheds(t *testing.T) {
	p := example(api.Clause{Kind: api.CGrant, Item: 12, From: 0, To: 1000000, Regions: all}, api.Clause{Kind: api.CWatershed, A: 2, From: 75600, To: 10800})
	p.Epoch, p.Rate = 0, rates[7]
	for _, c := range []struct {
		zone     api.Zone
		from, to int // seconds, as is want
		want     []api.Span
	}{
		{api.Zone{}, 0, 15000, pairs(0, 10800)}, {api.Zone{}, 75000, 91600, pairs(75600, 91600)}, {api.Zone{Offset: 3600}, 0, 15000, pairs(0, 7200)}, {api.Zone{Offset: 3600}, 70000, 86600, pairs(72000, 86600)}, {api.Zone{Offset: -3600}, 0, 15000, pairs(0, 14400)},
		{api.Zone{Shifts: []api.Shift{{At: 5000, Offset: 3600}}}, 0, 15000, pairs(0, 7200)}, {api.Zone{Shifts: []api.Shift{{At: 9000, Offset: -3600}}}, 0, 15000, pairs(0, 14400)}, {api.Zone{Shifts: []api.Shift{{At: 12000, Offset: -3600}}}, 0, 15000, pairs(0, 10800, 12000, 14400)}, {api.Zone{Shifts: []api.Shift{{At: 1000, Offset: 20000}, {At: 2000}}}, 0, 15000, pairs(0, 1000, 2000, 10800)},
	} {
		p.Zone = c.zone
		var want []api.Span
		for _, s := range c.want {
			want = append(want, api.Span{From: 60 * s.From, To: 60 * s.To})
		}
		if l := permit.Spans(p, 12, 0, api.Span{From: 60 * c.from, To: 60 * c.to}); !slices.Equal(l, want) {
			t.Errorf("Spans for the zone %v = %v, not %v", c.zone, l, want)
		}
	}
}

// near returns a span of up to some thousand frames about a frame.
func near(r *rand.Rand, frame int) api.Span {
	from := frame - r.Intn(6000)
	return api.Span{From: from, To: from + r.Intn(10000)}
}

// P7.1, P7.4: Spans is what the chapter defines, frame by frame, for plans of all kinds, as a valid list.
func TestSpans(t *testing.T) {
	r := rand.New(rand.NewSource(73))
	some, several := 0, 0
	for range 1500 {
		p, frame := randomPlan(r)
		for item := range 6 {
			region, s := r.Intn(10)-1, near(r, frame)
			want := spansOf(s, perSecond(p, func(f int) bool { return isPermitted(p, item, region, f) }))
			got := permit.Spans(p, item, region, s)
			if !slices.Equal(got, want) || !span.Valid(got) {
				t.Fatalf("Spans(%v, %d, %d, %v) = %v, not %v", p, item, region, s, got, want)
			}
			some += min(1, len(want))
			several += len(want) / 2
		}
	}
	if some < 1000 || several < 30 {
		t.Errorf("only %d lists have spans, and %d several ones", some, several)
	}
}

// P7.1, P7.4: the same for 1000000 frames.
func TestLongSpans(t *testing.T) {
	r := rand.New(rand.NewSource(74))
	for _, rate := range rates {
		p, _ := randomPlan(r)
		p.Rate, p.Epoch, p.Zone = rate, 500000, api.Zone{Offset: 3600, Shifts: []api.Shift{{At: 510000, Offset: 7200}, {At: 512345, Offset: 3600}}}
		p.Items = []api.Item{{ID: 1, Rating: 2}, {ID: 2, Rating: 1}}
		p.Clauses = []api.Clause{
			{Kind: api.CGrant, Item: 1, From: 400000, To: 600000, Regions: all}, {Kind: api.CWithdraw, Item: 1, From: 505000, To: 505500, Regions: all}, {Kind: api.CGrant, Item: 2, From: 500100, To: 507000, Regions: 3}, {Kind: api.CGrant, Item: 2, From: 507000, To: 600000, Regions: 3},
			{Kind: api.CWatershed, A: 1, From: 72000, To: 79200}, {Kind: api.CWatershed, A: 2, From: 75600, To: 14400},
		}
		from := r.Intn(100)
		s := api.Span{From: from, To: from + 1000000}
		for item := 1; item <= 2; item++ {
			want := spansOf(s, perSecond(p, func(f int) bool { return isPermitted(p, item, 1, f) }))
			if got := permit.Spans(p, item, 1, s); !slices.Equal(got, want) || len(want) == 0 {
				t.Fatalf("Spans(%v, %d, 1, %v) = %v, not %v", p, item, s, got, want)
			}
		}
	}
}

// P7.1: Allowed is about all frames, and about no other number of them than from 1 to 1000000.
func TestAllowedExamples(t *testing.T) {
	p := example(api.Clause{Kind: api.CGrant, Item: 13, From: 0, To: api.MaxSecond, Regions: 4})
	const most = api.MaxFrame
	for _, c := range []struct {
		item, region, frame, frames int
		want                        bool
	}{
		{12, 0, 480, 20, true}, {12, 0, 480, 21, false}, {12, 0, 250, 250, true}, {12, 0, 249, 1, false}, {12, 0, 249, 2, false}, {12, 0, 250, 251, false}, {12, 0, 499, 1, true}, {12, 0, 500, 1, false}, {12, 8, 250, 1, false}, {12, -1, 250, 1, false},
		{12, 0, 250, 0, false}, {12, 0, 250, -1, false}, {12, 0, 250, math.MinInt, false}, {12, 0, 250, math.MaxInt, false}, {12, 0, -1, 5, false}, {12, 0, math.MinInt, 1, false}, {12, 0, math.MaxInt, 1, false}, {12, 0, math.MinInt, math.MaxInt, false}, {12, 0, math.MaxInt, math.MaxInt, false},
		{13, 2, 0, 1000000, true}, {13, 2, 0, 1000001, false}, {13, 2, most, 1, true}, {13, 2, most, 2, false}, {13, 2, most - 999999, 1000000, true}, {13, 2, most - 999998, 1000000, false}, {13, 2, most + 1, 1, false}, {13, 2, -1, 1, false}, {13, 2, -1, 2, false}, {13, 2, 0, 1, true},
		{1, 0, 0, 1000000, true}, {1, 0, 0, 1000001, false}, {1, 0, 0, 0, false}, {1, 0, 5, -1, false}, {1, 0, most, 1, true}, {1, 0, most, 2, false}, {1, 0, most, 1000000, false}, {1, 0, most + 1, 1, false}, {1, 0, -1, 1, false}, {1, 0, -1, 2, false}, {1, 0, math.MaxInt, 1, false}, {1, 0, math.MaxInt, 1000000, false}, {1, 0, math.MinInt, 1000000, false}, {1, 0, 0, math.MaxInt, false}, {1, 8, 0, 1, false}, {1, -1, 0, 1, false},
		{14, 0, 0, 1, false}, {14, 0, 0, 0, false}, {0, 0, 0, 1, false},
	} {
		if ok := permit.Allowed(p, c.item, c.region, c.frame, c.frames); ok != c.want {
			t.Errorf("Allowed(%d, %d, %d, %d) = %t", c.item, c.region, c.frame, c.frames, ok)
		}
	}
}

// P7.4: Spans contains exactly the frames at which Allowed of one frame is true, Allowed of several is true exactly if it is of each, and frames of the same second are permitted alike.
func TestAllowed(t *testing.T) {
	r := rand.New(rand.NewSource(75))
	allowed, edges := 0, 0
	for range 1000 {
		p, frame := randomPlan(r)
		for item := range 6 {
			region, from := r.Intn(9), frame-r.Intn(200)
			if l := permit.Spans(p, item, region, near(r, frame)); len(l) > 0 {
				from = l[len(l)-1].To - 100 // what lies about the end of a span
			}
			s := api.Span{From: from, To: from + 200}
			each := spansOf(s, func(f int) bool { return permit.Allowed(p, item, region, f, 1) })
			if l := permit.Spans(p, item, region, s); !slices.Equal(l, each) {
				t.Fatalf("Spans(%v, %d, %d, %v) = %v, not %v", p, item, region, s, l, each)
			}
			for range 20 {
				at := from + r.Intn(200)
				part := api.Span{From: at, To: at + 1 + r.Intn(s.To-at)}
				ok := permit.Allowed(p, item, region, at, part.To-at)
				if ok != span.Covers(each, part) {
					t.Fatalf("Allowed(%v, %d, %d, %v) = %t", p, item, region, part, ok)
				}
				if ok {
					allowed++
				}
			}
			for f := max(from, 0) + 1; f < s.To && isTimed(p) && f <= api.MaxFrame; f++ {
				isAlike := span.Has(each, f-1) == span.Has(each, f)
				if !isAlike {
					edges++
				}
				if !isAlike && (f-1)*p.Rate.Den/p.Rate.Num == f*p.Rate.Den/p.Rate.Num {
					t.Fatalf("item %d of %v in region %d: frames %d and %d are not alike", item, p, region, f-1, f)
				}
			}
		}
	}
	if allowed < 1000 || edges < 100 {
		t.Errorf("only %d calls were allowed, and %d edges found", allowed, edges)
	}
}

// timedPlan returns a timed plan with the items 1 to 4, only the last of which is fill, and a frame about which its windows lie.
func timedPlan(r *rand.Rand) (api.Plan, int) {
	p, frame := randomPlan(r)
	for !isTimed(p) {
		p, frame = randomPlan(r)
	}
	p.Items = nil
	for id := 1; id <= 4; id++ {
		p.Items = append(p.Items, api.Item{ID: id, Kind: id%4 + 1, Rating: r.Intn(5) - 1, Sponsor: r.Intn(4)})
	}
	p.Items[3].Kind = api.KFill
	return p, frame
}

// with returns p with one more clause.
func with(p api.Plan, c api.Clause) api.Plan {
	p.Clauses = append(slices.Clone(p.Clauses), c)
	return p
}

// P7.2: appending a grant makes the item permitted at the frames in its window at which the watersheds permit it, appending a withdrawal makes exactly the frames in its window not permitted, and both change nothing else.
func TestAppend(t *testing.T) {
	r := rand.New(rand.NewSource(76))
	added, removed := 0, 0
	for range 300 {
		p, frame := timedPlan(r)
		center := p.Epoch + frame*p.Rate.Den/p.Rate.Num
		c := api.Clause{Kind: 1 + r.Intn(2), Item: 1 + r.Intn(3), From: max(0, center+r.Intn(100)-70), Regions: 1 + r.Intn(all)}
		c.To = min(c.From+1+r.Intn(60), api.MaxSecond)
		longer, s := with(p, c), near(r, frame)
		for item := 1; item <= 5; item++ {
			for region := range 8 {
				before := permit.Spans(p, item, region, s)
				it, _ := itemOf(p, item)
				isChanged := perSecond(p, func(f int) bool {
					second := p.Epoch + f*p.Rate.Den/p.Rate.Num
					return f >= 0 && f <= api.MaxFrame && item == c.Item && c.Regions>>region%2 == 1 && c.From <= second && second < c.To && (c.Kind == api.CWithdraw || isOpen(p, it.Rating, second))
				})
				want := spansOf(s, func(f int) bool {
					if isChanged(f) {
						return c.Kind == api.CGrant
					}
					return span.Has(before, f)
				})
				got := permit.Spans(longer, item, region, s)
				if !slices.Equal(got, want) {
					t.Fatalf("Spans(%v, %d, %d, %v) = %v, not %v", longer, item, region, s, got, want)
				}
				added += min(1, len(span.Subtract(got, before)))
				removed += min(1, len(span.Subtract(before, got)))
			}
		}
	}
	if added < 100 || removed < 100 {
		t.Errorf("only %d clauses added frames, and %d removed some", added, removed)
	}
}

// P7.3: an item with a lower rating is permitted wherever one with a higher rating and the same grants is.
func TestLowerRatings(t *testing.T) {
	r := rand.New(rand.NewSource(77))
	more := 0
	for range 1000 {
		p, frame := timedPlan(r)
		s, region := near(r, frame), r.Intn(8)
		higher := permit.Spans(p, 1, region, s)
		p.Items[0].Rating -= 1 + r.Intn(3)
		lower := permit.Spans(p, 1, region, s)
		if len(span.Subtract(higher, lower)) > 0 {
			t.Fatalf("item 1 of %v in region %d: %v with a higher rating, %v with a lower one", p, region, higher, lower)
		}
		more += min(1, len(span.Subtract(lower, higher)))
	}
	if more < 30 {
		t.Errorf("only %d ratings mattered", more)
	}
}

// P7.3: a watershed clause never makes anything permitted.
func TestMoreWatersheds(t *testing.T) {
	r := rand.New(rand.NewSource(78))
	fewer := 0
	for range 1000 {
		p, frame := timedPlan(r)
		_, second := calendar.Local(p.Zone, p.Epoch+frame*p.Rate.Den/p.Rate.Num)
		c, s, region := randomWatershed(r, second/60), near(r, frame), r.Intn(8)
		for item := 1; item <= 4; item++ {
			before, after := permit.Spans(p, item, region, s), permit.Spans(with(p, c), item, region, s)
			if len(span.Subtract(after, before)) > 0 || item == 4 && !slices.Equal(after, before) {
				t.Fatalf("item %d of %v in region %d: %v without, %v with %v", item, p, region, before, after, c)
			}
			fewer += min(1, len(span.Subtract(before, after)))
		}
	}
	if fewer < 30 {
		t.Errorf("only %d watersheds mattered", fewer)
	}
}

// P7.5: fill is permitted at every frame in every region, whatever the clauses are, and however often.
func TestFill(t *testing.T) {
	r := rand.New(rand.NewSource(79))
	for range 300 {
		p, frame := timedPlan(r)
		for _, q := range append(untimed(p), p, with(p, api.Clause{Kind: api.CWithdraw, Item: 4, From: 0, To: api.MaxSecond, Regions: all}), with(p, api.Clause{Kind: api.CRuns, Item: 4, N: 0, Regions: all})) {
			s, region := near(r, frame), r.Intn(8)
			want := span.Intersect([]api.Span{s}, []api.Span{{From: 0, To: api.MaxFrame + 1}})
			if l := permit.Spans(q, 4, region, s); !slices.Equal(l, want) {
				t.Fatalf("Spans(%v, 4, %d, %v) = %v", q, region, s, l)
			}
			if !permit.Allowed(q, 4, region, r.Intn(api.MaxFrame-999999), 1000000) || permit.Runs(q, 4, region) != -1 {
				t.Fatalf("%v: fill is restricted", q)
			}
		}
	}
}

// P7.1: clauses that are not valid have no effect.
func TestInvalidClauses(t *testing.T) {
	s := api.Span{From: 0, To: 1000}
	for _, c := range []api.Clause{
		{Kind: api.CWithdraw, Item: 12, From: 1010, To: 1020, Regions: all, N: 1}, {Kind: api.CWithdraw, Item: 12, From: 1020, To: 1010, Regions: all}, {Kind: api.CWithdraw, Item: 12, From: 0, To: 10000000001, Regions: all}, {Kind: api.CWithdraw, Item: 12, From: 1010, To: 1020, Regions: 256}, {Kind: api.CGrant, Item: 12, From: -1, To: 5000, Regions: all},
		{Kind: api.CWatershed, A: 0, From: 7200, To: 10800}, {Kind: api.CWatershed, A: 2, From: 7200, To: 7200}, {Kind: api.CWatershed, A: 2, From: 7201, To: 10800}, {Kind: api.CWatershed, A: 2, From: 7200, To: 86400}, {Kind: api.CWatershed, A: 2, From: 7200, To: 10800, Regions: all}, {Kind: api.CRuns, Item: 12, N: 1001, Regions: all}, {Kind: api.CCompete, A: 3, B: 7, N: 86401}, {Kind: 7, Item: 12, From: 1010, To: 1020, Regions: all},
	} {
		p := example(c)
		if l := permit.Spans(p, 12, 0, s); !slices.Equal(l, pairs(250, 500)) || permit.Runs(p, 12, 0) != -1 || permit.Gap(p, 12, 13) != 50 {
			t.Errorf("%v: %v, %d, %d", c, l, permit.Runs(p, 12, 0), permit.Gap(p, 12, 13))
		}
	}
}
