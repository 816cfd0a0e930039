package permit_test

import (
	"math"
	"math/rand"
	"slices"
	"testing"

	"onair/api"
	"onair/calendar"
	"onair/permit"
	"onair/rights"
	"onair/timecode"
)

// rates contains all valid rates.
var rates = []api.Rate{{Num: 24000, Den: 1001}, {Num: 24, Den: 1}, {Num: 25, Den: 1}, {Num: 30000, Den: 1001}, {Num: 30, Den: 1}, {Num: 50, Den: 1}, {Num: 60000, Den: 1001}, {Num: 60, Den: 1}}

// all is the set of all regions.
const all = 255

// example returns the plan of the chapter's examples, with further clauses.
func example(more ...api.Clause) api.Plan {
	return api.Plan{
		Rate: api.Rate{Num: 25, Den: 1}, Epoch: 1000,
		Items: []api.Item{{ID: 12, Kind: api.KProgramme, Rating: 2, Sponsor: 3}, {ID: 13, Kind: api.KSpot, Sponsor: 7}, {ID: 1, Kind: api.KFill}},
		Clauses: append([]api.Clause{
			{Kind: api.CGrant, Item: 12, From: 1010, To: 1020, Regions: all},
			{Kind: api.CGrant, Item: 13, From: 1010, To: 1020, Regions: 1},
			{Kind: api.CCompete, A: 3, B: 7, N: 2},
		}, more...),
	}
}

// untimed returns plans that differ from p in one thing each, by which they are not timed.
func untimed(p api.Plan) []api.Plan {
	var l []api.Plan
	for _, rate := range []api.Rate{{}, {Num: 25}, {Num: 26, Den: 1}, {Num: 50, Den: 2}, {Num: -25, Den: -1}, {Num: 30, Den: 1001}} {
		q := p
		q.Rate = rate
		l = append(l, q)
	}
	for _, zone := range []api.Zone{{Offset: 50401}, {Offset: math.MinInt}, {Shifts: []api.Shift{{At: 5}, {At: 5}}}, {Shifts: make([]api.Shift, 41)}} {
		q := p
		q.Zone = zone
		l = append(l, q)
	}
	for _, epoch := range []int{-1, 9000000001, 10000000000, math.MinInt, math.MaxInt} {
		q := p
		q.Epoch = epoch
		l = append(l, q)
	}
	return l
}

// isTimed reports whether a plan is timed, as the chapter defines it.
func isTimed(p api.Plan) bool {
	return timecode.Valid(p.Rate) && calendar.Valid(p.Zone) && 0 <= p.Epoch && p.Epoch <= 9000000000
}

// itemOf returns the item with an ID, and whether the plan has it.
func itemOf(p api.Plan, id int) (api.Item, bool) {
	for _, it := range p.Items {
		if it.ID == id {
			return it, true
		}
	}
	return api.Item{}, false
}

// randomItems returns items with few IDs, some of them more than once, some not at all.
func randomItems(r *rand.Rand) []api.Item {
	var l []api.Item
	for range r.Intn(12) {
		l = append(l, api.Item{ID: r.Intn(6), Kind: r.Intn(7), Sponsor: r.Intn(6) - 1, Rating: r.Intn(6) - 1})
	}
	return l
}

// randomWatershed returns a watershed whose window is mostly open at a minute of the day, and begins or ends a few minutes from it.
func randomWatershed(r *rand.Rand, minute int) api.Clause {
	c := api.Clause{Kind: api.CWatershed, A: 1 + r.Intn(3), From: (minute + 1440 - r.Intn(4)) % 1440 * 60, To: (minute + 1 + r.Intn(3)) % 1440 * 60}
	if r.Intn(4) == 0 {
		c.From, c.To = c.To, c.From
	}
	return c
}

// randomClause returns a clause about one of few items, sponsors or ratings, mostly a valid one, with seconds about center and times of the day about minute.
func randomClause(r *rand.Rand, center, minute int) api.Clause {
	c := api.Clause{Kind: []int{1, 1, 1, 2, 2, 3, 4, 5, 5, 5, 6}[r.Intn(11)], Item: 1 + r.Intn(4), Regions: all}
	if r.Intn(2) == 0 {
		c.Regions = 1 + r.Intn(all)
	}
	switch c.Kind {
	case api.CGrant:
		c.From = max(0, center+r.Intn(200)-200)
		c.To = min(c.From+1+r.Intn(400), api.MaxSecond)
	case api.CWithdraw:
		c.From = max(0, center+r.Intn(200)-100)
		c.To = min(c.From+1+r.Intn(30), api.MaxSecond)
	case api.CRuns, api.CCatchup:
		c.N = r.Intn(100)
	case api.CCompete:
		c = api.Clause{Kind: c.Kind, A: 1 + r.Intn(4), B: 1 + r.Intn(4), N: r.Intn(10)}
	case api.CWatershed:
		c = randomWatershed(r, minute)
	}
	switch r.Intn(30) {
	case 0:
		c.N = -1
	case 1:
		c.Kind = 7 * r.Intn(2)
	case 2:
		c.To = c.From
	}
	return c
}

// randomPlan returns a plan, mostly a timed one, and a frame about which its windows and the shifts of its clock lie.
func randomPlan(r *rand.Rand) (api.Plan, int) {
	frame := []int{0, r.Intn(3000), r.Intn(api.MaxFrame), api.MaxFrame - r.Intn(3000)}[r.Intn(4)]
	p := api.Plan{Rate: rates[r.Intn(len(rates))], Epoch: []int{0, r.Intn(2000), r.Intn(9000000000), 9000000000}[r.Intn(4)], Items: randomItems(r)}
	center := p.Epoch + timecode.Seconds(p.Rate, frame)
	p.Zone.Offset = r.Intn(2*api.MaxOffset) - api.MaxOffset
	at := max(0, center-r.Intn(200))
	for range r.Intn(4) {
		p.Zone.Shifts = append(p.Zone.Shifts, api.Shift{At: at, Offset: p.Zone.Offset + r.Intn(600) - 300})
		at += 1 + r.Intn(100)
	}
	_, second := calendar.Local(p.Zone, center)
	for range r.Intn(20) {
		p.Clauses = append(p.Clauses, randomClause(r, center, second/60))
	}
	if r.Intn(20) == 0 {
		l := untimed(p)
		p = l[r.Intn(len(l))]
	}
	return p, frame
}

// P7.1: Runs is what the clauses say about an item, whether or not the plan has it, but not about fill.
func TestRunsExamples(t *testing.T) {
	runs := func(item, n, regions int) api.Clause {
		return api.Clause{Kind: api.CRuns, Item: item, N: n, Regions: regions}
	}
	p := example(runs(12, 3, 1), runs(12, 2, 4), runs(12, 1001, 4), runs(13, 0, all), runs(1, 5, all), runs(14, 6, all), runs(0, 7, all))
	for _, c := range [][3]int{
		{12, 0, 3}, {12, 1, -1}, {12, 2, 2}, {12, 8, -1}, {12, -1, -1}, {12, math.MinInt, -1}, {12, 64, -1}, {13, 0, 0}, {13, 7, 0},
		{1, 0, -1}, {1, 7, -1}, {14, 0, 6}, {14, 8, -1}, {15, 0, -1}, {0, 0, -1}, {-1, 0, -1},
	} {
		if n := permit.Runs(p, c[0], c[1]); n != c[2] {
			t.Errorf("Runs(%d, %d) = %d, not %d", c[0], c[1], n, c[2])
		}
		for _, q := range untimed(p) {
			if n := permit.Runs(q, c[0], c[1]); n != c[2] {
				t.Errorf("Runs(%v, %d, %d) = %d, not %d", q, c[0], c[1], n, c[2])
			}
		}
	}
	fill, spot := api.Item{ID: 12, Kind: api.KFill}, api.Item{ID: 12, Kind: api.KSpot}
	p.Items = []api.Item{spot, fill}
	if n := permit.Runs(p, 12, 0); n != 3 {
		t.Errorf("the first of two items is a spot: %d", n)
	}
	p.Items = []api.Item{fill, spot}
	if n := permit.Runs(p, 12, 0); n != -1 {
		t.Errorf("the first of two items is fill: %d", n)
	}
}

// P7.1: Gap is a number of frames, rounded up, and 0 without two items whose sponsors compete.
func TestGapExamples(t *testing.T) {
	p := example(api.Clause{Kind: api.CCompete, A: 9, B: 3, N: 86400}, api.Clause{Kind: api.CCompete, A: 9, B: 7, N: 0}, api.Clause{Kind: api.CCompete, A: 3, B: 8, N: 86401})
	p.Items = append(p.Items, api.Item{ID: 14, Sponsor: 9}, api.Item{ID: 15, Kind: api.KFill, Sponsor: 7}, api.Item{ID: 16, Sponsor: 3}, api.Item{ID: 17, Sponsor: 8}, api.Item{ID: 18, Sponsor: -3}, api.Item{ID: 19, Sponsor: 201}, api.Item{ID: 12, Sponsor: 7}, api.Item{ID: -5, Sponsor: 7})
	for _, c := range [][3]int{
		{12, 13, 50}, {12, 12, 0}, {12, 1, 0}, {12, 14, 2160000}, {13, 14, 0}, {12, 15, 50}, {12, 16, 0}, {16, 13, 50}, {16, 15, 50}, {13, 15, 0}, {12, 17, 0}, {12, 18, 0}, {12, 19, 0}, {13, 18, 0}, {12, -5, 50},
		{12, 99, 0}, {99, 98, 0}, {0, 0, 0}, {0, 12, 0}, {1, 1, 0}, {math.MinInt, 12, 0}, {math.MaxInt, math.MaxInt, 0},
	} {
		if m, n := permit.Gap(p, c[0], c[1]), permit.Gap(p, c[1], c[0]); m != c[2] || n != c[2] {
			t.Errorf("Gap of %d and %d = %d, %d, not %d", c[0], c[1], m, n, c[2])
		}
	}
	for _, c := range []struct{ rate, frames int }{{0, 48}, {1, 48}, {2, 50}, {3, 60}, {4, 60}, {5, 100}, {6, 120}, {7, 120}} {
		p.Rate = rates[c.rate]
		if n := permit.Gap(p, 12, 13); n != c.frames {
			t.Errorf("Gap at the rate %v = %d, not %d", p.Rate, n, c.frames)
		}
	}
	p.Clauses = []api.Clause{{Kind: api.CCompete, A: 7, B: 3, N: 900}}
	p.Rate = rates[3]
	if n := permit.Gap(p, 12, 13); n != 26974 {
		t.Errorf("Gap of 900 seconds at the rate 30000/1001 = %d", n)
	}
	p.Rate = rates[2]
	for _, q := range untimed(p) {
		want := 0
		if timecode.Valid(q.Rate) {
			want = 22500 // the zone and the Epoch do not matter
		}
		if n := permit.Gap(q, 12, 13); n != want {
			t.Errorf("Gap in %v = %d, not %d", q, n, want)
		}
	}
}

// P7.1: Catchup begins with the second after that of the last frame, and is empty for what is no airing.
func TestCatchupExamples(t *testing.T) {
	catchup := func(item, n, regions int) api.Clause {
		return api.Clause{Kind: api.CCatchup, Item: item, N: n, Regions: regions}
	}
	p := example(catchup(12, 7, 1), catchup(13, 0, all), catchup(1, 8, all), catchup(14, 10000000000, all))
	const most = api.MaxFrame
	for _, c := range []struct {
		item, region, from, frames int
		want                       api.Span
	}{
		{12, 0, 0, 1, api.Span{From: 1001, To: 1008}}, {12, 0, 0, 25, api.Span{From: 1001, To: 1008}}, {12, 0, 0, 26, api.Span{From: 1002, To: 1009}}, {12, 0, 24, 1, api.Span{From: 1001, To: 1008}}, {12, 0, 25, 1, api.Span{From: 1002, To: 1009}}, {12, 0, 250, 50, api.Span{From: 1012, To: 1019}},
		{12, 0, most, 1, api.Span{From: 4001001, To: 4001008}}, {12, 0, 0, most + 1, api.Span{From: 4001001, To: 4001008}}, {12, 0, 1, most, api.Span{From: 4001001, To: 4001008}}, {12, 0, most - 1, 1, api.Span{From: 4001000, To: 4001007}},
		{1, 7, 0, 1, api.Span{From: 1001, To: 1009}}, {14, 3, 0, 1, api.Span{From: 1001, To: 10000001001}},
		{12, 1, 0, 1, api.Span{}}, {12, 8, 0, 1, api.Span{}}, {12, -1, 0, 1, api.Span{}}, {13, 0, 0, 1, api.Span{}}, {15, 0, 0, 1, api.Span{}}, {0, 0, 0, 1, api.Span{}},
		{12, 0, 0, 0, api.Span{}}, {12, 0, 0, -1, api.Span{}}, {12, 0, 5, math.MinInt, api.Span{}}, {12, 0, 0, most + 2, api.Span{}}, {12, 0, 1, most + 1, api.Span{}}, {12, 0, most, 2, api.Span{}}, {12, 0, most + 1, 1, api.Span{}}, {12, 0, most + 2, -1, api.Span{}},
		{12, 0, -1, 1, api.Span{}}, {12, 0, -1, 2, api.Span{}}, {12, 0, -1, 5, api.Span{}}, {12, 0, math.MinInt, 1, api.Span{}}, {12, 0, math.MaxInt, 1, api.Span{}}, {12, 0, math.MinInt, math.MinInt, api.Span{}}, {12, 0, math.MaxInt, math.MaxInt, api.Span{}}, {12, 0, 5, math.MaxInt, api.Span{}}, {12, 0, math.MinInt, math.MaxInt, api.Span{}},
	} {
		a := api.Aired{Item: c.item, Region: c.region, From: c.from, Frames: c.frames}
		if s := permit.Catchup(p, a); s != c.want {
			t.Errorf("Catchup(%v) = %v, not %v", a, s, c.want)
		}
		for _, q := range untimed(p) {
			if s := permit.Catchup(q, a); s != (api.Span{}) {
				t.Errorf("Catchup(%v, %v) = %v", q, a, s)
			}
		}
	}
	p.Rate, p.Epoch = rates[0], 9000000000
	for _, c := range []struct {
		item int
		want api.Span
	}{{12, api.Span{From: 9004170834, To: 9004170841}}, {14, api.Span{From: 9004170834, To: 19004170834}}} {
		if s := permit.Catchup(p, api.Aired{Item: c.item, From: most, Frames: 1}); s != c.want {
			t.Errorf("Catchup of item %d after the last frame = %v, not %v", c.item, s, c.want)
		}
	}
}

// catchup returns what Catchup returns, as the chapter defines it.
func catchup(p api.Plan, a api.Aired) api.Span {
	n := rights.Catchup(p.Clauses, a.Item, a.Region)
	if n == 0 || !isTimed(p) || a.Frames < 1 || a.From < 0 || a.From+a.Frames-1 > api.MaxFrame {
		return api.Span{}
	}
	from := p.Epoch + (a.From+a.Frames-1)*p.Rate.Den/p.Rate.Num + 1
	return api.Span{From: from, To: from + n}
}

// P7.1, P7.5: Runs, Gap and Catchup are what the chapter defines, for plans of all kinds, with items that are there once, several times, or not at all; Gap is symmetric, and 0 for an item and itself.
func TestNumbers(t *testing.T) {
	r := rand.New(rand.NewSource(71))
	gaps, spans := 0, 0
	for range 3000 {
		p, frame := randomPlan(r)
		for a := range 7 {
			for region := -1; region <= 8; region++ {
				want := rights.Runs(p.Clauses, a, region)
				if it, ok := itemOf(p, a); ok && it.Kind == api.KFill {
					want = -1
				}
				if n := permit.Runs(p, a, region); n != want {
					t.Fatalf("Runs(%v, %d, %d) = %d, not %d", p, a, region, n, want)
				}
				aired := api.Aired{Item: a, Region: region, From: frame - r.Intn(3), Frames: r.Intn(100) - 1}
				s := permit.Catchup(p, aired)
				if s != catchup(p, aired) {
					t.Fatalf("Catchup(%v, %v) = %v, not %v", p, aired, s, catchup(p, aired))
				}
				spans += min(1, s.To)
			}
			for b := range 7 {
				n := permit.Gap(p, a, b)
				if want := gap(p, a, b); n != want || permit.Gap(p, b, a) != n || a == b && n != 0 {
					t.Fatalf("Gap(%v, %d, %d) = %d, not %d", p, a, b, n, want)
				}
				gaps += min(1, n)
			}
		}
	}
	if gaps < 1000 || spans < 1000 {
		t.Errorf("only %d gaps and %d spans", gaps, spans)
	}
}

// gap returns what Gap returns, as the chapter defines it.
func gap(p api.Plan, a, b int) int {
	x, okX := itemOf(p, a)
	y, okY := itemOf(p, b)
	if !okX || !okY || x.Sponsor == y.Sponsor || x.Sponsor == 0 || y.Sponsor == 0 || !timecode.Valid(p.Rate) {
		return 0
	}
	seconds := rights.Gap(p.Clauses, x.Sponsor, y.Sponsor)
	frames := 0
	for frames*p.Rate.Den < seconds*p.Rate.Num {
		frames++
	}
	return frames
}

// spare returns a copy of l with spare capacity that is filled with its elements.
func spare[T any](l []T) []T {
	return append(slices.Clone(l), l...)[:len(l)]
}

// R3: a plan and the spare capacity behind its lists stay as they are, and results share no memory.
func TestMemory(t *testing.T) {
	r := rand.New(rand.NewSource(72))
	for range 300 {
		p, frame := randomPlan(r)
		p.Items, p.Clauses, p.Zone.Shifts = spare(p.Items), spare(p.Clauses), spare(p.Zone.Shifts)
		items, clauses, shifts := p.Items[:cap(p.Items)], p.Clauses[:cap(p.Clauses)], p.Zone.Shifts[:cap(p.Zone.Shifts)]
		itemsBefore, clausesBefore, shiftsBefore := slices.Clone(items), slices.Clone(clauses), slices.Clone(shifts)
		for item := range 6 {
			s := api.Span{From: frame - 1000, To: frame + 1000}
			first, second := permit.Spans(p, item, 0, s), permit.Spans(p, item, 0, s)
			kept := slices.Clone(second)
			clear(first[:cap(first)])
			if !slices.Equal(second, kept) || !slices.Equal(permit.Spans(p, item, 0, s), kept) {
				t.Fatal("results share memory")
			}
			permit.Allowed(p, item, 0, frame, 10)
			permit.Runs(p, item, 0)
			permit.Gap(p, item, 1)
			permit.Catchup(p, api.Aired{Item: item, From: frame, Frames: 1})
		}
		if !slices.Equal(items, itemsBefore) || !slices.Equal(clauses, clausesBefore) || !slices.Equal(shifts, shiftsBefore) {
			t.Fatal("the plan was changed")
		}
	}
}
