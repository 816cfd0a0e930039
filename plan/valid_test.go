package plan_test

import (
	"math"
	"math/big"
	"math/rand"
	"slices"
	"testing"

	"onair/api"
	"onair/calendar"
	"onair/plan"
	"onair/rights"
	"onair/timecode"
)

// isFrom reports whether n is a number from least to most.
func isFrom(n, least, most int) bool {
	return n >= least && n <= most
}

// isID reports whether n is an ID.
func isID(n int) bool {
	return isFrom(n, 1, 1000000)
}

// isItem reports whether an item satisfies the chapter's second condition.
func isItem(it api.Item) bool {
	return isID(it.ID) && isFrom(it.Kind, 1, 5) && isFrom(it.Frames, 1, 100000000) && isFrom(it.Sponsor, 0, 200) && isFrom(it.Rating, 0, 3)
}

// itemOf returns the item of p with an ID, and whether there is one.
func itemOf(p api.Plan, id int) (api.Item, bool) {
	for _, it := range p.Items {
		if it.ID == id {
			return it, true
		}
	}
	return api.Item{}, false
}

// isBooking reports whether a booking satisfies the chapter's fourth condition.
func isBooking(p api.Plan, b api.Booking) bool {
	it, ok := itemOf(p, b.Item)
	return isID(b.ID) && ok && it.Kind == 2 && isFrom(b.Region, 0, p.Regions-1) && isFrom(b.Price, 0, 1000000000) &&
		0 <= b.From && b.From < b.To && b.To <= b.Until && b.Until <= 100000000
}

// isAlt reports whether an alternative of an entry satisfies the chapter's sixth condition, but for the order of the regions.
func isAlt(p api.Plan, e api.Entry, a api.Alt) bool {
	it, ok := itemOf(p, a.Item)
	return ok && it.Frames == e.Frames && it.Kind != 5 && it.Kind != 4 && isFrom(a.Region, 1, p.Regions-1)
}

// isFulfilled reports whether an entry satisfies the chapter's seventh condition.
func isFulfilled(p api.Plan, e api.Entry) bool {
	if e.Booking == 0 {
		return true
	}
	for _, b := range p.Bookings {
		if b.ID != e.Booking {
			continue
		}
		if b.Region == 0 {
			return b.Item == e.Item
		}
		for _, a := range e.Alts {
			if a.Region == b.Region && a.Item == b.Item {
				return true
			}
		}
	}
	return false
}

// isEntry reports whether an entry satisfies the chapter's fifth to seventh conditions, but for those about the other entries.
func isEntry(p api.Plan, e api.Entry) bool {
	it, ok := itemOf(p, e.Item)
	if !ok || !isID(e.ID) || it.Kind == 5 {
		return false
	}
	if e.Frames != it.Frames && !(it.Kind == 4 && isFrom(e.Frames, 1, it.Frames-1)) {
		return false
	}
	end := new(big.Int).Add(big.NewInt(int64(e.Latest)), big.NewInt(int64(e.Frames)))
	if e.Earliest < 0 || e.Latest < e.Earliest || end.Cmp(big.NewInt(int64(p.Length))) > 0 {
		return false
	}
	for i, a := range e.Alts {
		if it.Kind == 4 || !isAlt(p, e, a) || i > 0 && a.Region <= e.Alts[i-1].Region {
			return false
		}
	}
	return isFulfilled(p, e)
}

// isValid reports whether p is valid, as the chapter defines it.
func isValid(p api.Plan) bool {
	if !isFrom(p.Channel, 0, 39) || !timecode.Valid(p.Rate) || !calendar.Valid(p.Zone) || !isFrom(p.Epoch, 0, 9000000000) || !isFrom(p.Regions, 1, 8) || !isFrom(p.Length, 1, 100000000) {
		return false
	}
	if len(p.Items) > 4000 || len(p.Bookings) > 2000 || len(p.Entries) > 4000 || len(p.Clauses) > 400 {
		return false
	}
	for i, it := range p.Items {
		if !isItem(it) || i > 0 && it.ID <= p.Items[i-1].ID {
			return false
		}
	}
	for i, b := range p.Bookings {
		if !isBooking(p, b) || i > 0 && b.ID <= p.Bookings[i-1].ID {
			return false
		}
	}
	for i, e := range p.Entries {
		sameID := func(other api.Entry) bool { return other.ID == e.ID }
		if !isEntry(p, e) || slices.ContainsFunc(p.Entries[:i], sameID) {
			return false
		}
	}
	fill, ok := itemOf(p, p.Fill)
	return ok && fill.Kind == 5 && !slices.ContainsFunc(p.Clauses, func(c api.Clause) bool { return !rights.Valid(c) })
}

// edges contains numbers at and beside the limits of fields.
var edges = []int{
	math.MinInt, math.MinInt + 1, -50401, -1, 0, 1, 2, 3, 4, 5, 6, 7, 8, 9, 39, 40, 41, 199, 200, 201, 254, 255, 256, 1000, 1001, 50400, 50401, 86340, 86400, 86401,
	999999, 1000000, 1000001, 99999999, 100000000, 100000001, 999999999, 1000000000, 1000000001, 8999999999, 9000000000, 9000000001, 10000000000, 10000000001, api.MaxInt, api.MaxInt + 1, math.MaxInt - 1, math.MaxInt,
}

// near returns the edges, and all numbers of p and those beside them.
func near(p api.Plan) []int {
	l := slices.Clone(edges)
	for _, n := range numbers(&p) {
		l = append(l, *n-1, *n, *n+1)
	}
	slices.Sort(l)
	return slices.Compact(l)
}

// checkValid checks Valid, and that Encode agrees with it, and returns the result.
func checkValid(t *testing.T, p api.Plan) bool {
	t.Helper()
	want := isValid(p)
	if plan.Valid(p) != want {
		t.Fatalf("Valid(%+v) = %t", p, !want)
	}
	text, err := plan.Encode(p)
	if want != (err == api.OK) || want != (text != "") || !want && err != api.ErrPlan {
		t.Fatalf("Encode(%+v) = %q, %d", p, text, err)
	}
	return want
}

// P8.1: the chapter's examples.
func TestExamples(t *testing.T) {
	entry := api.Entry{ID: 5, Item: 2, Frames: 20, Latest: 80}
	later, shorter, fill, beyond, alone, booked := entry, entry, entry, entry, entry, entry
	later.Latest = 81
	shorter.Frames = 19
	fill.Item = 1
	beyond.Alts = []api.Alt{{Region: 2, Item: 2}}
	alone.Booking = 1
	booked.Booking, booked.Alts = 1, []api.Alt{{Region: 1, Item: 2}}
	booking := api.Booking{ID: 1, Item: 2, Region: 1, To: 50, Until: 90}
	for i, c := range []struct {
		p    api.Plan
		want bool
	}{
		{example(nil), true}, {example([]api.Entry{entry}), true},
		{example([]api.Entry{later}), false}, {example([]api.Entry{shorter}), false}, {example([]api.Entry{fill}), false}, {example([]api.Entry{beyond}), false},
		{example([]api.Entry{alone}, booking), false}, {example([]api.Entry{booked}, booking), true}, {example([]api.Entry{booked}), false},
	} {
		if plan.Valid(c.p) != c.want || checkValid(t, c.p) != c.want {
			t.Errorf("example %d: %t", i, !c.want)
		}
	}
	if plan.Valid(api.Plan{}) {
		t.Error("the zero plan is valid")
	}
}

// P8.1: every number of a plan has the limits that the chapter names, and no others.
func TestNumbers(t *testing.T) {
	for _, base := range []api.Plan{full(), example([]api.Entry{{ID: 5, Item: 2, Frames: 20, Latest: 80}})} {
		if !checkValid(t, base) {
			t.Fatalf("%+v is not valid", base)
		}
		for i := range numbers(&base) {
			valid, invalid := 0, 0
			for _, n := range near(base) {
				p := clone(base, 0)
				*numbers(&p)[i] = n
				if checkValid(t, p) {
					valid++
				} else {
					invalid++
				}
			}
			if valid == 0 || invalid == 0 {
				t.Errorf("number %d: %d valid and %d invalid plans", i, valid, invalid)
			}
		}
	}
}

// P8.1: the least and the greatest numbers that the chapter names are valid, and those beyond them are not.
func TestLimits(t *testing.T) {
	for name, l := range map[string]struct {
		field       func(p *api.Plan) *int
		least, most int
	}{
		"Channel":                {func(p *api.Plan) *int { return &p.Channel }, 0, 39},
		"Epoch":                  {func(p *api.Plan) *int { return &p.Epoch }, 0, 9000000000},
		"Regions":                {func(p *api.Plan) *int { return &p.Regions }, 4, 8}, // region 3 is used
		"Length":                 {func(p *api.Plan) *int { return &p.Length }, 1000, 100000000},
		"Item ID":                {func(p *api.Plan) *int { return &p.Items[6].ID }, 10, 1000000},
		"Kind":                   {func(p *api.Plan) *int { return &p.Items[6].Kind }, 1, 5}, // no entry uses this item
		"Kind of an alternative": {func(p *api.Plan) *int { return &p.Items[4].Kind }, 1, 3},
		"Frames":                 {func(p *api.Plan) *int { return &p.Items[3].Frames }, 399, 100000000},
		"Fill":                   {func(p *api.Plan) *int { return &p.Items[2].Frames }, 1, 100000000},
		"Sponsor":                {func(p *api.Plan) *int { return &p.Items[6].Sponsor }, 0, 200},
		"Rating":                 {func(p *api.Plan) *int { return &p.Items[6].Rating }, 0, 3},
		"Price":                  {func(p *api.Plan) *int { return &p.Bookings[0].Price }, 0, 1000000000},
		"From":                   {func(p *api.Plan) *int { return &p.Bookings[0].From }, 0, 5},
		"To":                     {func(p *api.Plan) *int { return &p.Bookings[0].To }, 6, 7},
		"Until":                  {func(p *api.Plan) *int { return &p.Bookings[0].Until }, 6, 100000000},
		"Region":                 {func(p *api.Plan) *int { return &p.Bookings[2].Region }, 0, 3},
		"Live":                   {func(p *api.Plan) *int { return &p.Entries[3].Frames }, 1, 400},
		"Earliest":               {func(p *api.Plan) *int { return &p.Entries[0].Earliest }, 0, 750},
		"Latest":                 {func(p *api.Plan) *int { return &p.Entries[0].Latest }, 10, 750},
		"Frames of an entry":     {func(p *api.Plan) *int { return &p.Entries[0].Frames }, 250, 250},
		"first Alt":              {func(p *api.Plan) *int { return &p.Entries[1].Alts[0].Region }, 1, 2},
		"second Alt":             {func(p *api.Plan) *int { return &p.Entries[1].Alts[1].Region }, 2, 3},
	} {
		for n, want := range map[int]bool{l.least - 1: false, l.least: true, l.most: true, l.most + 1: false, math.MinInt: false, math.MaxInt: false} {
			p := full()
			if *l.field(&p) = n; plan.Valid(p) != want {
				t.Errorf("%s %d: %t", name, n, !want)
			}
		}
	}
}

// P8.1: what is named by its ID must be there, and of the right kind and length; IDs do not occur twice.
func TestReferences(t *testing.T) {
	for name, change := range map[string]func(p *api.Plan){
		"no fill":                          func(p *api.Plan) { p.Fill = 6 },
		"fill of another kind":             func(p *api.Plan) { p.Fill = 2 },
		"fill is no item of the kind":      func(p *api.Plan) { p.Items[2].Kind = api.KPromo },
		"no items":                         func(p *api.Plan) { p.Items, p.Entries, p.Bookings = nil, nil, nil },
		"items exchanged":                  func(p *api.Plan) { p.Items[5], p.Items[6] = p.Items[6], p.Items[5] },
		"item twice":                       func(p *api.Plan) { p.Items = append(p.Items, p.Items[6]) },
		"bookings exchanged":               func(p *api.Plan) { p.Bookings[1], p.Bookings[2] = p.Bookings[2], p.Bookings[1] },
		"booking twice":                    func(p *api.Plan) { p.Bookings = append(p.Bookings, p.Bookings[2]) },
		"booking of no item":               func(p *api.Plan) { p.Bookings[2].Item = 4 },
		"booking of a promo":               func(p *api.Plan) { p.Bookings[2].Item = 8 },
		"entry of no item":                 func(p *api.Plan) { p.Entries[0].Item = 10 },
		"entry of fill":                    func(p *api.Plan) { p.Entries[0].Item, p.Entries[0].Frames = 5, 30 },
		"entry of no item without frames":  func(p *api.Plan) { p.Entries[0].Item, p.Entries[0].Frames = 10, 0 },
		"entry twice":                      func(p *api.Plan) { p.Entries = append(p.Entries, p.Entries[0]) },
		"two entries with one ID":          func(p *api.Plan) { p.Entries[3].ID = 41 },
		"longer than its live item":        func(p *api.Plan) { p.Entries[3].Frames = 401 },
		"shorter than its item":            func(p *api.Plan) { p.Entries[0].Frames = 249 },
		"a live entry has an alternative":  func(p *api.Plan) { p.Items[6].Frames, p.Entries[3].Alts = 399, []api.Alt{{Region: 1, Item: 999999}} },
		"alternative of no item":           func(p *api.Plan) { p.Entries[1].Alts[1].Item = 4 },
		"alternative of another length":    func(p *api.Plan) { p.Entries[1].Alts[1].Item = 9 },
		"alternative of fill":              func(p *api.Plan) { p.Items[2].Frames, p.Entries[1].Alts[1].Item = 20, 5 },
		"alternative of a live item":       func(p *api.Plan) { p.Items[3].Frames, p.Entries, p.Entries[1].Alts[1].Item = 20, p.Entries[:3], 7 },
		"alternative for the network":      func(p *api.Plan) { p.Entries[1].Alts[0].Region, p.Entries[1].Booking = 0, 0 },
		"two alternatives for a region":    func(p *api.Plan) { p.Entries[1].Alts[0].Region = 3 },
		"alternatives exchanged":           func(p *api.Plan) { slices.Reverse(p.Entries[1].Alts) },
		"alternative for no region":        func(p *api.Plan) { p.Entries[1].Alts[1].Region = 4 },
		"no booking":                       func(p *api.Plan) { p.Entries[1].Booking = 62 },
		"booking of another item":          func(p *api.Plan) { p.Bookings[0].Item = 3 },
		"alternative of another item":      func(p *api.Plan) { p.Entries[2].Alts[1].Item = 2 },
		"alternative for another region":   func(p *api.Plan) { p.Entries[2].Alts[1].Region = 3 },
		"booking for another region":       func(p *api.Plan) { p.Bookings[1].Region = 1 },
		"booking for a region, item on 0":  func(p *api.Plan) { p.Bookings[0].Region = 1 },
		"booking for 0, item in a region":  func(p *api.Plan) { p.Bookings[1].Region = 0 },
		"booking by a negative number":     func(p *api.Plan) { p.Entries[1].Booking = -61 },
		"a clause that is not valid":       func(p *api.Plan) { p.Clauses[0].N = 1 },
		"the last clause is not valid":     func(p *api.Plan) { p.Clauses[5].To = p.Clauses[5].From },
		"a rate that is not valid":         func(p *api.Plan) { p.Rate = api.Rate{Num: 50, Den: 2} },
		"a zone that is not valid":         func(p *api.Plan) { p.Zone.Shifts[1].At = 90000 },
		"an offset that is not valid":      func(p *api.Plan) { p.Zone.Shifts[1].Offset = 50401 },
		"an empty window":                  func(p *api.Plan) { p.Bookings[0].To = 5 },
		"a booking without time for later": func(p *api.Plan) { p.Bookings[0].Until = 5 },
	} {
		p := full()
		if change(&p); checkValid(t, p) {
			t.Error(name)
		}
	}
}

// P8.1: what the chapter does not rule out is valid.
func TestValidPlans(t *testing.T) {
	for name, change := range map[string]func(p *api.Plan){
		"no entries":                 func(p *api.Plan) { p.Entries = nil },
		"only fill":                  func(p *api.Plan) { p.Items, p.Entries, p.Bookings = p.Items[2:3], nil, nil },
		"no clauses":                 func(p *api.Plan) { p.Clauses = []api.Clause{} },
		"a clause twice":             func(p *api.Plan) { p.Clauses = append(p.Clauses, p.Clauses[0]) },
		"no shifts":                  func(p *api.Plan) { p.Zone.Shifts = nil },
		"two items of fill":          func(p *api.Plan) { p.Items[6].Kind = api.KFill },
		"entries in another order":   func(p *api.Plan) { slices.Reverse(p.Entries) },
		"an entry for a region":      func(p *api.Plan) { p.Entries[1].Booking = 81; p.Entries[1].Alts[1].Item = 3 },
		"two entries for a booking":  func(p *api.Plan) { e := p.Entries[1]; e.ID = 1; p.Entries = append(p.Entries, e) },
		"a live entry of one frame":  func(p *api.Plan) { p.Entries[3].Frames = 1 },
		"a whole live entry":         func(p *api.Plan) { p.Entries[3].Frames = 400 },
		"alternative of its item":    func(p *api.Plan) { p.Entries[1].Alts[1].Item = 2 },
		"alternative, another kind":  func(p *api.Plan) { p.Entries[1].Alts[1].Item = 999999 },
		"a clause of no item":        func(p *api.Plan) { p.Clauses[0].Item = 77 },
		"a window after the end":     func(p *api.Plan) { p.Bookings[0].From, p.Bookings[0].To, p.Bookings[0].Until = 5000, 5001, 5001 },
		"a spot that is not in time": func(p *api.Plan) { p.Entries[1].Earliest = 900 },
		"an item longer than all":    func(p *api.Plan) { p.Items[6].Frames = 1001 },
	} {
		p := full()
		if change(&p); !checkValid(t, p) {
			t.Error(name)
		}
	}
}

// P8.1: a plan without entries may be of one frame and one region, and of no fewer.
func TestLeast(t *testing.T) {
	for n, want := range map[int]bool{-1: false, 0: false, 1: true} {
		short, narrow := example(nil), example(nil)
		short.Length, narrow.Regions = n, n
		if checkValid(t, short) != want || checkValid(t, narrow) != want {
			t.Errorf("%d frames or regions: %t", n, !want)
		}
	}
}

// P8.1: the numbers of an entry whose sum overflows are not valid.
func TestOverflow(t *testing.T) {
	for _, latest := range []int{81, math.MaxInt - 20, math.MaxInt - 19, math.MaxInt} {
		p := example([]api.Entry{{ID: 5, Item: 2, Frames: 20, Latest: latest}})
		if checkValid(t, p) {
			t.Error(latest)
		}
	}
}

// largest returns a valid plan with as many elements as there may be.
func largest() api.Plan {
	p := api.Plan{Rate: api.Rate{Num: 25, Den: 1}, Regions: 8, Length: 100000000, Fill: 4000}
	for i := range 40 {
		p.Zone.Shifts = append(p.Zone.Shifts, api.Shift{At: i})
	}
	for i := range 4000 {
		p.Items = append(p.Items, api.Item{ID: i + 1, Kind: api.KSpot, Frames: 20})
		e := api.Entry{ID: 1000000 - i, Item: i%3999 + 1, Frames: 20, Latest: 99999980, Booking: i%2000 + 1}
		for region := 1; region < 8; region++ {
			e.Alts = append(e.Alts, api.Alt{Region: region, Item: i%2000 + 1})
		}
		p.Entries = append(p.Entries, e)
	}
	p.Items[3999].Kind = api.KFill
	for i := range 2000 {
		p.Bookings = append(p.Bookings, api.Booking{ID: i + 1, Item: i + 1, Region: 1 + i%7, To: 1, Until: 1})
	}
	for i := range 400 {
		p.Clauses = append(p.Clauses, clauses[i%len(clauses)])
	}
	return p
}

// P8.1: the lists have their greatest numbers of elements.
func TestLengths(t *testing.T) {
	if !plan.Valid(largest()) {
		t.Fatal("the largest plan is not valid")
	}
	for name, change := range map[string]func(p *api.Plan){
		"shifts":   func(p *api.Plan) { p.Zone.Shifts = append(p.Zone.Shifts, api.Shift{At: 40}) },
		"items":    func(p *api.Plan) { p.Items = append(p.Items, api.Item{ID: 4001, Kind: api.KPromo, Frames: 20}) },
		"entries":  func(p *api.Plan) { p.Entries = append(p.Entries, api.Entry{ID: 1, Item: 1, Frames: 20}) },
		"bookings": func(p *api.Plan) { p.Bookings = append(p.Bookings, api.Booking{ID: 2001, Item: 1, To: 1, Until: 1}) },
		"clauses":  func(p *api.Plan) { p.Clauses = append(p.Clauses, clauses[0]) },
	} {
		p := largest()
		if change(&p); plan.Valid(p) {
			t.Error("too many", name)
		}
	}
}

// swap exchanges two elements of l, if it has any.
func swap[T any](r *rand.Rand, l []T) {
	if len(l) > 0 {
		i, j := r.Intn(len(l)), r.Intn(len(l))
		l[i], l[j] = l[j], l[i]
	}
}

// drop returns l without one of its elements, if it has any.
func drop[T any](r *rand.Rand, l []T) []T {
	if len(l) == 0 {
		return l
	}
	i := r.Intn(len(l))
	return slices.Delete(l, i, i+1)
}

// double returns l with one of its elements, if it has any, once more.
func double[T any](r *rand.Rand, l []T) []T {
	if len(l) == 0 {
		return l
	}
	return slices.Insert(l, r.Intn(len(l)), pick(r, l))
}

// vary changes something in p, by which it may become invalid.
func vary(r *rand.Rand, p *api.Plan) {
	var e *api.Entry
	if len(p.Entries) > 0 {
		e = &p.Entries[r.Intn(len(p.Entries))]
	}
	switch k := r.Intn(18); {
	case k == 0:
		swap(r, p.Items)
	case k == 1:
		p.Items = drop(r, p.Items)
	case k == 2:
		p.Items = double(r, p.Items)
	case k == 3:
		swap(r, p.Bookings)
	case k == 4:
		p.Bookings = drop(r, p.Bookings)
	case k == 5:
		p.Bookings = double(r, p.Bookings)
	case k == 6:
		p.Entries = double(r, p.Entries)
	case k == 7:
		swap(r, p.Zone.Shifts)
	case k == 8 && e != nil:
		swap(r, e.Alts)
	case k == 9 && e != nil:
		e.Alts = drop(r, e.Alts)
	case k == 10 && e != nil:
		e.Alts = append(e.Alts, api.Alt{Region: 1 + r.Intn(8), Item: pick(r, p.Items).ID})
	case k == 11 && e != nil:
		e.Booking = r.Intn(12)
	case k == 12 && e != nil:
		e.Item = pick(r, p.Items).ID
	case k == 13:
		p.Items[r.Intn(len(p.Items))].Kind = r.Intn(7)
	case k == 14:
		p.Regions = 1 + r.Intn(8)
	default:
		*pick(r, numbers(p)) = pick(r, near(*p))
	}
}

// P8.1: Valid and Encode are what the chapter defines, for plans in which some things were changed.
func TestVariedPlans(t *testing.T) {
	r := rand.New(rand.NewSource(81))
	valid, invalid := 0, 0
	for range 6000 {
		p := randomPlan(r)
		if !checkValid(t, p) {
			t.Fatalf("%+v is not valid", p)
		}
		for range 1 + r.Intn(3) {
			if vary(r, &p); checkValid(t, p) {
				valid++
			} else {
				invalid++
			}
			if len(p.Items) == 0 {
				break
			}
		}
	}
	if valid < 2000 || invalid < 4000 {
		t.Error("too few valid or invalid plans:", valid, invalid)
	}
}

// P8.3: a valid plan remains valid if an entry, a clause, or a booking that no entry names is removed, if entries are exchanged, or if Length is increased.
func TestRemaining(t *testing.T) {
	r := rand.New(rand.NewSource(83))
	removed := 0
	for range 1000 {
		p := randomPlan(r)
		var changed []api.Plan
		for i := range p.Entries {
			q := clone(p, 0)
			q.Entries = slices.Delete(q.Entries, i, i+1)
			changed = append(changed, q)
		}
		for i := range p.Clauses {
			q := clone(p, 0)
			q.Clauses = slices.Delete(q.Clauses, i, i+1)
			changed = append(changed, q)
		}
		for i, b := range p.Bookings {
			if !slices.ContainsFunc(p.Entries, func(e api.Entry) bool { return e.Booking == b.ID }) {
				q := clone(p, 0)
				q.Bookings = slices.Delete(q.Bookings, i, i+1)
				changed = append(changed, q)
				removed++
			}
		}
		shuffled, longer, longest := clone(p, 0), clone(p, 0), clone(p, 0)
		swap(r, shuffled.Entries)
		longer.Length += r.Intn(100000001 - p.Length)
		longest.Length = 100000000
		for _, q := range append(changed, shuffled, longer, longest) {
			if !plan.Valid(q) {
				t.Fatalf("%+v is valid, %+v is not", p, q)
			}
		}
	}
	if removed < 500 {
		t.Error("too few bookings without an entry:", removed)
	}
}
