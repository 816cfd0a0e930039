package plan_test

import (
	"math"
	"math/rand"
	"reflect"
	"slices"
	"testing"

	"onair/api"
	"onair/plan"
)

// rates contains all valid rates.
var rates = []api.Rate{{Num: 24000, Den: 1001}, {Num: 24, Den: 1}, {Num: 25, Den: 1}, {Num: 30000, Den: 1001}, {Num: 30, Den: 1}, {Num: 50, Den: 1}, {Num: 60000, Den: 1001}, {Num: 60, Den: 1}}

// clauses contains a valid clause of each kind.
var clauses = []api.Clause{
	{Kind: api.CGrant, Item: 12, From: 1000, To: 9000, Regions: 7},
	{Kind: api.CWithdraw, Item: 12, From: 0, To: 1, Regions: 255},
	{Kind: api.CRuns, Item: api.MaxInt, N: 3, Regions: 1},
	{Kind: api.CCatchup, Item: 12, N: 600, Regions: 128},
	{Kind: api.CCompete, A: 3, B: 7, N: 900},
	{Kind: api.CWatershed, A: 2, From: 75600, To: 19800},
}

// example returns the plan of the chapter's examples, with some entries and bookings.
func example(entries []api.Entry, bookings ...api.Booking) api.Plan {
	return api.Plan{
		Rate: api.Rate{Num: 25, Den: 1}, Regions: 2, Length: 100, Fill: 1,
		Items:   []api.Item{{ID: 1, Kind: api.KFill, Frames: 10}, {ID: 2, Kind: api.KSpot, Frames: 20}},
		Entries: entries, Bookings: bookings,
	}
}

// full returns a valid plan in which everything occurs, and no two numbers of an element but the least ones are equal.
func full() api.Plan {
	return api.Plan{
		Channel: 38, Rate: api.Rate{Num: 30000, Den: 1001}, Zone: api.Zone{Offset: 3600, Shifts: []api.Shift{{At: 90000, Offset: -7200}, {At: 200000, Offset: 50400}}},
		Epoch: 1234567890, Regions: 4, Length: 1000, Fill: 5,
		Items: []api.Item{
			{ID: 2, Kind: api.KSpot, Frames: 20, Sponsor: 3, Rating: 1}, {ID: 3, Kind: api.KSpot, Frames: 20, Sponsor: 7}, {ID: 5, Kind: api.KFill, Frames: 30},
			{ID: 7, Kind: api.KLive, Frames: 400}, {ID: 8, Kind: api.KPromo, Frames: 20, Rating: 3}, {ID: 9, Kind: api.KProgramme, Frames: 250}, {ID: 999999, Kind: api.KProgramme, Frames: 20, Sponsor: 200},
		},
		Entries: []api.Entry{
			{ID: 41, Item: 9, Frames: 250, Earliest: 10, Latest: 750},
			{ID: 11, Item: 2, Frames: 20, Earliest: 100, Latest: 900, Booking: 61, Alts: []api.Alt{{Region: 1, Item: 3}, {Region: 3, Item: 8}}},
			{ID: 21, Item: 8, Frames: 20, Latest: 980, Booking: 71, Alts: []api.Alt{{Region: 1, Item: 8}, {Region: 2, Item: 3}}},
			{ID: 31, Item: 7, Frames: 399, Earliest: 50, Latest: 60},
		},
		Bookings: []api.Booking{
			{ID: 61, Item: 2, From: 5, To: 6, Until: 7, Price: 500}, {ID: 71, Item: 3, Region: 2, From: 900, To: 1000, Until: 2000, Price: 1000}, {ID: 81, Item: 3, Region: 3, To: 100, Until: 100},
		},
		Clauses: slices.Clone(clauses),
	}
}

// numbersIn appends pointers to all numbers in a value to l.
func numbersIn(v reflect.Value, l []*int) []*int {
	switch v.Kind() {
	case reflect.Int:
		l = append(l, v.Addr().Interface().(*int))
	case reflect.Struct:
		for i := range v.NumField() {
			l = numbersIn(v.Field(i), l)
		}
	case reflect.Slice:
		for i := range v.Len() {
			l = numbersIn(v.Index(i), l)
		}
	}
	return l
}

// numbers returns pointers to all numbers of p.
func numbers(p *api.Plan) []*int {
	return numbersIn(reflect.ValueOf(p).Elem(), nil)
}

// cloneValue sets to to a copy of from that shares no memory with it, whose slices have the given spare capacity, filled with numbers that no plan has.
func cloneValue(to, from reflect.Value, spare int) {
	switch from.Kind() {
	case reflect.Int:
		to.SetInt(from.Int())
	case reflect.Struct:
		for i := range from.NumField() {
			cloneValue(to.Field(i), from.Field(i), spare)
		}
	case reflect.Slice:
		to.Set(reflect.MakeSlice(from.Type(), from.Len()+spare, from.Len()+spare))
		for i, n := range numbersIn(to, nil) {
			*n = -1000 - i
		}
		for i := range from.Len() {
			cloneValue(to.Index(i), from.Index(i), spare)
		}
		to.SetLen(from.Len())
	}
}

// clone returns a copy of p that shares no memory with it, with spare capacity.
func clone(p api.Plan, spare int) api.Plan {
	var q api.Plan
	cloneValue(reflect.ValueOf(&q).Elem(), reflect.ValueOf(p), spare)
	return q
}

// pick returns one of l.
func pick[T any](r *rand.Rand, l []T) T {
	return l[r.Intn(len(l))]
}

// randomItems returns valid items, one of which is fill.
func randomItems(r *rand.Rand) []api.Item {
	var l []api.Item
	id := 0
	for range 1 + r.Intn(7) {
		id += 1 + r.Intn(3)
		l = append(l, api.Item{ID: id, Kind: 1 + r.Intn(5), Frames: pick(r, []int{1, 2, 2, 20, 20, 20, 30}), Sponsor: r.Intn(201), Rating: r.Intn(4)})
	}
	if r.Intn(3) == 0 {
		l[len(l)-1].ID = 1000000
	}
	l[r.Intn(len(l))].Kind = api.KFill
	return l
}

// itemsOf returns the items of p that satisfy a condition.
func itemsOf(p api.Plan, holds func(api.Item) bool) []api.Item {
	return slices.DeleteFunc(slices.Clone(p.Items), func(it api.Item) bool { return !holds(it) })
}

// randomBookings returns valid bookings for the spots of p.
func randomBookings(r *rand.Rand, p api.Plan) []api.Booking {
	spots := itemsOf(p, func(it api.Item) bool { return it.Kind == api.KSpot })
	var l []api.Booking
	id := 0
	for range r.Intn(6) {
		if len(spots) == 0 {
			break
		}
		id += 1 + r.Intn(3)
		b := api.Booking{ID: id, Item: pick(r, spots).ID, Region: r.Intn(p.Regions), From: r.Intn(50), Price: r.Intn(1000000001)}
		b.To = b.From + 1 + r.Intn(3)
		b.Until = b.To + r.Intn(3)
		l = append(l, b)
	}
	return l
}

// randomAlts returns valid alternatives for an entry.
func randomAlts(r *rand.Rand, p api.Plan, e api.Entry) []api.Alt {
	fitting := itemsOf(p, func(it api.Item) bool {
		return it.Frames == e.Frames && it.Kind != api.KFill && it.Kind != api.KLive
	})
	var l []api.Alt
	for region := 1; region < p.Regions; region++ {
		if len(fitting) > 0 && r.Intn(2) == 0 {
			l = append(l, api.Alt{Region: region, Item: pick(r, fitting).ID})
		}
	}
	return l
}

// randomEntry returns a valid entry of an item, and false if there is no place for it.
func randomEntry(r *rand.Rand, p api.Plan, it api.Item) (api.Entry, bool) {
	e := api.Entry{Item: it.ID, Frames: it.Frames}
	if it.Kind == api.KLive {
		e.Frames = 1 + r.Intn(it.Frames)
	}
	if it.Kind == api.KFill || e.Frames > p.Length {
		return api.Entry{}, false
	}
	e.Latest = p.Length - e.Frames
	if r.Intn(3) > 0 {
		e.Latest = r.Intn(e.Latest + 1)
	}
	e.Earliest = e.Latest - min(e.Latest, r.Intn(30))
	if it.Kind != api.KLive {
		e.Alts = randomAlts(r, p, e)
	}
	for _, b := range p.Bookings {
		fulfilled := b.Region == 0 && b.Item == e.Item || b.Region > 0 && slices.Contains(e.Alts, api.Alt{Region: b.Region, Item: b.Item})
		if fulfilled && r.Intn(2) == 0 {
			e.Booking = b.ID
		}
	}
	return e, true
}

// randomPlan returns a valid plan.
func randomPlan(r *rand.Rand) api.Plan {
	p := api.Plan{Channel: r.Intn(40), Rate: pick(r, rates), Epoch: r.Intn(9000000001), Regions: 1 + r.Intn(8), Length: pick(r, []int{1, 20, 99, 100, 100, 1000, 100000000})}
	p.Zone.Offset = r.Intn(100801) - 50400
	for i := range r.Intn(4) {
		p.Zone.Shifts = append(p.Zone.Shifts, api.Shift{At: i*1000 + r.Intn(1000), Offset: r.Intn(100801) - 50400})
	}
	p.Items = randomItems(r)
	p.Fill = itemsOf(p, func(it api.Item) bool { return it.Kind == api.KFill })[0].ID
	p.Bookings = randomBookings(r, p)
	ids := r.Perm(12)
	for _, id := range ids[:r.Intn(8)] {
		if e, ok := randomEntry(r, p, pick(r, p.Items)); ok {
			e.ID = id + 1
			p.Entries = append(p.Entries, e)
		}
	}
	for range r.Intn(4) {
		p.Clauses = append(p.Clauses, pick(r, clauses))
	}
	return p
}

// many contains numbers that are IDs of no element, or of one or the other.
var many = []int{math.MinInt, -1, 0, 1, 2, 3, 4, 5, 6, 7, 8, 9, 10, 11, 12, 13, 14, 1000000, 1000001, api.MaxInt, math.MaxInt}

// P8.1: the first item, entry and booking with an ID is found, also in plans that are not valid and for numbers that are not IDs.
func TestFirst(t *testing.T) {
	p := api.Plan{
		Items:    []api.Item{{ID: 5, Kind: 1}, {ID: 0, Kind: 2}, {ID: 5, Kind: 3}, {ID: -1, Kind: 4}, {ID: math.MaxInt, Kind: 5}, {ID: 2, Kind: 6}},
		Entries:  []api.Entry{{ID: 5, Item: 1}, {ID: 0, Item: 2}, {ID: 5, Item: 3}, {ID: -1, Item: 4}, {ID: math.MaxInt, Item: 5}, {ID: 2, Item: 6}},
		Bookings: []api.Booking{{ID: 5, Item: 1}, {ID: 0, Item: 2}, {ID: 5, Item: 3}, {ID: -1, Item: 4}, {ID: math.MaxInt, Item: 5}, {ID: 2, Item: 6}},
	}
	want := map[int]int{5: 1, 0: 2, -1: 4, math.MaxInt: 5, 2: 6}
	for _, id := range many {
		n, there := want[id]
		it, ok := plan.Item(p, id)
		if ok != there || it.Kind != n || ok && it.ID != id {
			t.Errorf("Item %d: %v, %t", id, it, ok)
		}
		e, ok := plan.Entry(p, id)
		if ok != there || e.Item != n || ok && e.ID != id {
			t.Errorf("Entry %d: %v, %t", id, e, ok)
		}
		b, ok := plan.Booking(p, id)
		if ok != there || b.Item != n || ok && b.ID != id {
			t.Errorf("Booking %d: %v, %t", id, b, ok)
		}
	}
	if it, ok := plan.Item(api.Plan{}, 0); ok || it != (api.Item{}) {
		t.Error("an item of an empty plan")
	}
}

// P8.1: all fields of what is found are those of the element.
func TestFoundFields(t *testing.T) {
	p := full()
	if it, ok := plan.Item(p, 2); !ok || it != p.Items[0] {
		t.Error(it)
	}
	if e, ok := plan.Entry(p, 21); !ok || !reflect.DeepEqual(e, p.Entries[2]) {
		t.Error(e)
	}
	if b, ok := plan.Booking(p, 71); !ok || b != p.Bookings[1] {
		t.Error(b)
	}
	if e, ok := plan.Entry(p, 22); ok || !reflect.DeepEqual(e, api.Entry{}) {
		t.Error(e)
	}
}

// P8.4: in a valid plan, every item, entry and booking is found by its ID, and nothing else; every entry's item, alternatives and booking exist.
func TestParts(t *testing.T) {
	r := rand.New(rand.NewSource(84))
	alts, booked := 0, 0
	for range 2000 {
		p := randomPlan(r)
		if !plan.Valid(p) {
			t.Fatalf("%+v is not valid", p)
		}
		items, entries, bookings := map[int]api.Item{}, map[int]api.Entry{}, map[int]api.Booking{}
		for _, it := range p.Items {
			items[it.ID] = it
		}
		for _, b := range p.Bookings {
			bookings[b.ID] = b
		}
		for _, e := range p.Entries {
			entries[e.ID] = e
			if _, ok := plan.Item(p, e.Item); !ok {
				t.Fatalf("the item of %+v is not in %+v", e, p)
			}
			for _, a := range e.Alts {
				alts++
				if _, ok := plan.Item(p, a.Item); !ok {
					t.Fatalf("the alternative %+v is not in %+v", a, p)
				}
			}
			if e.Booking != 0 {
				booked++
				if _, ok := plan.Booking(p, e.Booking); !ok {
					t.Fatalf("the booking of %+v is not in %+v", e, p)
				}
			}
		}
		for _, id := range many {
			it, hasItem := plan.Item(p, id)
			e, hasEntry := plan.Entry(p, id)
			b, hasBooking := plan.Booking(p, id)
			_, isItem := items[id]
			_, isEntry := entries[id]
			_, isBooking := bookings[id]
			if hasItem != isItem || hasEntry != isEntry || hasBooking != isBooking || it != items[id] || !reflect.DeepEqual(e, entries[id]) || b != bookings[id] {
				t.Fatalf("ID %d of %+v: %+v, %+v, %+v", id, p, it, e, b)
			}
		}
	}
	if alts < 1000 || booked < 300 {
		t.Error("too few alternatives or booked entries:", alts, booked)
	}
}

// P8.1: plans are the same if all of their fields are equal, also if they are not valid, or if lists are nil or empty.
func TestSame(t *testing.T) {
	invalid := full()
	invalid.Length, invalid.Items[0].ID, invalid.Entries[1].Alts[0].Region = -5, -7, 100
	for _, p := range []api.Plan{full(), invalid, {}, {Entries: make([]api.Entry, 2), Items: make([]api.Item, 2)}} {
		if q := clone(p, 3); !plan.Same(p, q) || !plan.Same(q, p) {
			t.Errorf("%+v is not the same as itself", p)
		}
		for i := range numbers(&p) {
			for _, d := range []int{1, -1, 1 << 32, math.MinInt} {
				q := clone(p, 0)
				*numbers(&q)[i] += d
				if plan.Same(p, q) || plan.Same(q, p) {
					t.Fatalf("%+v is the same as %+v", p, q)
				}
			}
		}
	}
	long := api.Plan{Items: make([]api.Item, 5000), Clauses: make([]api.Clause, 5000)}
	if other := clone(long, 0); !plan.Same(long, other) {
		t.Error("long lists are not the same")
	} else if other.Items[4999].Rating = 1; plan.Same(long, other) {
		t.Error("the last of many items is not compared")
	}
	empty := api.Plan{Zone: api.Zone{Shifts: []api.Shift{}}, Items: []api.Item{}, Entries: []api.Entry{}, Bookings: []api.Booking{}, Clauses: []api.Clause{}}
	if !plan.Same(api.Plan{}, empty) || !plan.Same(empty, api.Plan{}) {
		t.Error("an empty list is not the same as none")
	}
	if !plan.Same(api.Plan{Entries: []api.Entry{{Alts: []api.Alt{}}}}, api.Plan{Entries: []api.Entry{{}}}) {
		t.Error("an empty list of alternatives is not the same as none")
	}
}

// P8.1: plans are not the same if a list lacks its last element, or has another order.
func TestSameLists(t *testing.T) {
	for name, change := range map[string]func(p *api.Plan){
		"shifts":                  func(p *api.Plan) { p.Zone.Shifts = p.Zone.Shifts[:1] },
		"items":                   func(p *api.Plan) { p.Items = p.Items[:6] },
		"entries":                 func(p *api.Plan) { p.Entries = p.Entries[:3] },
		"alternatives":            func(p *api.Plan) { p.Entries[1].Alts = p.Entries[1].Alts[:1] },
		"no alternatives":         func(p *api.Plan) { p.Entries[2].Alts = nil },
		"bookings":                func(p *api.Plan) { p.Bookings = p.Bookings[:2] },
		"clauses":                 func(p *api.Plan) { p.Clauses = p.Clauses[:5] },
		"no clauses":              func(p *api.Plan) { p.Clauses = nil },
		"order of shifts":         func(p *api.Plan) { slices.Reverse(p.Zone.Shifts) },
		"order of items":          func(p *api.Plan) { slices.Reverse(p.Items) },
		"order of entries":        func(p *api.Plan) { slices.Reverse(p.Entries) },
		"order of alternatives":   func(p *api.Plan) { slices.Reverse(p.Entries[1].Alts) },
		"order of bookings":       func(p *api.Plan) { slices.Reverse(p.Bookings) },
		"order of clauses":        func(p *api.Plan) { slices.Reverse(p.Clauses) },
		"another alternative":     func(p *api.Plan) { p.Entries[0].Alts = []api.Alt{{}} },
		"another empty item":      func(p *api.Plan) { p.Items = append(p.Items, api.Item{}) },
		"another empty entry":     func(p *api.Plan) { p.Entries = append(p.Entries, api.Entry{}) },
		"another empty booking":   func(p *api.Plan) { p.Bookings = append(p.Bookings, api.Booking{}) },
		"another empty clause":    func(p *api.Plan) { p.Clauses = append(p.Clauses, api.Clause{}) },
		"another empty shift":     func(p *api.Plan) { p.Zone.Shifts = append(p.Zone.Shifts, api.Shift{}) },
		"alternatives exchanged":  func(p *api.Plan) { p.Entries[1].Alts, p.Entries[2].Alts = p.Entries[2].Alts, p.Entries[1].Alts },
		"alternatives moved away": func(p *api.Plan) { p.Entries[0].Alts, p.Entries[1].Alts = p.Entries[1].Alts, nil },
	} {
		p := full()
		change(&p)
		if plan.Same(p, full()) || plan.Same(full(), p) {
			t.Error(name)
		}
	}
}

// P8.1 (R3): no function changes its argument or the spare capacity of its lists, and what is found shares no memory with the plan.
func TestMemory(t *testing.T) {
	p := clone(full(), 2)
	before := everything(p)
	plan.Valid(p)
	plan.Same(p, full())
	plan.Encode(p)
	plan.Item(p, 7)
	plan.Booking(p, 71)
	for range 2 {
		e, _ := plan.Entry(p, 11)
		e.Alts[0].Item = 77
		_ = append(e.Alts, api.Alt{Region: 78})
	}
	if !reflect.DeepEqual(everything(p), before) {
		t.Error("the plan was changed")
	}
}

// everything returns all numbers of p, with those of the spare capacity.
func everything(p api.Plan) []int {
	q := p
	q.Zone.Shifts, q.Items, q.Entries = q.Zone.Shifts[:cap(q.Zone.Shifts)], q.Items[:cap(q.Items)], slices.Clone(q.Entries[:cap(q.Entries)])
	q.Bookings, q.Clauses = q.Bookings[:cap(q.Bookings)], q.Clauses[:cap(q.Clauses)]
	for i, e := range q.Entries {
		q.Entries[i].Alts = e.Alts[:cap(e.Alts)]
	}
	var l []int
	for _, n := range numbers(&q) {
		l = append(l, *n)
	}
	return l
}
