package rights_test

import (
	"math"
	"math/rand"
	"slices"
	"testing"

	"onair/api"
	"onair/rights"
	"onair/span"
)

// parse returns the clauses of a text that is right.
func parse(t *testing.T, s string) []api.Clause {
	t.Helper()
	l, at, err := rights.Parse(s)
	if err != api.OK {
		t.Fatalf("%q: line %d", s, at)
	}
	return l
}

// spans makes a list of pairs of integers.
func spans(l ...int) []api.Span {
	var out []api.Span
	for i := 0; i < len(l); i += 2 {
		out = append(out, api.Span{From: l[i], To: l[i+1]})
	}
	return out
}

// hasRegion reports whether a set contains a region.
func hasRegion(set, region int) bool {
	return region >= 0 && region <= 7 && set/(1<<region)%2 == 1
}

// isGranted reports whether an item may be shown in a region at a second, as the chapter defines it.
func isGranted(l []api.Clause, item, region, x int) bool {
	granted := false
	for _, c := range l {
		counts := (c.Kind == api.CGrant || c.Kind == api.CWithdraw) && c.Item == item && hasRegion(c.Regions, region) && isValid(c)
		if counts && c.From <= x && x < c.To {
			granted = c.Kind == api.CGrant
		}
	}
	return granted
}

// granted returns the seconds that isGranted grants, as a valid list. They begin and end where windows do.
func granted(l []api.Clause, item, region int) []api.Span {
	var at []int
	for _, c := range l {
		at = append(at, c.From, c.To)
	}
	slices.Sort(at)
	var out []api.Span
	for i := 1; i < len(at); i++ {
		s := api.Span{From: at[i-1], To: at[i]}
		switch {
		case s.From == s.To || !isGranted(l, item, region, s.From):
		case len(out) > 0 && out[len(out)-1].To == s.From:
			out[len(out)-1].To = s.To
		default:
			out = append(out, s)
		}
	}
	return out
}

// P6.1: the chapter's examples of Spans, and windows that touch, overlap and enclose each other.
func TestSpansExamples(t *testing.T) {
	for _, c := range []struct {
		text   string
		region int
		want   []api.Span
	}{
		{"grant 12 from 1000 to 9000 in all\nwithdraw 12 from 3000 to 4000 in 1", 1, spans(1000, 3000, 4000, 9000)},
		{"grant 12 from 1000 to 9000 in all\nwithdraw 12 from 3000 to 4000 in 1", 0, spans(1000, 9000)},
		{"", 0, nil}, {"grant 13 from 1 to 2 in all", 0, nil}, {"withdraw 12 from 1 to 2 in all", 0, nil},
		{"grant 12 from 1 to 2 in 0,2", 1, nil}, {"grant 12 from 1 to 2 in 0,2", 2, spans(1, 2)}, {"grant 12 from 1 to 2 in 7", 7, spans(1, 2)},
		{"grant 12 from 1 to 2 in all", 8, nil}, {"grant 12 from 1 to 2 in all", -1, nil}, {"grant 12 from 1 to 2 in all", 64, nil}, {"grant 12 from 1 to 2 in all", math.MinInt, nil}, {"grant 12 from 1 to 2 in all", math.MaxInt, nil},
		{"grant 12 from 1 to 2 in 0\ngrant 12 from 2 to 3 in 0", 0, spans(1, 3)}, {"grant 12 from 2 to 3 in 0\ngrant 12 from 1 to 2 in 0", 0, spans(1, 3)}, {"grant 12 from 1 to 2 in 0\ngrant 12 from 3 to 4 in 0", 0, spans(1, 2, 3, 4)},
		{"grant 12 from 1 to 2 in 0\ngrant 12 from 3 to 4 in 0\ngrant 12 from 2 to 3 in 0", 0, spans(1, 4)}, {"grant 12 from 1 to 2 in 0\ngrant 12 from 3 to 4 in 0\ngrant 12 from 0 to 9 in 0", 0, spans(0, 9)},
		{"grant 12 from 0 to 9 in 0\nwithdraw 12 from 0 to 9 in 0", 0, nil}, {"grant 12 from 0 to 9 in 0\nwithdraw 12 from 0 to 1 in 0\nwithdraw 12 from 8 to 9 in 0", 0, spans(1, 8)},
		{"withdraw 12 from 3 to 4 in 0\ngrant 12 from 0 to 9 in 0", 0, spans(0, 9)}, {"grant 12 from 0 to 9 in 0\nwithdraw 12 from 3 to 6 in 0\ngrant 12 from 4 to 5 in 0", 0, spans(0, 3, 4, 5, 6, 9)},
		{"grant 12 from 0 to 3 in 0\ngrant 12 from 6 to 9 in 0\nwithdraw 12 from 3 to 6 in 0", 0, spans(0, 3, 6, 9)}, {"grant 12 from 0 to 3 in 0\ngrant 12 from 6 to 9 in 0\nwithdraw 12 from 2 to 7 in 0", 0, spans(0, 2, 7, 9)},
		{"grant 12 from 0 to 10000000000 in 0", 0, spans(0, 10000000000)}, {"grant 12 from 0 to 10000000000 in 0\nwithdraw 12 from 1 to 9999999999 in 0", 0, spans(0, 1, 9999999999, 10000000000)},
		{"runs 12 1 in all\ncatchup 12 5 in all\ncompete 12 7 gap 1\nwatershed 1 from 00:00 to 00:01", 0, nil},
	} {
		if got := rights.Spans(parse(t, c.text), 12, c.region); !slices.Equal(got, c.want) {
			t.Errorf("Spans of %q in region %d: %v", c.text, c.region, got)
		}
	}
}

// P6.1: Spans is what the chapter defines, as a valid list, for lists with other clauses and with invalid ones.
func TestSpans(t *testing.T) {
	r := rand.New(rand.NewSource(63))
	for range 4000 {
		l := randomClauses(r, 20)
		for item := range 5 {
			for region := -1; region <= 8; region++ {
				got := rights.Spans(l, item, region)
				if want := granted(l, item, region); !slices.Equal(got, want) || !span.Valid(got) {
					t.Fatalf("Spans(%v, %d, %d) = %v, not %v", l, item, region, got, want)
				}
			}
		}
	}
}

// P6.1: clauses that are not valid grant and withdraw nothing, whichever of their fields is wrong.
func TestInvalidWindows(t *testing.T) {
	grant := api.Clause{Kind: api.CGrant, Item: 1, From: 10, To: 20, Regions: 255}
	for _, c := range []api.Clause{
		{Kind: api.CWithdraw, Item: 1, From: 12, To: 15, Regions: 256 + 255}, {Kind: api.CWithdraw, Item: 1, From: 12, To: 15, Regions: -1}, {Kind: api.CWithdraw, Item: 1, From: -1, To: 15, Regions: 255}, {Kind: api.CWithdraw, Item: 1, From: 12, To: 10000000001, Regions: 255},
		{Kind: api.CWithdraw, Item: 1, From: 12, To: 15, Regions: 255, N: 1}, {Kind: api.CWithdraw, Item: 1, From: 12, To: 15, Regions: 255, A: 1}, {Kind: api.CWithdraw, Item: 1, From: 12, To: 15, Regions: 255, B: -1}, {Kind: 0, Item: 1, From: 12, To: 15, Regions: 255}, {Kind: 7, Item: 1, From: 12, To: 15, Regions: 255},
		{Kind: api.CGrant, Item: 1, From: 5, To: 30, Regions: 255, N: 1}, {Kind: api.CGrant, Item: 1, From: 30, To: 5, Regions: 255}, {Kind: api.CGrant, Item: 1, From: 5, To: 30, Regions: 0}, {Kind: api.CGrant, Item: 1, From: math.MinInt, To: math.MaxInt, Regions: 255},
	} {
		for _, l := range [][]api.Clause{{grant, c}, {c, grant}, {c, grant, c}} {
			if got := rights.Spans(l, 1, 0); !slices.Equal(got, spans(10, 20)) {
				t.Errorf("Spans(%v) = %v", l, got)
			}
		}
	}
	for _, item := range []int{0, -1, api.MaxInt + 1, math.MinInt} {
		if got := rights.Spans([]api.Clause{{Kind: api.CGrant, Item: item, From: 1, To: 2, Regions: 255}}, item, 0); len(got) > 0 {
			t.Errorf("item %d: %v", item, got)
		}
	}
}

// P6.3: appending a grant adds exactly its seconds to the Spans of its item in its regions, appending a withdrawal removes them, and both leave all others as they are.
func TestAppend(t *testing.T) {
	r := rand.New(rand.NewSource(64))
	for range 2000 {
		l := randomClauses(r, 30)
		c := api.Clause{Kind: 1 + r.Intn(2), Item: 1 + r.Intn(3), From: r.Intn(12), Regions: 1 + r.Intn(255)}
		c.To = c.From + 1 + r.Intn(6)
		longer := append(slices.Clone(l), c)
		for item := range 5 {
			for region := -1; region <= 8; region++ {
				want := rights.Spans(l, item, region)
				switch {
				case item != c.Item || !hasRegion(c.Regions, region):
				case c.Kind == api.CGrant:
					want = span.Union(want, spans(c.From, c.To))
				default:
					want = span.Subtract(want, spans(c.From, c.To))
				}
				if got := rights.Spans(longer, item, region); !slices.Equal(got, want) {
					t.Fatalf("Spans(%v, %d, %d) = %v, not %v", longer, item, region, got, want)
				}
			}
		}
	}
}

// P6.5: the Spans of an item in a region depend only on the grants and withdrawals of this item that name this region.
func TestOtherClauses(t *testing.T) {
	r := rand.New(rand.NewSource(65))
	for range 2000 {
		l := randomClauses(r, 30)
		item, region := 1+r.Intn(3), r.Intn(8)
		isOther := func(c api.Clause) bool {
			return c.Kind > api.CWithdraw || c.Item != item || !hasRegion(c.Regions, region)
		}
		var changed []api.Clause
		for _, c := range slices.DeleteFunc(slices.Clone(l), isOther) {
			for r.Intn(2) == 0 {
				if other := randomClause(r); isOther(other) {
					changed = append(changed, other)
				}
			}
			changed = append(changed, c)
		}
		if got, want := rights.Spans(changed, item, region), rights.Spans(l, item, region); !slices.Equal(got, want) {
			t.Fatalf("Spans(%v, %d, %d) = %v, those of %v are %v", changed, item, region, got, l, want)
		}
	}
}

// P6.1: the lists of clauses may be long.
func TestManyWindows(t *testing.T) {
	const n = 30000
	var l []api.Clause
	var first, second []api.Span
	for i := range n {
		k := (i * 7919) % n * 10 // all multiples of 10, not ascending
		l = append(l, api.Clause{Kind: api.CGrant, Item: 1, From: k, To: k + 5, Regions: 1}, api.Clause{Kind: api.CGrant, Item: 1, From: k, To: k + 10, Regions: 2}, api.Clause{Kind: api.CWithdraw, Item: 1, From: k + 2, To: k + 3, Regions: 1})
		first = append(first, api.Span{From: i * 10, To: i*10 + 2}, api.Span{From: i*10 + 3, To: i*10 + 5})
		second = spans(0, n*10)
	}
	if !slices.Equal(rights.Spans(l, 1, 0), first) || !slices.Equal(rights.Spans(l, 1, 1), second) {
		t.Error("many windows")
	}
}

// lastN returns N of the last valid clause of a kind for an item in a region, as the chapter defines it.
func lastN(l []api.Clause, kind, item, region, none int) int {
	for _, c := range slices.Backward(l) {
		if c.Kind == kind && c.Item == item && hasRegion(c.Regions, region) && isValid(c) {
			return c.N
		}
	}
	return none
}

// P6.1: the chapter's examples of Runs and Gap, and the like of Catchup.
func TestNumberExamples(t *testing.T) {
	l := parse(t, "runs 12 3 in 0\nruns 12 1 in all\nruns 14 0 in 1\ncatchup 12 600 in 1\ncatchup 12 5 in 1,2\ncatchup 12 0 in 3\ncompete 3 7 gap 900\ncompete 7 3 gap 100\ncompete 3 8 gap 0\ncompete 9 3 gap 1\ncompete 3 9 gap 86400\n")
	for i, c := range [][2]int{
		{rights.Runs(l, 12, 0), 1}, {rights.Runs(l, 13, 0), -1}, {rights.Runs(l[:1], 12, 0), 3}, {rights.Runs(l[:1], 12, 1), -1}, {rights.Runs(l, 14, 1), 0}, {rights.Runs(l, 14, 0), -1}, {rights.Runs(nil, 12, 0), -1},
		{rights.Runs(l, 12, 8), -1}, {rights.Runs(l, 12, -1), -1}, {rights.Runs(l, 12, 64), -1}, {rights.Runs(l, 12, math.MinInt), -1}, {rights.Runs(l, 0, 0), -1},
		{rights.Catchup(l, 12, 1), 5}, {rights.Catchup(l, 12, 2), 5}, {rights.Catchup(l, 12, 0), 0}, {rights.Catchup(l, 12, 3), 0}, {rights.Catchup(l, 13, 1), 0}, {rights.Catchup(l, 12, 8), 0}, {rights.Catchup(l, 12, -1), 0}, {rights.Catchup(nil, 12, 1), 0},
		{rights.Gap(l, 7, 3), 900}, {rights.Gap(l, 3, 7), 900}, {rights.Gap(l, 3, 3), 0}, {rights.Gap(l, 8, 3), 0}, {rights.Gap(l, 3, 9), 86400}, {rights.Gap(l, 9, 3), 86400}, {rights.Gap(l, 7, 9), 0}, {rights.Gap(l, 0, 0), 0}, {rights.Gap(nil, 3, 7), 0},
	} {
		if c[0] != c[1] {
			t.Errorf("example %d: %d, not %d", i, c[0], c[1])
		}
	}
}

// P6.1: Runs, Catchup and Gap are what the chapter defines, for lists with other clauses and with invalid ones.
func TestNumbers(t *testing.T) {
	r := rand.New(rand.NewSource(66))
	for range 3000 {
		l := randomClauses(r, 40)
		for item := range 5 {
			for region := -1; region <= 8; region++ {
				if got, want := rights.Runs(l, item, region), lastN(l, api.CRuns, item, region, -1); got != want {
					t.Fatalf("Runs(%v, %d, %d) = %d, not %d", l, item, region, got, want)
				}
				if got, want := rights.Catchup(l, item, region), lastN(l, api.CCatchup, item, region, 0); got != want {
					t.Fatalf("Catchup(%v, %d, %d) = %d, not %d", l, item, region, got, want)
				}
			}
		}
		for range 30 {
			a, b := r.Intn(14), r.Intn(14)
			want := 0
			for _, c := range l {
				if c.Kind == api.CCompete && isValid(c) && (c.A == a && c.B == b || c.A == b && c.B == a) && c.N > want {
					want = c.N
				}
			}
			if got := rights.Gap(l, a, b); got != want {
				t.Fatalf("Gap(%v, %d, %d) = %d, not %d", l, a, b, got, want)
			}
		}
	}
}

// P6.1: a clause that is not valid sets no number, restricts no rating, and does not hide a valid one.
func TestInvalidNumbers(t *testing.T) {
	l := parse(t, "runs 1 3 in all\ncatchup 1 4 in all\ncompete 1 2 gap 5\nwatershed 1 from 00:00 to 00:01")
	l = append(l,
		api.Clause{Kind: api.CRuns, Item: 1, N: 1001, Regions: 255}, api.Clause{Kind: api.CRuns, Item: 1, N: -1, Regions: 255}, api.Clause{Kind: api.CRuns, Item: 1, N: 9, Regions: 511}, api.Clause{Kind: api.CRuns, Item: 1, N: 9, Regions: 255, A: 1}, api.Clause{Kind: api.CRuns, Item: 1, N: 9, Regions: 255, To: 1},
		api.Clause{Kind: api.CCatchup, Item: 1, N: 10000000001, Regions: 255}, api.Clause{Kind: api.CCatchup, Item: 1, N: -1, Regions: 255}, api.Clause{Kind: api.CCatchup, Item: 1, N: 9, Regions: -1}, api.Clause{Kind: api.CCatchup, Item: 1, N: 9, Regions: 255, From: 1},
		api.Clause{Kind: api.CCompete, A: 1, B: 2, N: 86401}, api.Clause{Kind: api.CCompete, A: 1, B: 2, N: 9, Item: 1}, api.Clause{Kind: api.CCompete, A: 1, B: 2, N: 9, Regions: 1}, api.Clause{Kind: api.CCompete, A: 3, B: 3, N: 9}, api.Clause{Kind: api.CCompete, A: 0, B: 201, N: 9},
		api.Clause{Kind: api.CWatershed, A: 0, From: 0, To: 60}, api.Clause{Kind: api.CWatershed, A: 1, From: 0, To: 0}, api.Clause{Kind: api.CWatershed, A: 1, From: 0, To: 61}, api.Clause{Kind: api.CWatershed, A: 1, From: 0, To: 60, N: 1}, api.Clause{Kind: api.CWatershed, A: 1, From: 0, To: 60, B: 1}, api.Clause{Kind: api.CWatershed, A: -1, From: 0, To: 60},
	)
	if runs, catchup, gap := rights.Runs(l, 1, 0), rights.Catchup(l, 1, 0), rights.Gap(l, 2, 1); runs != 3 || catchup != 4 || gap != 5 {
		t.Error(runs, catchup, gap)
	}
	if same, far := rights.Gap(l, 3, 3), rights.Gap(l, 0, 201); same != 0 || far != 0 {
		t.Error(same, far)
	}
	if got := rights.Watersheds(l, 3); !slices.Equal(got, spans(0, 60)) {
		t.Error(got)
	}
}

// P6.1: Watersheds returns the windows of the ratings up to one, in the order of the clauses; they may include midnight, overlap and repeat.
func TestWatersheds(t *testing.T) {
	l := parse(t, "watershed 2 from 21:00 to 05:30\nwatershed 1 from 06:00 to 07:00\ngrant 1 from 60 to 120 in all\nwatershed 3 from 23:00 to 04:00\nwatershed 1 from 00:00 to 23:59\nwatershed 2 from 21:00 to 05:30")
	two, one, three := spans(75600, 19800), spans(21600, 25200), spans(82800, 14400)
	day := spans(0, 86340)
	for rating, want := range map[int][]api.Span{
		math.MinInt: nil, -1: nil, 0: nil, 1: slices.Concat(one, day), 2: slices.Concat(two, one, day, two), 3: slices.Concat(two, one, three, day, two), 4: slices.Concat(two, one, three, day, two), math.MaxInt: slices.Concat(two, one, three, day, two),
	} {
		if got := rights.Watersheds(l, rating); !slices.Equal(got, want) {
			t.Errorf("rating %d: %v", rating, got)
		}
	}
	if got := rights.Watersheds(nil, 3); len(got) > 0 {
		t.Error(got)
	}
}

// P6.4: the watersheds of a rating are those of a higher one without some of them, in the same order; those of a rating are of the valid clauses.
func TestHigherRatings(t *testing.T) {
	r := rand.New(rand.NewSource(67))
	for range 2000 {
		l := randomClauses(r, 40)
		for rating := -1; rating <= 4; rating++ {
			var want []api.Span
			for _, c := range l {
				if c.Kind == api.CWatershed && isValid(c) && c.A <= rating {
					want = append(want, api.Span{From: c.From, To: c.To})
				}
			}
			lower := rights.Watersheds(l, rating)
			if !slices.Equal(lower, want) {
				t.Fatalf("Watersheds(%v, %d) = %v, not %v", l, rating, lower, want)
			}
			for _, s := range rights.Watersheds(l, rating+1) {
				if len(lower) > 0 && lower[0] == s {
					lower = lower[1:]
				}
			}
			if len(lower) > 0 {
				t.Fatalf("rating %d of %v lacks %v", rating+1, l, lower)
			}
		}
	}
}

// R3: the clauses and the spare capacity behind them stay as they are, and results share no memory.
func TestMemory(t *testing.T) {
	r := rand.New(rand.NewSource(68))
	for range 300 {
		l := randomClauses(r, 30)
		whole := l[:cap(l)]
		for i := len(l); i < cap(l); i++ {
			whole[i] = bases[i%len(bases)]
		}
		before := slices.Clone(whole)
		for _, results := range [][2][]api.Span{{rights.Spans(l, 1, 0), rights.Spans(l, 1, 0)}, {rights.Watersheds(l, 3), rights.Watersheds(l, 3)}} {
			kept := slices.Clone(results[1])
			for i := range results[0][:cap(results[0])] {
				results[0][:cap(results[0])][i] = api.Span{From: -9, To: -8}
			}
			if !slices.Equal(results[1], kept) {
				t.Fatal("results share memory")
			}
		}
		rights.Runs(l, 1, 0)
		rights.Catchup(l, 1, 0)
		rights.Gap(l, 1, 2)
		rights.Print(l)
		if !slices.Equal(whole, before) {
			t.Fatal("the clauses were changed")
		}
	}
	text := lines[0].line
	first, _, _ := rights.Parse(text)
	second, _, _ := rights.Parse(text)
	clear(first[:cap(first)])
	if third, _, _ := rights.Parse(text); second[0] != lines[0].c || third[0] != lines[0].c {
		t.Error("results of Parse share memory")
	}
}
