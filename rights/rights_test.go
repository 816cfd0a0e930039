package rights_test

import (
	"math"
	"math/rand"
	"slices"
	"testing"

	"onair/api"
	"onair/rights"
)

// limits contains the fields that each kind uses, and their least and greatest values.
var limits = map[int]map[string][2]int{
	api.CGrant:     {"Item": {1, 4611686018427387903}, "From": {0, 10000000000}, "To": {0, 10000000000}, "Regions": {1, 255}},
	api.CWithdraw:  {"Item": {1, 4611686018427387903}, "From": {0, 10000000000}, "To": {0, 10000000000}, "Regions": {1, 255}},
	api.CRuns:      {"Item": {1, 4611686018427387903}, "N": {0, 1000}, "Regions": {1, 255}},
	api.CCatchup:   {"Item": {1, 4611686018427387903}, "N": {0, 10000000000}, "Regions": {1, 255}},
	api.CCompete:   {"A": {1, 200}, "B": {1, 200}, "N": {0, 86400}},
	api.CWatershed: {"A": {1, 3}, "From": {0, 86340}, "To": {0, 86340}},
}

// edges contains numbers at and beside the limits of fields.
var edges = []int{math.MinInt, -60, -1, 0, 1, 2, 3, 4, 59, 60, 61, 120, 199, 200, 201, 254, 255, 256, 257, 1000, 1001, 86339, 86340, 86341, 86399, 86400, 86401, 9999999999, 10000000000, 10000000001, api.MaxInt - 1, api.MaxInt, api.MaxInt + 1, math.MaxInt}

// bases contains a valid clause of each kind.
var bases = []api.Clause{
	{Kind: api.CGrant, Item: 12, From: 1000, To: 9000, Regions: 7},
	{Kind: api.CWithdraw, Item: 12, From: 0, To: 1, Regions: 255},
	{Kind: api.CRuns, Item: 12, N: 3, Regions: 1},
	{Kind: api.CCatchup, Item: 12, N: 600, Regions: 128},
	{Kind: api.CCompete, A: 3, B: 7, N: 900},
	{Kind: api.CWatershed, A: 2, From: 75600, To: 19800},
}

// names contains the names of the fields of a clause but Kind.
var names = []string{"Item", "From", "To", "Regions", "N", "A", "B"}

// fields returns the fields of c by their names.
func fields(c *api.Clause) map[string]*int {
	return map[string]*int{"Item": &c.Item, "From": &c.From, "To": &c.To, "Regions": &c.Regions, "N": &c.N, "A": &c.A, "B": &c.B}
}

// isValid reports whether c is valid, as the chapter defines it.
func isValid(c api.Clause) bool {
	used, ok := limits[c.Kind]
	for name, value := range fields(&c) {
		l := used[name] // from 0 to 0 for a field that is not used
		ok = ok && *value >= l[0] && *value <= l[1]
	}
	switch c.Kind {
	case api.CGrant, api.CWithdraw:
		return ok && c.From < c.To
	case api.CCompete:
		return ok && c.A != c.B
	case api.CWatershed:
		return ok && c.From%60 == 0 && c.To%60 == 0 && c.From != c.To
	}
	return ok
}

// randomClause returns a clause, mostly a valid one, about one of few items.
func randomClause(r *rand.Rand) api.Clause {
	c := api.Clause{Kind: 1 + r.Intn(6)}
	for _, name := range names { // in this order, so that every run has the same clauses
		l := limits[c.Kind][name]
		*fields(&c)[name] = l[0] + r.Intn(min(l[1]-l[0], 12)+1)
	}
	switch {
	case c.Kind == api.CWatershed:
		c.From, c.To = 60*c.From, 60*c.To
	case c.Regions > 0:
		c.Regions = 1 + r.Intn(255)
	}
	if c.Item > 3 {
		c.Item = 1 + c.Item%3
	}
	if r.Intn(8) == 0 {
		*fields(&c)[names[r.Intn(len(names))]] = edges[r.Intn(len(edges))]
	}
	return c
}

// randomClauses returns up to n clauses, some of which may be invalid.
func randomClauses(r *rand.Rand, n int) []api.Clause {
	l := make([]api.Clause, r.Intn(n+1), n+5)
	for i := range l {
		l[i] = randomClause(r)
	}
	return l
}

// P6.1: Valid is what the chapter's table defines, for all pairs of fields with numbers at the limits, and all kinds.
func TestValid(t *testing.T) {
	for _, base := range bases {
		if !rights.Valid(base) {
			t.Errorf("%+v is not valid", base)
		}
		for i, first := range names {
			for _, second := range names[i:] {
				for _, m := range edges {
					for _, n := range edges {
						c := base
						*fields(&c)[first], *fields(&c)[second] = m, n
						if rights.Valid(c) != isValid(c) {
							t.Fatalf("Valid(%+v) = %t", c, !isValid(c))
						}
					}
				}
			}
		}
	}
}

// P6.1: a kind that is not in the table makes every clause invalid, and the kinds do not use each other's fields.
func TestValidKinds(t *testing.T) {
	for _, base := range append(slices.Clone(bases), api.Clause{}) {
		for kind := -1; kind <= 9; kind++ {
			c := base
			c.Kind = kind
			if rights.Valid(c) != isValid(c) {
				t.Errorf("Valid(%+v) = %t", c, !isValid(c))
			}
		}
		for _, kind := range edges {
			c := base
			c.Kind = kind
			if rights.Valid(c) != isValid(c) {
				t.Errorf("Valid(%+v) = %t", c, !isValid(c))
			}
		}
	}
}

// P6.1: From is before To in a window of seconds; the times of a watershed are minutes, in any order.
func TestValidWindows(t *testing.T) {
	for _, c := range []struct {
		kind, from, to int
		want           bool
	}{
		{api.CGrant, 0, 1, true}, {api.CGrant, 0, 0, false}, {api.CGrant, 1, 0, false}, {api.CGrant, 9999999999, 10000000000, true}, {api.CGrant, 10000000000, 10000000000, false},
		{api.CGrant, 0, 10000000001, false}, {api.CGrant, -1, 1, false}, {api.CWithdraw, 0, 10000000000, true}, {api.CWithdraw, 5, 5, false}, {api.CWithdraw, 6, 5, false},
		{api.CWithdraw, math.MinInt, math.MaxInt, false}, {api.CWithdraw, -2, -1, false}, {api.CWithdraw, 0, 10000000001, false},
		{api.CWatershed, 0, 60, true}, {api.CWatershed, 60, 0, true}, {api.CWatershed, 0, 0, false}, {api.CWatershed, 60, 60, false}, {api.CWatershed, 0, 86340, true}, {api.CWatershed, 0, 86400, false},
		{api.CWatershed, 86400, 0, false}, {api.CWatershed, 0, 61, false}, {api.CWatershed, 1, 60, false}, {api.CWatershed, 0, 86399, false}, {api.CWatershed, -60, 0, false}, {api.CWatershed, 60, -60, false},
	} {
		clause := api.Clause{Kind: c.kind, From: c.from, To: c.to}
		if c.kind == api.CWatershed {
			clause.A = 1
		} else {
			clause.Item, clause.Regions = 1, 1
		}
		if rights.Valid(clause) != c.want {
			t.Errorf("Valid(%+v) = %t", clause, !c.want)
		}
	}
}
