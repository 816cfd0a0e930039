package span_test

import (
	"math"
	"math/big"
	"math/rand"
	"testing"

	"onair/api"
	"onair/span"
)

// P5.1: Has says what the chapter defines, for unordered lists and at the ends of spans.
func TestHas(t *testing.T) {
	l := spans(6, 20, 0, 4, 9, 8, 30, 30)
	for x, want := range map[int]bool{-1: false, 0: true, 3: true, 4: false, 5: false, 6: true, 8: true, 19: true, 20: false, 30: false, math.MinInt: false, math.MaxInt: false} {
		if span.Has(l, x) != want {
			t.Errorf("Has(%d) = %t", x, !want)
		}
	}
	if span.Has(nil, 0) || !span.Has(spans(math.MinInt, 0), math.MinInt) || span.Has(spans(math.MinInt, math.MaxInt), math.MaxInt) || !span.Has(spans(math.MinInt, math.MaxInt), math.MaxInt-1) {
		t.Error("Has at the ends")
	}
	eachPair(func(r *rand.Rand, at []int, a, b []api.Span) {
		for i, want := range cells(at, a) {
			if span.Has(a, at[i]) != want || span.Has(a, at[i+1]-1) != want {
				t.Fatalf("Has(%v, %d) = %t", a, at[i], !want)
			}
		}
	})
}

// P5.1: the chapter's examples of Covers, and spans at the edges of a list.
func TestCoversExamples(t *testing.T) {
	for _, c := range []struct {
		l        []api.Span
		from, to int
		want     bool
	}{
		{spans(0, 4, 4, 9), 2, 9, true}, {nil, 7, 7, true}, {nil, 7, 6, true}, {nil, 7, 8, false}, {spans(0, 4, 4, 9), 2, 10, false}, {spans(0, 4, 4, 9), -1, 9, false},
		{spans(0, 4, 5, 9), 2, 9, false}, {spans(0, 4, 5, 9), 5, 9, true}, {spans(0, 4, 5, 9), 4, 5, false}, {spans(0, 4, 5, 9), 4, 4, true}, {spans(0, 4, 5, 9), 0, 4, true},
		{spans(5, 9, 0, 4), 0, 4, true}, {spans(5, 9, 0, 4), 5, 9, true}, {spans(5, 9, 0, 4), 5, 10, false}, {spans(0, 9, 2, 3), 1, 9, true}, {spans(2, 3, 5, 9, 0, 9), 1, 9, true},
		{spans(0, 9), math.MaxInt, math.MinInt, true}, {spans(math.MinInt, 0, 0, math.MaxInt), math.MinInt, math.MaxInt, true}, {spans(math.MinInt, -1, 0, math.MaxInt), math.MinInt, math.MaxInt, false},
		{spans(0, 9), math.MinInt, math.MaxInt, false}, {spans(3, 3), 3, 4, false}, {spans(9, 0), 2, 3, false},
	} {
		if span.Covers(c.l, api.Span{From: c.from, To: c.to}) != c.want {
			t.Errorf("Covers(%v, %d-%d) = %t", c.l, c.from, c.to, !c.want)
		}
	}
}

// P5.4: a list covers a span exactly if subtracting the list from the span leaves nothing.
func TestCovers(t *testing.T) {
	eachPair(func(r *rand.Rand, at []int, a, b []api.Span) {
		s := api.Span{From: at[r.Intn(len(at))], To: at[r.Intn(len(at))]}
		left := combined(at, []api.Span{s}, a, func(inS, inA bool) bool { return inS && !inA })
		want := len(left) == 0
		if span.Covers(a, s) != want || (len(span.Subtract([]api.Span{s}, a)) == 0) != want {
			t.Fatalf("Covers(%v, %v) = %t", a, s, !want)
		}
	})
}

// P5.1: the chapter's examples of Earliest, and numbers at both ends of all integers.
func TestEarliestExamples(t *testing.T) {
	l := spans(6, 20, 0, 4)
	all := spans(math.MinInt, math.MaxInt)
	for _, c := range []struct {
		l           []api.Span
		at, n, want int
		ok          bool
	}{
		{spans(0, 4, 6, 20), 2, 5, 6, true}, {spans(0, 4), 2, 3, 0, false}, {l, 2, 2, 2, true}, {l, 2, 3, 6, true}, {l, -9, 4, 0, true}, {l, -9, 5, 6, true}, {l, 6, 14, 6, true}, {l, 7, 13, 7, true},
		{l, 7, 14, 0, false}, {l, 0, 15, 0, false}, {l, 19, 1, 19, true}, {l, 20, 1, 0, false}, {l, 4, 1, 6, true}, {l, 5, 1, 6, true}, {l, 30, 1, 0, false},
		{l, 30, 0, 30, true}, {l, 30, -1, 30, true}, {nil, -5, 0, -5, true}, {nil, 5, 1, 0, false}, {nil, math.MaxInt, math.MinInt, math.MaxInt, true}, {nil, math.MinInt, 0, math.MinInt, true},
		{spans(4, 9, 0, 4), 0, 9, 0, true}, {spans(4, 9, 0, 4), 1, 9, 0, false}, {spans(9, 0), 0, 1, 0, false}, {spans(0, 0, 3, 3), -1, 1, 0, false},
		{all, math.MinInt, math.MaxInt, math.MinInt, true}, {all, 0, math.MaxInt, 0, true}, {all, 1, math.MaxInt, 0, false}, {all, math.MaxInt, 1, 0, false}, {all, math.MaxInt - 1, 1, math.MaxInt - 1, true},
		{all, math.MaxInt - 1, 2, 0, false}, {all, math.MaxInt - 9, 9, math.MaxInt - 9, true}, {all, math.MaxInt - 9, math.MaxInt, 0, false},
		{spans(math.MinInt, math.MinInt+2), 0, math.MaxInt, 0, false}, {spans(math.MinInt, math.MinInt+2), 0, 1, 0, false}, {spans(math.MinInt, -1), math.MinInt + 1, math.MaxInt - 1, math.MinInt + 1, true}, {spans(math.MinInt, -1), math.MinInt + 1, math.MaxInt, 0, false},
	} {
		if got, ok := span.Earliest(c.l, c.at, c.n); got != c.want || ok != c.ok {
			t.Errorf("Earliest(%v, %d, %d) = %d, %t", c.l, c.at, c.n, got, ok)
		}
	}
}

// fits reports whether a list with these cells contains n integers from x on.
func fits(at []int, in []bool, x, n int) bool {
	end := new(big.Int).Add(big.NewInt(int64(x)), big.NewInt(int64(n)))
	for i, yes := range in {
		if !yes && at[i+1] > x && big.NewInt(int64(at[i])).Cmp(end) < 0 {
			return false
		}
	}
	return x >= at[0] && end.Cmp(big.NewInt(int64(at[len(at)-1]))) <= 0
}

// P5.4: what Earliest returns is covered, and no smaller integer from at on is as good: such a one is at, or one at which a span begins.
func TestEarliest(t *testing.T) {
	eachPair(func(r *rand.Rand, at []int, a, b []api.Span) {
		in := cells(at, a)
		from := at[r.Intn(len(at))] - r.Intn(2)
		n := 1 + r.Intn(6)
		if r.Intn(2) == 0 {
			n = max(1, at[r.Intn(len(at))])
		}
		want, ok := 0, false
		for _, x := range append([]int{from}, at...) {
			if x >= from && !ok && fits(at, in, x, n) {
				want, ok = x, true
			}
		}
		got, gotOK := span.Earliest(a, from, n)
		if got != want || gotOK != ok {
			t.Fatalf("Earliest(%v, %d, %d) = %d, %t, not %d, %t", a, from, n, got, gotOK, want, ok)
		}
		if ok && !span.Covers(a, api.Span{From: got, To: got + n}) {
			t.Fatalf("Earliest(%v, %d, %d) = %d is not covered", a, from, n, got)
		}
	})
}

// P5.1: the chapter's example of Total, and totals about MaxInt.
func TestTotalExamples(t *testing.T) {
	const most = api.MaxInt
	for _, c := range []struct {
		l    []api.Span
		want int
	}{
		{nil, 0}, {spans(0, 4, 2, 9), 9}, {spans(0, 4, 4, 9), 9}, {spans(5, 9, 0, 3), 7}, {spans(3, 3, 9, 0), 0}, {spans(-5, 5), 10},
		{spans(0, most), most}, {spans(0, most-1), most - 1}, {spans(0, most+1), most}, {spans(-1, most), most}, {spans(math.MinInt, math.MaxInt), most}, {spans(math.MinInt, 0), most},
		{spans(math.MinInt, -1, 0, math.MaxInt), most}, {spans(0, most, most+5, most+9), most}, {spans(-9, -8, 0, most-1), most}, {spans(-9, -8, 0, most-2), most - 1},
		{spans(math.MinInt, -most, -most+1, 0, 1, most, most+1, math.MaxInt), most}, {spans(math.MaxInt, math.MinInt), 0},
	} {
		if got := span.Total(c.l); got != c.want {
			t.Errorf("Total(%v) = %d", c.l, got)
		}
	}
}

// total returns the number of integers of a list with these cells, which may exceed MaxInt.
func total(at []int, in []bool) *big.Int {
	sum := new(big.Int)
	for i, yes := range in {
		if yes {
			sum.Add(sum, new(big.Int).Sub(big.NewInt(int64(at[i+1])), big.NewInt(int64(at[i]))))
		}
	}
	return sum
}

// P5.5: the Totals of a union and an intersection add up to the Totals of both lists if none of them reaches MaxInt; Total is the number of integers, but at most MaxInt.
func TestTotal(t *testing.T) {
	eachPair(func(r *rand.Rand, at []int, a, b []api.Span) {
		want := total(at, cells(at, a))
		if want.Cmp(big.NewInt(api.MaxInt)) > 0 {
			want.SetInt64(api.MaxInt)
		}
		if got := span.Total(a); big.NewInt(int64(got)).Cmp(want) != 0 {
			t.Fatalf("Total(%v) = %d", a, got)
		}
		union, both, first, second := span.Total(span.Union(a, b)), span.Total(span.Intersect(a, b)), span.Total(a), span.Total(b)
		if max(union, both, first, second) < api.MaxInt && union+both != first+second {
			t.Fatalf("Totals of %v and %v: %d + %d, %d + %d", a, b, union, both, first, second)
		}
	})
}
