package span_test

import (
	"math"
	"math/rand"
	"slices"
	"testing"

	"onair/api"
	"onair/span"
)

// spans makes a list of pairs of integers.
func spans(l ...int) []api.Span {
	var out []api.Span
	for i := 0; i < len(l); i += 2 {
		out = append(out, api.Span{From: l[i], To: l[i+1]})
	}
	return out
}

// near contains integers that are close to each other, so that spans between them often touch.
var near = []int{-7, -6, -5, -4, -3, -2, -1, 0, 1, 2, 3, 4, 5, 6, 7}

// far contains integers at which sums and differences overflow.
var far = []int{math.MinInt, math.MinInt + 1, -api.MaxInt - 2, -api.MaxInt - 1, -api.MaxInt, -1, 0, 1, api.MaxInt - 1, api.MaxInt, api.MaxInt + 1, math.MaxInt - 1, math.MaxInt}

// both contains the lists of integers from which the tests make spans.
var both = [][]int{near, far}

// randomSpans returns up to 7 spans between some of the integers of at; some of them are empty or reversed.
func randomSpans(r *rand.Rand, at []int) []api.Span {
	l := make([]api.Span, r.Intn(8), 10)
	for i := range l {
		l[i] = api.Span{From: at[r.Intn(len(at))], To: at[r.Intn(len(at))]}
	}
	return l
}

// cells says for each integer of at, but the last one, whether l contains the integers from it to the next one of at, between which the spans of l begin and end.
func cells(at []int, l []api.Span) []bool {
	in := make([]bool, len(at)-1)
	for i := range in {
		for _, s := range l {
			in[i] = in[i] || s.From <= at[i] && at[i+1] <= s.To
		}
	}
	return in
}

// list returns the valid list of the integers of cells.
func list(at []int, in []bool) []api.Span {
	var l []api.Span
	for i, yes := range in {
		switch {
		case !yes:
		case i > 0 && in[i-1]:
			l[len(l)-1].To = at[i+1]
		default:
			l = append(l, api.Span{From: at[i], To: at[i+1]})
		}
	}
	return l
}

// combined returns the valid list of the integers of cells that f chooses.
func combined(at []int, a, b []api.Span, f func(inA, inB bool) bool) []api.Span {
	inA, inB := cells(at, a), cells(at, b)
	for i := range inA {
		inA[i] = f(inA[i], inB[i])
	}
	return list(at, inA)
}

// isValid reports whether l is valid, as the chapter defines it.
func isValid(l []api.Span) bool {
	valid := true
	for i, s := range l {
		valid = valid && s.From < s.To
		if i > 0 {
			valid = valid && s.From > l[i-1].To
		}
	}
	return valid
}

// eachPair calls f with pairs of random lists between near and between far integers.
func eachPair(f func(r *rand.Rand, at []int, a, b []api.Span)) {
	r := rand.New(rand.NewSource(5))
	for _, at := range both {
		for range 5000 {
			f(r, at, randomSpans(r, at), randomSpans(r, at))
		}
	}
}

// P5.1: the chapter's examples of Valid, and lists that are just not valid.
func TestValidExamples(t *testing.T) {
	for _, c := range []struct {
		l    []api.Span
		want bool
	}{
		{nil, true}, {[]api.Span{}, true}, {spans(0, 3, 3, 5), false}, {spans(0, 3, 4, 5), true}, {spans(0, 3, 2, 5), false}, {spans(4, 5, 0, 3), false},
		{spans(0, 1), true}, {spans(1, 1), false}, {spans(2, 1), false}, {spans(0, 3, 4, 4), false}, {spans(0, 3, 5, 4), false}, {spans(0, 3, 0, 3), false},
		{spans(0, 1, 2, 3, 3, 4), false}, {spans(0, 1, 2, 3, 4, 5), true}, {spans(0, 1, 4, 5, 2, 3), false}, {spans(0, 0, 1, 2), false},
		{spans(math.MinInt, math.MaxInt), true}, {spans(math.MinInt, -1, 0, math.MaxInt), true}, {spans(math.MinInt, 0, 0, math.MaxInt), false},
		{spans(math.MaxInt, math.MinInt), false}, {spans(0, math.MaxInt, math.MinInt, -1), false},
	} {
		if span.Valid(c.l) != c.want {
			t.Errorf("Valid(%v) = %t", c.l, !c.want)
		}
	}
}

// P5.1: Valid is what the chapter defines.
func TestValid(t *testing.T) {
	eachPair(func(r *rand.Rand, at []int, a, b []api.Span) {
		changed := list(at, cells(at, a))
		if len(changed) > 0 {
			k := r.Intn(len(changed))
			changed[k] = api.Span{From: at[r.Intn(len(at))], To: at[r.Intn(len(at))]}
		}
		for _, l := range [][]api.Span{a, list(at, cells(at, b)), changed} {
			if span.Valid(l) != isValid(l) {
				t.Fatalf("Valid(%v) = %t", l, span.Valid(l))
			}
		}
	})
}

// P5.1: the chapter's example of Normal, and lists whose spans are empty, overlap, touch, contain each other or are not ascending.
func TestNormalExamples(t *testing.T) {
	for _, c := range []struct{ l, want []api.Span }{
		{nil, nil}, {spans(5, 9, 0, 3, 3, 5, 20, 20), spans(0, 9)}, {spans(1, 1, 3, 2), nil}, {spans(0, 9, 2, 3), spans(0, 9)}, {spans(2, 3, 0, 9), spans(0, 9)},
		{spans(0, 2, 0, 9, 0, 4), spans(0, 9)}, {spans(4, 5, 2, 3, 0, 1), spans(0, 1, 2, 3, 4, 5)}, {spans(0, 9, 1, 2, 9, 10), spans(0, 10)}, {spans(0, 9, 1, 2, 3, 4), spans(0, 9)},
		{spans(math.MinInt, 0, 0, math.MaxInt), spans(math.MinInt, math.MaxInt)}, {spans(math.MaxInt-1, math.MaxInt, math.MinInt, math.MinInt+1), spans(math.MinInt, math.MinInt+1, math.MaxInt-1, math.MaxInt)},
		{spans(math.MaxInt, math.MinInt), nil}, {spans(math.MaxInt, math.MaxInt, math.MinInt, math.MinInt), nil},
	} {
		if got := span.Normal(c.l); !slices.Equal(got, c.want) {
			t.Errorf("Normal(%v) = %v", c.l, got)
		}
	}
}

// P5.2: Normal returns the valid list that contains the same integers, which is the argument if that is valid.
func TestNormal(t *testing.T) {
	eachPair(func(r *rand.Rand, at []int, a, b []api.Span) {
		got, want := span.Normal(a), list(at, cells(at, a))
		if !slices.Equal(got, want) || !isValid(got) {
			t.Fatalf("Normal(%v) = %v, not %v", a, got, want)
		}
		if again := span.Normal(want); !slices.Equal(again, want) {
			t.Fatalf("Normal(%v) = %v", want, again)
		}
	})
}

// P5.2: two lists contain the same integers exactly if their Normals are equal, however the spans are divided and ordered.
func TestSame(t *testing.T) {
	eachPair(func(r *rand.Rand, at []int, a, b []api.Span) {
		want := slices.Equal(cells(at, a), cells(at, b))
		if span.Same(a, b) != want || span.Same(b, a) != want || slices.Equal(span.Normal(a), span.Normal(b)) != want {
			t.Fatalf("Same(%v, %v) = %t", a, b, !want)
		}
		var divided []api.Span
		for i, in := range cells(at, a) {
			if in {
				divided = append(divided, api.Span{From: at[i], To: at[i+1]})
			}
		}
		r.Shuffle(len(divided), func(i, j int) { divided[i], divided[j] = divided[j], divided[i] })
		if !span.Same(a, divided) || !span.Same(divided, a) || !span.Same(span.Normal(a), divided) {
			t.Fatalf("Same(%v, %v) = false", a, divided)
		}
	})
	if !span.Same(nil, spans(3, 3, 5, 4)) || !span.Same(nil, nil) || span.Same(nil, spans(3, 4)) || span.Same(spans(3, 4), nil) || span.Same(spans(0, 1, 2, 3), spans(0, 1)) {
		t.Error("Same of few spans")
	}
}

// P5.1: no function changes an argument or its spare capacity (R3).
func TestArgumentsKept(t *testing.T) {
	full := func(l []api.Span) []api.Span { return slices.Clone(l[:cap(l)]) }
	check := func(a, b []api.Span) {
		wantA, wantB := full(a), full(b)
		span.Valid(a)
		span.Normal(a)
		span.Same(a, b)
		span.Union(a, b)
		span.Intersect(a, b)
		span.Subtract(a, b)
		span.Has(a, 0)
		span.Covers(a, api.Span{From: -2, To: 2})
		span.Earliest(a, -3, 2)
		span.Total(a)
		if !slices.Equal(full(a), wantA) || !slices.Equal(full(b), wantB) {
			t.Fatalf("%v or %v is changed: %v, %v", wantA, wantB, full(a), full(b))
		}
	}
	eachPair(func(r *rand.Rand, at []int, a, b []api.Span) {
		check(a, b)
		check(list(at, cells(at, a)), list(at, cells(at, b)))
	})
}

// P5.1: no result shares memory with an argument (R3), also if it is equal to one.
func TestResultsNew(t *testing.T) {
	eachPair(func(r *rand.Rand, at []int, a, b []api.Span) {
		validA, validB := list(at, cells(at, a)), list(at, cells(at, b))
		wantA, wantB := slices.Clone(validA), slices.Clone(validB)
		for _, l := range [][]api.Span{
			span.Normal(validA), span.Union(validA, validB), span.Union(validA, nil), span.Union(nil, validB), span.Union(validA, validA),
			span.Intersect(validA, validA), span.Intersect(validA, validB), span.Subtract(validA, nil), span.Subtract(validA, validB),
		} {
			l = l[:cap(l)]
			for i := range l {
				l[i] = api.Span{From: 77, To: 78}
			}
		}
		if !slices.Equal(validA, wantA) || !slices.Equal(validB, wantB) {
			t.Fatalf("a result shares memory with %v or %v", wantA, wantB)
		}
	})
}
