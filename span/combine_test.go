package span_test

import (
	"math"
	"math/rand"
	"slices"
	"testing"

	"onair/api"
	"onair/span"
)

// P5.1: the chapter's examples of Intersect and Subtract, and lists at both ends of all integers.
func TestCombineExamples(t *testing.T) {
	all := spans(math.MinInt, math.MaxInt)
	for _, c := range []struct{ a, b, union, both, first []api.Span }{
		{spans(0, 10, 20, 30), spans(5, 25), spans(0, 30), spans(5, 10, 20, 25), spans(0, 5, 25, 30)},
		{spans(0, 10), spans(3, 4, 8, 20), spans(0, 20), spans(3, 4, 8, 10), spans(0, 3, 4, 8)},
		{nil, nil, nil, nil, nil},
		{nil, spans(1, 2), spans(1, 2), nil, nil},
		{spans(1, 2), nil, spans(1, 2), nil, spans(1, 2)},
		{spans(1, 2), spans(2, 3), spans(1, 3), nil, spans(1, 2)},
		{spans(2, 3), spans(1, 2), spans(1, 3), nil, spans(2, 3)},
		{spans(1, 2), spans(3, 4), spans(1, 2, 3, 4), nil, spans(1, 2)},
		{spans(1, 5), spans(1, 5), spans(1, 5), spans(1, 5), nil},
		{spans(5, 1), spans(1, 5), spans(1, 5), nil, nil},
		{spans(1, 5), spans(5, 1, 3, 3), spans(1, 5), nil, spans(1, 5)},
		{spans(3, 5, 1, 3), spans(4, 6, 0, 2), spans(0, 6), spans(1, 2, 4, 5), spans(2, 4)},
		{all, spans(0, 1), all, spans(0, 1), spans(math.MinInt, 0, 1, math.MaxInt)},
		{all, all, all, all, nil},
		{all, nil, all, nil, all},
		{nil, all, all, nil, nil},
		{spans(math.MinInt, 0), spans(0, math.MaxInt), all, nil, spans(math.MinInt, 0)},
		{all, spans(math.MinInt, math.MinInt+1, math.MaxInt-1, math.MaxInt), all, spans(math.MinInt, math.MinInt+1, math.MaxInt-1, math.MaxInt), spans(math.MinInt+1, math.MaxInt-1)},
	} {
		if got := span.Union(c.a, c.b); !slices.Equal(got, c.union) {
			t.Errorf("Union(%v, %v) = %v", c.a, c.b, got)
		}
		if got := span.Intersect(c.a, c.b); !slices.Equal(got, c.both) {
			t.Errorf("Intersect(%v, %v) = %v", c.a, c.b, got)
		}
		if got := span.Subtract(c.a, c.b); !slices.Equal(got, c.first) {
			t.Errorf("Subtract(%v, %v) = %v", c.a, c.b, got)
		}
	}
}

// P5.1: Union, Intersect and Subtract return the valid lists of the integers in a or b, in both, and in a only.
func TestCombine(t *testing.T) {
	eachPair(func(r *rand.Rand, at []int, a, b []api.Span) {
		for _, c := range []struct {
			name   string
			got    []api.Span
			choose func(inA, inB bool) bool
		}{
			{"Union", span.Union(a, b), func(inA, inB bool) bool { return inA || inB }},
			{"Intersect", span.Intersect(a, b), func(inA, inB bool) bool { return inA && inB }},
			{"Subtract", span.Subtract(a, b), func(inA, inB bool) bool { return inA && !inB }},
		} {
			want := combined(at, a, b, c.choose)
			if !slices.Equal(c.got, want) || !isValid(c.got) {
				t.Fatalf("%s(%v, %v) = %v, not %v", c.name, a, b, c.got, want)
			}
		}
	})
}

// P5.3: Union and Intersect are commutative, associative and idempotent, and distribute over each other; subtracting a union is subtracting one after the other; a list consists of what is in both and what is in it only.
func TestLaws(t *testing.T) {
	eachPair(func(r *rand.Rand, at []int, a, b []api.Span) {
		c := randomSpans(r, at)
		for i, l := range [][2][]api.Span{
			{span.Union(a, b), span.Union(b, a)},
			{span.Intersect(a, b), span.Intersect(b, a)},
			{span.Union(span.Union(a, b), c), span.Union(a, span.Union(b, c))},
			{span.Intersect(span.Intersect(a, b), c), span.Intersect(a, span.Intersect(b, c))},
			{span.Union(a, a), span.Normal(a)},
			{span.Intersect(a, a), span.Normal(a)},
			{span.Intersect(a, span.Union(b, c)), span.Union(span.Intersect(a, b), span.Intersect(a, c))},
			{span.Union(a, span.Intersect(b, c)), span.Intersect(span.Union(a, b), span.Union(a, c))},
			{span.Subtract(a, span.Union(b, c)), span.Subtract(span.Subtract(a, b), c)},
			{span.Union(span.Intersect(a, b), span.Subtract(a, b)), span.Normal(a)},
		} {
			if !slices.Equal(l[0], l[1]) {
				t.Fatalf("law %d of %v, %v and %v: %v, %v", i, a, b, c, l[0], l[1])
			}
		}
	})
}

// P5.1: long lists, whose spans begin and end at different places, are combined like short ones.
func TestLongLists(t *testing.T) {
	const n = 100000
	var a, b, union, first []api.Span
	for i := range n {
		k := (i * 7919) % n * 10 // all multiples of 10, not ascending
		a = append(a, api.Span{From: k, To: k + 6})
		b = append(b, api.Span{From: k + 5, To: k + 8})
		union = append(union, api.Span{From: i * 10, To: i*10 + 8})
		first = append(first, api.Span{From: i * 10, To: i*10 + 5})
	}
	if !slices.Equal(span.Union(a, b), union) || !slices.Equal(span.Subtract(a, b), first) || span.Total(span.Intersect(a, b)) != n {
		t.Error("long lists")
	}
}
