package calendar_test

import (
	"math"
	"math/rand"
	"slices"
	"testing"

	"onair/api"
	"onair/calendar"
)

// example is the zone of the chapter's examples.
var example = api.Zone{Offset: 3600, Shifts: []api.Shift{{At: 90000, Offset: 7200}, {At: 200000, Offset: 3600}}}

// fullZone returns a zone with as many shifts as a zone may have, the first one at the first second and the last one at the last one, with offsets at both limits by turns.
func fullZone() api.Zone {
	z := api.Zone{Offset: api.MaxOffset}
	for n := range api.MaxShifts {
		z.Shifts = append(z.Shifts, api.Shift{At: n * 70000, Offset: api.MaxOffset * (2*(n%2) - 1)})
	}
	z.Shifts[api.MaxShifts-1].At = api.MaxSecond
	return z
}

// randomZone returns a valid zone whose shifts are at most gap seconds apart, from about the second from on.
func randomZone(r *rand.Rand, from, gap int) api.Zone {
	offset := func() int {
		if r.Intn(2) == 0 {
			return 3600 * (r.Intn(29) - 14)
		}
		return r.Intn(2*api.MaxOffset+1) - api.MaxOffset
	}
	z := api.Zone{Offset: offset()}
	at := from
	for range r.Intn(12) {
		z.Shifts = append(z.Shifts, api.Shift{At: at, Offset: offset()})
		at += 1 + r.Intn(gap)
	}
	return z
}

// zones returns valid zones of several kinds.
func zones() []api.Zone {
	all := []api.Zone{
		{}, {Offset: 1}, {Offset: -1}, {Offset: api.MaxOffset}, {Offset: -api.MaxOffset}, example, fullZone(),
		{Shifts: []api.Shift{{At: 0, Offset: -3600}}},
		{Offset: -50000, Shifts: []api.Shift{{At: 1, Offset: 50000}, {At: 2, Offset: -50000}, {At: 3, Offset: 50000}}},
		{Offset: 3600, Shifts: []api.Shift{{At: 43200, Offset: 3600}, {At: 82800, Offset: 3600}}},
		{Offset: 7200, Shifts: []api.Shift{{At: api.MaxSecond - 1, Offset: -7200}, {At: api.MaxSecond, Offset: 0}}},
		{Offset: 10, Shifts: []api.Shift{{At: 50000, Offset: 0}, {At: 50010, Offset: -10}, {At: 50020, Offset: -20}}},
	}
	r := rand.New(rand.NewSource(4))
	for range 20 {
		all = append(all, randomZone(r, r.Intn(3), 40000), randomZone(r, 500000, 200000), randomZone(r, api.MaxSecond-400000, 30000))
	}
	return all
}

// invalidZones returns zones each of which breaks one rule.
func invalidZones() []api.Zone {
	all := []api.Zone{}
	for _, n := range []int{api.MaxOffset + 1, -api.MaxOffset - 1, math.MinInt, math.MaxInt, 1 << 32} {
		all = append(all, api.Zone{Offset: n}, api.Zone{Shifts: []api.Shift{{At: 5, Offset: n}}}, api.Zone{Shifts: []api.Shift{{At: 5, Offset: n}, {At: 6}}})
	}
	for _, at := range []int{-1, math.MinInt, api.MaxSecond + 1, math.MaxInt} {
		all = append(all, api.Zone{Shifts: []api.Shift{{At: at}}})
	}
	for _, at := range [][2]int{{5, 5}, {5, 4}, {0, 0}, {api.MaxSecond, 0}, {5, api.MaxSecond + 1}, {5, -1}} {
		all = append(all, api.Zone{Shifts: []api.Shift{{At: at[0]}, {At: at[1]}}})
	}
	long := api.Zone{}
	for n := range api.MaxShifts + 1 {
		long.Shifts = append(long.Shifts, api.Shift{At: n})
	}
	return append(all, long)
}

// outside contains integers that are no seconds of universal time.
var outside = []int{-1, -2, -86400, math.MinInt, math.MinInt + 1, api.MaxSecond + 1, api.MaxSecond + 86400, api.MaxInt, math.MaxInt}

// noDays contains days that no second has, some of which, multiplied by 86400, wrap around to days that seconds have.
var noDays = []int{-2, -3, 115742, 115743, 1 << 40, 1 << 57, -1 << 57, 1<<57 + 1, 1<<57 - 1, 1 << 60, 213503982334601, math.MinInt, math.MinInt + 1, math.MaxInt}

// notOfDay contains integers that are no seconds of the day.
var notOfDay = []int{-1, -86400, 86400, 86401, 172800, math.MinInt, math.MaxInt}

// localTime returns the local time at a second, as the chapter defines it.
func localTime(z api.Zone, s int) int {
	for _, shift := range slices.Backward(z.Shifts) {
		if shift.At <= s {
			return s + shift.Offset
		}
	}
	return s + z.Offset
}

// localDay returns the local day and the second of the day at a second, as the chapter defines them.
func localDay(z api.Zone, s int) (int, int) {
	// This local day begins before any local time, so that nothing below is negative.
	const early = -10
	passed := localTime(z, s) - early*api.Day
	return early + passed/api.Day, passed % api.Day
}

// samples returns seconds at both ends of time, around all shifts of a zone, and around the local midnights near them.
func samples(z api.Zone) []int {
	centres := []int{0, 86400, 1000000, 1 << 31, api.MaxSecond / 2, api.MaxSecond - 86400, api.MaxSecond}
	for _, s := range z.Shifts {
		centres = append(centres, s.At, s.At+s.Offset, s.At-s.Offset, s.At-86400, s.At+86400)
	}
	var all []int
	for _, c := range centres {
		_, ofDay := localDay(z, c)
		for d := -3; d <= 3; d++ {
			all = append(all, c+d, c+d-ofDay, c+d+86400-ofDay)
		}
	}
	slices.Sort(all)
	return slices.DeleteFunc(slices.Compact(all), func(s int) bool { return s < 0 || s > api.MaxSecond })
}

// P4.1: zones within the limits are valid, those beyond them are not.
func TestValid(t *testing.T) {
	for _, z := range zones() {
		if !calendar.Valid(z) {
			t.Errorf("%v is not valid", z)
		}
	}
	for _, z := range invalidZones() {
		if calendar.Valid(z) {
			t.Errorf("%v is valid", z)
		}
	}
}

// P4.1: the other functions return no values for zones that are not valid.
func TestInvalidZones(t *testing.T) {
	for _, z := range invalidZones() {
		for _, n := range append([]int{0, 1, 5, 6, 100000}, outside...) {
			if day, second := calendar.Local(z, n); day != 0 || second != 0 {
				t.Errorf("Local(%v, %d) = %d, %d", z, n, day, second)
			}
			if m := calendar.Length(z, n); m != 0 {
				t.Errorf("Length(%v, %d) = %d", z, n, m)
			}
			if l := calendar.At(z, n, 0); len(l) != 0 {
				t.Errorf("At(%v, %d, 0) = %v", z, n, l)
			}
			if calendar.Within(z, n, 0, 0) {
				t.Errorf("Within(%v, %d, 0, 0) is true", z, n)
			}
			if l := calendar.Spans(z, api.Span{From: 0, To: n}, 0, 0); len(l) != 0 {
				t.Errorf("Spans(%v, 0 to %d, 0, 0) = %v", z, n, l)
			}
		}
	}
}

// P4.1: the chapter's examples of Local, Length and At.
func TestExamples(t *testing.T) {
	for _, c := range []struct {
		zone                   api.Zone
		second, day, secondDay int
	}{
		{api.Zone{Offset: 3600}, 86400, 1, 3600}, {example, 89999, 1, 7199}, {example, 90000, 1, 10800},
		{example, 199999, 2, 34399}, {example, 200000, 2, 30800}, {api.Zone{Offset: -1}, 0, -1, 86399},
		{api.Zone{Offset: -api.MaxOffset}, 0, -1, 36000}, {api.Zone{Offset: api.MaxOffset}, api.MaxSecond, 115741, 28000},
	} {
		if day, second := calendar.Local(c.zone, c.second); day != c.day || second != c.secondDay {
			t.Errorf("Local(%v, %d) = %d, %d, want %d, %d", c.zone, c.second, day, second, c.day, c.secondDay)
		}
	}
	for day, n := range []int{82800, 82800, 90000, 86400} {
		if m := calendar.Length(example, day); m != n {
			t.Errorf("Length of day %d = %d, want %d", day, m, n)
		}
	}
	for _, c := range []struct {
		day, second int
		want        []int
	}{{1, 7200, nil}, {1, 10799, nil}, {1, 10800, []int{90000}}, {1, 7199, []int{89999}}, {2, 30000, []int{195600}}, {2, 30799, []int{196399}}, {2, 30800, []int{196400, 200000}}, {2, 32000, []int{197600, 201200}}, {2, 34399, []int{199999, 203599}}, {2, 34400, []int{203600}}} {
		if l := calendar.At(example, c.day, c.second); !slices.Equal(l, c.want) {
			t.Errorf("At(day %d, %d) = %v, want %v", c.day, c.second, l, c.want)
		}
	}
}

// P4.1, P4.2: Local is what the chapter defines, and At finds the way back.
func TestLocal(t *testing.T) {
	for _, z := range zones() {
		for _, s := range samples(z) {
			day, second := calendar.Local(z, s)
			if wantDay, want := localDay(z, s); day != wantDay || second != want {
				t.Fatalf("Local(%v, %d) = %d, %d, want %d, %d", z, s, day, second, wantDay, want)
			}
			if l := calendar.At(z, day, second); !slices.Contains(l, s) {
				t.Fatalf("At(%v, %d, %d) = %v, without %d", z, day, second, l, s)
			}
		}
		for _, s := range outside {
			if day, second := calendar.Local(z, s); day != 0 || second != 0 {
				t.Errorf("Local(%v, %d) = %d, %d", z, s, day, second)
			}
		}
	}
}

// P4.1, P4.2: At returns exactly the seconds with a local time, in ascending order.
func TestAt(t *testing.T) {
	for _, z := range zones() {
		for _, s := range samples(z) {
			day, second := localDay(z, s)
			for _, of := range []int{second, 0, 1, 43200, 86399} {
				// The second must be a local time less an offset of the zone, if there is one.
				local := day*api.Day + of
				candidates := []int{local - z.Offset}
				for _, shift := range z.Shifts {
					candidates = append(candidates, local-shift.Offset)
				}
				slices.Sort(candidates)
				want := slices.DeleteFunc(slices.Compact(candidates), func(c int) bool {
					return c < 0 || c > api.MaxSecond || localTime(z, c) != local
				})
				if l := calendar.At(z, day, of); !slices.Equal(l, want) {
					t.Fatalf("At(%v, %d, %d) = %v, want %v", z, day, of, l, want)
				}
			}
		}
	}
}

// P4.1: At finds many seconds of one local time, if the clock is set back again and again.
func TestAtOften(t *testing.T) {
	z := api.Zone{Offset: 20000}
	var want []int
	for n := range api.MaxShifts {
		z.Shifts = append(z.Shifts, api.Shift{At: 1000 * (n + 1), Offset: 20000 - 1000*(n+1)})
	}
	for n := range api.MaxShifts + 1 {
		want = append(want, 1000*n+500)
	}
	if l := calendar.At(z, 0, 20500); !slices.Equal(l, want) {
		t.Errorf("At = %v, want %v", l, want)
	}
}

// P4.1: days that no second has, and seconds that no day has, are refused.
func TestNoDays(t *testing.T) {
	for _, z := range zones() {
		for _, day := range noDays {
			if n := calendar.Length(z, day); n != 0 {
				t.Errorf("Length(%v, %d) = %d", z, day, n)
			}
			for _, second := range append([]int{0, 40000, 86399}, notOfDay...) {
				if l := calendar.At(z, day, second); len(l) != 0 {
					t.Errorf("At(%v, %d, %d) = %v", z, day, second, l)
				}
			}
		}
		for _, second := range notOfDay {
			for day := -1; day < 5; day++ {
				if l := calendar.At(z, day, second); len(l) != 0 {
					t.Errorf("At(%v, %d, %d) = %v", z, day, second, l)
				}
			}
		}
	}
}

// P4.1: Length counts the seconds of a day, also of one that the clock leaves and comes back to.
func TestLength(t *testing.T) {
	const seconds = 1000000
	for _, z := range zones() {
		counts := map[int]int{}
		for s := range seconds {
			day, _ := calendar.Local(z, s)
			counts[day]++
		}
		// The clock cannot come back later to a day that is as early as these.
		last, _ := localDay(z, seconds)
		for day := -1; day < last-2; day++ {
			if n := calendar.Length(z, day); n != counts[day] {
				t.Errorf("Length(%v, %d) = %d, want %d", z, day, n, counts[day])
			}
		}
	}
}

// P4.2: every second lies in exactly one day.
func TestLengths(t *testing.T) {
	for _, z := range zones() {
		total := 0
		for day := -3; day < 115745; day++ {
			total += calendar.Length(z, day)
		}
		if total != api.MaxSecond+1 {
			t.Errorf("%v: the days have %d seconds", z, total)
		}
	}
}

// P4.3: between two shifts, local time runs like universal time.
func TestBetweenShifts(t *testing.T) {
	for _, z := range zones() {
		for _, s := range samples(z) {
			for _, d := range []int{1, 59, 3600, 86399, 86400} {
				shifted := slices.ContainsFunc(z.Shifts, func(shift api.Shift) bool { return shift.At > s && shift.At <= s+d })
				if shifted || s+d > api.MaxSecond {
					continue
				}
				day, second := calendar.Local(z, s)
				later, laterSecond := calendar.Local(z, s+d)
				if (later-day)*api.Day+laterSecond-second != d {
					t.Fatalf("%v: %d seconds after %d, it is %d, %d, after %d, %d", z, d, s, later, laterSecond, day, second)
				}
			}
		}
	}
}

// P4.3: without shifts, every day but the first and the last one has 86400 seconds, and begins one day after the other.
func TestWithoutShifts(t *testing.T) {
	for _, offset := range []int{0, 1, -1, 3600, -3600, 12345, api.MaxOffset, -api.MaxOffset} {
		z := api.Zone{Offset: offset}
		first, _ := calendar.Local(z, 0)
		last, _ := calendar.Local(z, api.MaxSecond)
		for day := first + 1; day < last; day++ {
			if n := calendar.Length(z, day); n != 86400 {
				t.Fatalf("Length(%v, %d) = %d", z, day, n)
			}
		}
		for s := 0; s <= api.MaxSecond-86400; s += 1 + s/500 {
			day, second := calendar.Local(z, s)
			next, nextSecond := calendar.Local(z, s+86400)
			if next != day+1 || nextSecond != second {
				t.Fatalf("%v: a day after %d it is %d, %d, after %d, %d", z, s, next, nextSecond, day, second)
			}
		}
	}
}

// R3: the zone is not modified, and two results share no memory.
func TestMemory(t *testing.T) {
	backing := make([]api.Shift, 10)
	copy(backing, example.Shifts)
	z := api.Zone{Offset: example.Offset, Shifts: backing[:2]}
	want := slices.Clone(backing)
	a, s := calendar.At(z, 2, 32000), calendar.Spans(z, api.Span{From: 0, To: 500000}, 0, 10)
	b, u := calendar.At(z, 2, 32000), calendar.Spans(z, api.Span{From: 0, To: 500000}, 0, 10)
	a[0], s[0].To = -1, -1
	if b[0] != 197600 || u[0].To == -1 {
		t.Error("results share memory")
	}
	calendar.Local(z, 90000)
	calendar.Length(z, 1)
	calendar.Within(z, 90000, 5, 3)
	if !calendar.Valid(z) || !slices.Equal(backing, want) {
		t.Error("the zone was modified")
	}
}
