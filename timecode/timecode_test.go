package timecode_test

import (
	"math"
	"math/big"
	"testing"

	"onair/api"
	"onair/timecode"
)

// known is a row of the chapter's table.
type known struct {
	rate       api.Rate
	base, drop int
}

var table = []known{
	{api.Rate{Num: 24000, Den: 1001}, 24, 0},
	{api.Rate{Num: 24, Den: 1}, 24, 0},
	{api.Rate{Num: 25, Den: 1}, 25, 0},
	{api.Rate{Num: 30000, Den: 1001}, 30, 2},
	{api.Rate{Num: 30, Den: 1}, 30, 0},
	{api.Rate{Num: 50, Den: 1}, 50, 0},
	{api.Rate{Num: 60000, Den: 1001}, 60, 4},
	{api.Rate{Num: 60, Den: 1}, 60, 0},
}

var (
	film = table[0].rate
	pal  = table[2].rate
	ntsc = table[3].rate
	high = table[6].rate
)

// frames returns frame numbers: the first ones, the last ones, and many between them.
func frames() []int {
	var all []int
	for f := range 4000 {
		all = append(all, f, api.MaxFrame-f)
	}
	for f := 4000; f < api.MaxFrame; f += f/1000 + 7 {
		all = append(all, f)
	}
	return all
}

// outside contains integers that are no frame numbers.
var outside = []int{-1, -2, -100000000, math.MinInt, math.MinInt + 1, api.MaxFrame + 1, api.MaxFrame + 2, api.MaxInt, math.MaxInt}

// seconds returns how long n frames of a rate take, as an exact number.
func seconds(r api.Rate, n int) *big.Rat {
	return new(big.Rat).Mul(big.NewRat(int64(n), 1), big.NewRat(int64(r.Den), int64(r.Num)))
}

// down returns x, rounded down, where x is not negative.
func down(x *big.Rat) int {
	return int(new(big.Int).Quo(x.Num(), x.Denom()).Int64())
}

// up returns x, rounded up, where x is not negative.
func up(x *big.Rat) int {
	if n := down(x); x.Cmp(big.NewRat(int64(n), 1)) > 0 {
		return n + 1
	}
	return down(x)
}

// firstAt returns the number of the first frame of a rate that begins at or after a time.
func firstAt(r api.Rate, time *big.Rat) int {
	return up(new(big.Rat).Quo(time, seconds(r, 1)))
}

// invalidRates returns rates that are not in the table, but resemble one that is.
func invalidRates() []api.Rate {
	all := []api.Rate{
		{}, {Num: 1, Den: 1}, {Num: 60, Den: 2}, {Num: 30000, Den: 1000}, {Num: 25000, Den: 1001}, {Num: 24000, Den: 1}, {Num: 24, Den: 1001},
		{Num: 48, Den: 2}, {Num: 48, Den: 1}, {Num: 120, Den: 1}, {Num: 50000, Den: 1001}, {Num: 60000, Den: 2002},
		{Num: math.MaxInt, Den: math.MaxInt}, {Num: math.MinInt, Den: -1}, {Num: math.MinInt, Den: math.MinInt}, {Num: 0, Den: math.MaxInt},
	}
	for _, k := range table {
		n, d := k.rate.Num, k.rate.Den
		all = append(all, api.Rate{Num: d, Den: n}, api.Rate{Num: -n, Den: -d}, api.Rate{Num: -n, Den: d}, api.Rate{Num: n, Den: -d},
			api.Rate{Num: n}, api.Rate{Den: d}, api.Rate{Num: n + 2, Den: d}, api.Rate{Num: n - 2, Den: d}, api.Rate{Num: n, Den: d + 1}, api.Rate{Num: 2 * n, Den: 2 * d})
	}
	return all
}

// P3.1: the rates of the table are valid, and no other function refuses them.
func TestValid(t *testing.T) {
	for _, k := range table {
		_, formatErr := timecode.Format(k.rate, 0)
		if !timecode.Valid(k.rate) || formatErr != api.OK {
			t.Errorf("%v: Valid = %t, Format's error is %d", k.rate, timecode.Valid(k.rate), formatErr)
		}
		if s, f, n, c := timecode.Seconds(k.rate, 0), timecode.Frames(k.rate, 0), timecode.Ticks(k.rate, 0), timecode.Convert(k.rate, 0, pal); s != 0 || f != 0 || n != 0 || c != 0 {
			t.Errorf("%v: frame 0 is at %d, %d, %d and %d", k.rate, s, f, n, c)
		}
	}
}

// P3.1: every function refuses rates that are not in the table.
func TestInvalidRates(t *testing.T) {
	for _, r := range invalidRates() {
		for _, n := range append([]int{0, 1, 1000}, outside...) {
			if timecode.Valid(r) || timecode.Seconds(r, n) != -1 || timecode.Frames(r, n) != -1 || timecode.Ticks(r, n) != -1 {
				t.Errorf("%v is accepted, or with %d", r, n)
			}
			if timecode.Convert(r, n, pal) != -1 || timecode.Convert(pal, n, r) != -1 || timecode.Convert(r, n, r) != -1 {
				t.Errorf("Convert accepts %v, %d", r, n)
			}
			if s, err := timecode.Format(r, n); s != "" || err != api.ErrTimecode {
				t.Errorf("Format(%v, %d) = %q, %d", r, n, s, err)
			}
		}
		for _, s := range []string{"", "00:00:00:00", "00:00:00;00", "00:01:00;02"} {
			if n, err := timecode.Parse(r, s); n != 0 || err != api.ErrTimecode {
				t.Errorf("Parse(%v, %q) = %d, %d", r, s, n, err)
			}
		}
	}
}

// P3.1: integers that are no frame numbers, or no seconds, are refused, and the greatest ones are not.
func TestLimits(t *testing.T) {
	for _, k := range table {
		for _, n := range outside {
			if timecode.Seconds(k.rate, n) != -1 || timecode.Ticks(k.rate, n) != -1 || timecode.Convert(k.rate, n, pal) != -1 || timecode.Convert(pal, n, k.rate) != -1 {
				t.Errorf("%v: frame %d is accepted", k.rate, n)
			}
			if s, err := timecode.Format(k.rate, n); s != "" || err != api.ErrTimecode {
				t.Errorf("Format(%v, %d) = %q, %d", k.rate, n, s, err)
			}
		}
		for _, n := range []int{-1, math.MinInt, api.MaxSecond + 1, api.MaxInt, math.MaxInt} {
			if f := timecode.Frames(k.rate, n); f != -1 {
				t.Errorf("Frames(%v, %d) = %d", k.rate, n, f)
			}
		}
		for _, n := range []int{api.MaxFrame + 1, api.MaxSecond - 1, api.MaxSecond} {
			if f, want := timecode.Frames(k.rate, n), firstAt(k.rate, big.NewRat(int64(n), 1)); f != want {
				t.Errorf("Frames(%v, %d) = %d, want %d", k.rate, n, f, want)
			}
		}
	}
}

// P3.1: the chapter's examples, and values around whole seconds.
func TestValues(t *testing.T) {
	for _, c := range []struct {
		rate                   api.Rate
		frame, seconds, frames int
		ticks                  int
	}{
		{ntsc, 1799, 60, 1799, 5402397}, {ntsc, 1800, 60, 1799, 5405400}, {ntsc, 1798, 59, 1769, 5399394},
		{film, 3, 0, 0, 11261}, {film, 24, 1, 24, 90090}, {pal, 24, 0, 0, 86400}, {pal, 25, 1, 25, 90000},
		{pal, 2386092, 95443, 2386075, 8589931200}, {pal, 2386093, 95443, 2386075, 208}, {high, 60, 1, 60, 90090}, {high, 59, 0, 0, 88588},
	} {
		s, n := timecode.Seconds(c.rate, c.frame), timecode.Ticks(c.rate, c.frame)
		if f := timecode.Frames(c.rate, s); s != c.seconds || f != c.frames || n != c.ticks {
			t.Errorf("%v, frame %d: %d, %d, %d", c.rate, c.frame, s, f, n)
		}
	}
	for _, c := range []struct {
		rate      api.Rate
		frame     int
		to        api.Rate
		converted int
	}{
		{pal, 1, api.Rate{Num: 50, Den: 1}, 2}, {ntsc, 1, pal, 1}, {ntsc, 30000, pal, 25025}, {pal, 25025, ntsc, 30000},
		{ntsc, 7, high, 14}, {high, 7, ntsc, 4}, {film, 4, ntsc, 5}, {film, api.MaxFrame, high, 250000000}, {film, api.MaxFrame, api.Rate{Num: 60, Den: 1}, 250250000},
	} {
		if n := timecode.Convert(c.rate, c.frame, c.to); n != c.converted {
			t.Errorf("Convert(%v, %d, %v) = %d, want %d", c.rate, c.frame, c.to, n, c.converted)
		}
	}
}

// P3.1, P3.3: seconds, frames and ticks are the exact numbers, rounded; the first frame at or after a second begins within it.
func TestSecondsAndTicks(t *testing.T) {
	for _, k := range table {
		r := k.rate
		for _, f := range frames() {
			time := seconds(r, f)
			s, ticks := timecode.Seconds(r, f), timecode.Ticks(r, f)
			if s != down(time) || ticks != down(time.Mul(time, big.NewRat(90000, 1)))%(1<<33) {
				t.Fatalf("%v, frame %d: second %d, ticks %d", r, f, s, ticks)
			}
			first := timecode.Frames(r, s)
			if first != firstAt(r, big.NewRat(int64(s), 1)) || first > f || timecode.Seconds(r, first) != s {
				t.Fatalf("%v: the first frame of second %d is %d, and that of frame %d", r, s, first, f)
			}
		}
	}
}

// P3.6: consecutive frames differ by as many ticks as a frame takes, rounded down or up, also where the clock begins again.
func TestTicks(t *testing.T) {
	for _, k := range table {
		r := k.rate
		least := 90000 * r.Den / r.Num
		most := (90000*r.Den + r.Num - 1) / r.Num
		numbers := frames()
		for round := 1<<33*r.Num/(90000*r.Den) - 1; round < api.MaxFrame; round += 1 << 33 * r.Num / (90000 * r.Den) {
			numbers = append(numbers, round, round+1, round+2)
		}
		for _, f := range numbers {
			if f == api.MaxFrame {
				continue
			}
			a, b := timecode.Ticks(r, f), timecode.Ticks(r, f+1)
			if d := (b - a + 1<<33) % (1 << 33); d != least && d != most || a < 0 || a >= 1<<33 {
				t.Fatalf("%v: the ticks of frame %d are %d, and then %d", r, f, a, b)
			}
		}
	}
}

// checkConversion checks the conversion of a frame against the exact times, and the conversion back.
func checkConversion(t *testing.T, r api.Rate, f int, to api.Rate) {
	n := timecode.Convert(r, f, to)
	if want := firstAt(to, seconds(r, f)); n != want || r == to && n != f {
		t.Fatalf("Convert(%v, %d, %v) = %d, want %d", r, f, to, n, want)
	}
	if n > api.MaxFrame {
		return
	}
	back := timecode.Convert(to, n, r)
	later := new(big.Rat).Add(seconds(r, f), seconds(to, 1))
	if back < f || back > firstAt(r, later) {
		t.Fatalf("frame %d of %v is frame %d of %v, and that is %d", f, r, n, to, back)
	}
}

// P3.1, P3.5: conversion between all rates, and back; it does not exchange the order of frames.
func TestConvert(t *testing.T) {
	for _, a := range table {
		for _, b := range table {
			for f := 0; f < api.MaxFrame; f += f/20 + 1 {
				checkConversion(t, a.rate, f, b.rate)
				checkConversion(t, a.rate, api.MaxFrame-f, b.rate)
				if timecode.Convert(a.rate, f, b.rate) > timecode.Convert(a.rate, f+1, b.rate) {
					t.Fatalf("Convert(%v, %d, %v) is greater than that of the next frame", a.rate, f, b.rate)
				}
			}
		}
	}
}
