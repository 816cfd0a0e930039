package timecode_test

import (
	"strconv"
	"strings"
	"testing"

	"onair/api"
	"onair/timecode"
)

// timecodes calls yield with all timecodes of a rate in ascending order, each with its index and its seconds, as the chapter defines the day.
func (k known) timecodes(yield func(text string, index, seconds int)) {
	digits := make([]string, 100)
	for n := range digits {
		digits[n] = string([]byte{byte('0' + n/10), byte('0' + n%10)})
	}
	separator := ":"
	if k.drop > 0 {
		separator = ";"
	}
	index := 0
	for second := range 86400 {
		before := digits[second/3600] + ":" + digits[second/60%60] + ":" + digits[second%60] + separator
		for ff := range k.base {
			if second%60 == 0 && ff < k.drop && second/60%10 != 0 {
				continue
			}
			yield(before+digits[ff], index, second)
			index++
		}
	}
}

// day returns the number of timecodes of the day.
func (k known) day() int {
	return 86400*k.base - 1296*k.drop
}

// P3.1, P3.2, P3.4: all timecodes of the day of every rate.
func TestDay(t *testing.T) {
	for _, k := range table {
		t.Run(strconv.Itoa(k.rate.Num), func(t *testing.T) {
			t.Parallel()
			count, last := 0, ""
			k.timecodes(func(text string, index, seconds int) {
				count++
				s, formatErr := timecode.Format(k.rate, index)
				n, parseErr := timecode.Parse(k.rate, text)
				if s != text || formatErr != api.OK || n != index || parseErr != api.OK || s <= last {
					t.Fatalf("%v, index %d: Format = %q, %d, want %q; Parse = %d, %d", k.rate, index, s, formatErr, text, n, parseErr)
				}
				if real := timecode.Seconds(k.rate, index); k.rate != film && (real < seconds-1 || real > seconds+1) {
					t.Fatalf("%v: %q begins in second %d", k.rate, text, real)
				}
				last = s
			})
			if count != k.day() {
				t.Errorf("%v: the day has %d timecodes, want %d", k.rate, count, k.day())
			}
		})
	}
}

// P3.1, P3.2: after the last timecode of a day, the next day begins, up to the last frame.
func TestNextDays(t *testing.T) {
	for _, k := range table {
		for _, f := range frames() {
			s, err := timecode.Format(k.rate, f)
			n, parseErr := timecode.Parse(k.rate, s)
			if err != api.OK || parseErr != api.OK || n != f%k.day() {
				t.Fatalf("Format(%v, %d) = %q, %d, and Parse = %d, %d", k.rate, f, s, err, n, parseErr)
			}
		}
		for day := k.day(); day <= api.MaxFrame; day += k.day() {
			first, _ := timecode.Format(k.rate, day)
			last, _ := timecode.Format(k.rate, day-1)
			if first[:8] != "00:00:00" || first[9:] != "00" || last[:8] != "23:59:59" {
				t.Errorf("%v: frame %d has %q, and the one before it %q", k.rate, day, first, last)
			}
		}
	}
}

// P3.1: the chapter's examples, and timecodes around dropped ones.
func TestTimecodes(t *testing.T) {
	for _, c := range []struct {
		rate  api.Rate
		frame int
		text  string
	}{
		{ntsc, 0, "00:00:00;00"}, {ntsc, 1799, "00:00:59;29"}, {ntsc, 1800, "00:01:00;02"}, {ntsc, 3597, "00:01:59;29"}, {ntsc, 3598, "00:02:00;02"},
		{ntsc, 17981, "00:09:59;29"}, {ntsc, 17982, "00:10:00;00"}, {ntsc, 19781, "00:10:59;29"}, {ntsc, 19782, "00:11:00;02"}, {ntsc, 2589407, "23:59:59;29"},
		{high, 3599, "00:00:59;59"}, {high, 3600, "00:01:00;04"}, {high, 7195, "00:01:59;59"}, {high, 7196, "00:02:00;04"}, {high, 35964, "00:10:00;00"},
		{pal, 2159999, "23:59:59:24"}, {film, 1440, "00:01:00:00"},
	} {
		s, err := timecode.Format(c.rate, c.frame)
		if s != c.text || err != api.OK {
			t.Errorf("Format(%v, %d) = %q, %d, want %q", c.rate, c.frame, s, err, c.text)
		}
	}
	if s, err := timecode.Format(pal, 2160000); s != "00:00:00:00" || err != api.OK {
		t.Errorf("Format(25, 2160000) = %q, %d", s, err)
	}
}

// P3.2: dropped timecodes are not accepted.
func TestDropped(t *testing.T) {
	for _, k := range table {
		for minute := range 24 * 60 {
			hh, mm := minute/60, minute%60
			for ff := range k.drop {
				s := string([]byte{byte('0' + hh/10), byte('0' + hh%10), ':', byte('0' + mm/10), byte('0' + mm%10), ':', '0', '0', ';', '0', byte('0' + ff)})
				n, err := timecode.Parse(k.rate, s)
				if want := minute%10 == 0; (err == api.OK) != want || !want && (n != 0 || err != api.ErrTimecode) {
					t.Errorf("Parse(%v, %q) = %d, %d", k.rate, s, n, err)
				}
			}
		}
	}
}

// P3.1: strings that are no timecodes.
func TestNoTimecodes(t *testing.T) {
	for _, s := range []string{
		"", "0", ":::", "00:00:00", "00:00:00:", "00:00:00:0", "0:00:00:00", "00:00:00:000", "000:00:00:00", " 00:00:00:00", "00:00:00:00 ", "00:00:00:00\x00",
		"24:00:00:00", "99:00:00:00", "00:60:00:00", "00:99:00:00", "00:00:60:00", "00:00:99:00", "00:00:00:60", "00:00:00:99",
		"-1:00:00:00", "+1:00:00:00", "00:-1:00:00", " 1:00:00:00", "1 :00:00:00", "0a:00:00:00", "a0:00:00:00", "00:0/:00:00", "00:00::0:00", "00:00:0::00", "00:00:00:/0", "00:00:00:0:", "00:00:00:\xff0",
		"00;00:00:00", "00:00;00:00", "00.00.00.00", "00000000000", "00:00:00.00", "٠:00:00:00", strings.Repeat("00:", 30000),
	} {
		for _, k := range table {
			text := s
			if k.drop > 0 && len(s) == 11 && s[8] == ':' {
				text = s[:8] + ";" + s[9:]
			}
			if n, err := timecode.Parse(k.rate, text); n != 0 || err != api.ErrTimecode {
				t.Errorf("Parse(%v, %q) = %d, %d", k.rate, text, n, err)
			}
		}
	}
}

// P3.1: each rate has its separator and its number of frames.
func TestTimecodesOfOtherRates(t *testing.T) {
	for _, k := range table {
		right, wrong := ":", ";"
		if k.drop > 0 {
			right, wrong = wrong, right
		}
		if n, err := timecode.Parse(k.rate, "00:00:00"+wrong+"05"); n != 0 || err != api.ErrTimecode {
			t.Errorf("%v: the separator %s is accepted: %d, %d", k.rate, wrong, n, err)
		}
		for ff := range 100 {
			s := "00:00:00" + right + string([]byte{byte('0' + ff/10), byte('0' + ff%10)})
			n, err := timecode.Parse(k.rate, s)
			if ok := ff < k.base; ok && (n != ff || err != api.OK) || !ok && (n != 0 || err != api.ErrTimecode) {
				t.Errorf("Parse(%v, %q) = %d, %d", k.rate, s, n, err)
			}
		}
	}
}

// P3.2: whatever one byte of a timecode is changed to, it is refused, or it is another timecode.
func TestChangedTimecodes(t *testing.T) {
	for _, k := range table {
		for _, f := range []int{0, 1800, 17982, 1000000} {
			s, _ := timecode.Format(k.rate, f)
			for at := range s {
				for b := range 256 {
					changed := s[:at] + string([]byte{byte(b)}) + s[at+1:]
					n, err := timecode.Parse(k.rate, changed)
					again, _ := timecode.Format(k.rate, n)
					if err == api.OK && again != changed || err != api.OK && (n != 0 || err != api.ErrTimecode) {
						t.Errorf("Parse(%v, %q) = %d, %d", k.rate, changed, n, err)
					}
				}
			}
		}
	}
}
