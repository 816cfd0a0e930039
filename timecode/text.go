package timecode

import "onair/api"

const (
	minutesPerDay  = 24 * 60
	timecodeLength = len("HH:MM:SS:FF")
)

// minute returns the number of timecodes of a minute in which none is dropped.
func (f format) minute() int {
	return 60 * f.base
}

// tenMinutes returns the number of timecodes of ten minutes, in the first of which none is dropped.
func (f format) tenMinutes() int {
	return 10*f.minute() - 9*f.drop
}

func (f format) day() int {
	return minutesPerDay / 10 * f.tenMinutes()
}

// dropped returns how many timecodes are dropped in a number of minutes from the beginning of the day on.
func (f format) dropped(minutes int) int {
	return f.drop * (minutes - ceil(minutes, 10))
}

// startedMinutes returns the number of minutes that have begun up to the timecode with an index in the day.
func (f format) startedMinutes(index int) int {
	tens, rest := index/f.tenMinutes(), index%f.tenMinutes()
	if rest < f.minute() {
		return 10*tens + 1
	}
	return 10*tens + 2 + (rest-f.minute())/(f.minute()-f.drop)
}

func (f format) lastSeparator() byte {
	if f.drop > 0 {
		return ';'
	}
	return ':'
}

// appendNumber appends n, which is from 0 to 99, in two digits.
func appendNumber(text []byte, n int) []byte {
	return append(text, '0'+byte(n/10), '0'+byte(n%10))
}

// Format returns the timecode of a frame.
func Format(r api.Rate, frame int) (string, api.Errno) {
	f, ok := find(r)
	if !ok || !isFrame(frame) {
		return "", api.ErrTimecode
	}
	index := frame % f.day()
	// The count is what the index would be if no timecode were dropped.
	count := index + f.dropped(f.startedMinutes(index))
	second := count / f.base
	text := make([]byte, 0, timecodeLength)
	text = append(appendNumber(text, second/3600), ':')
	text = append(appendNumber(text, second/60%60), ':')
	text = append(appendNumber(text, second%60), f.lastSeparator())
	return string(appendNumber(text, count%f.base)), api.OK
}

// number returns the number that the two digits at a position of s stand for, and whether they are digits and it is less than limit.
func number(s string, at, limit int) (int, bool) {
	tens, ones := s[at]-'0', s[at+1]-'0'
	if tens > 9 || ones > 9 {
		return 0, false
	}
	n := 10*int(tens) + int(ones)
	return n, n < limit
}

// Parse returns the index of a timecode in the day of its rate.
func Parse(r api.Rate, s string) (int, api.Errno) {
	f, ok := find(r)
	if !ok || len(s) != timecodeLength {
		return 0, api.ErrTimecode
	}
	if s[2] != ':' || s[5] != ':' || s[8] != f.lastSeparator() {
		return 0, api.ErrTimecode
	}
	hour, hourOK := number(s, 0, 24)
	minute, minuteOK := number(s, 3, 60)
	second, secondOK := number(s, 6, 60)
	frame, frameOK := number(s, 9, f.base)
	if !hourOK || !minuteOK || !secondOK || !frameOK {
		return 0, api.ErrTimecode
	}
	if minute%10 != 0 && second == 0 && frame < f.drop {
		return 0, api.ErrTimecode
	}
	minutes := 60*hour + minute
	return minutes*f.minute() + second*f.base + frame - f.dropped(minutes+1), api.OK
}
