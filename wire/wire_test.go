package wire_test

import (
	"encoding/binary"
	"math"
	"strings"
	"testing"
	"unsafe"

	"onair/api"
	"onair/wire"
)

// numbers returns integers of every length of encoding and both signs: the powers of two up to 2^61 and MaxInt, each with its neighbours.
func numbers() []int {
	all := []int{0, api.MaxInt, api.MaxInt - 1, -api.MaxInt, 1 - api.MaxInt}
	for bit := 0; bit < 62; bit++ {
		for delta := -1; delta <= 1; delta++ {
			n := 1<<bit + delta
			all = append(all, n, -n)
		}
	}
	return all
}

// putInt returns the encoding of a number that has one.
func putInt(t *testing.T, n int) string {
	t.Helper()
	s, err := wire.PutInt(n)
	if err != api.OK {
		t.Fatalf("PutInt(%d): error %d", n, err)
	}
	return s
}

// putString returns the encoding of a string that has one.
func putString(t *testing.T, s string) string {
	t.Helper()
	code, err := wire.PutString(s)
	if err != api.OK {
		t.Fatalf("PutString of %d bytes: error %d", len(s), err)
	}
	return code
}

// wantInt fails the test unless Int returns these results.
func wantInt(t *testing.T, s string, at, n, next int, err api.Errno) {
	t.Helper()
	if gotN, gotNext, gotErr := wire.Int(s, at); gotN != n || gotNext != next || gotErr != err {
		t.Errorf("Int(%.40x, %d) = %d, %d, %d; want %d, %d, %d", s, at, gotN, gotNext, gotErr, n, next, err)
	}
}

// wantString fails the test unless String returns these results.
func wantString(t *testing.T, s string, at int, u string, next int, err api.Errno) {
	t.Helper()
	if gotU, gotNext, gotErr := wire.String(s, at); gotU != u || gotNext != next || gotErr != err {
		t.Errorf("String(%.40x, %d) = %.40x, %d, %d; want %.40x, %d, %d", s, at, gotU, gotNext, gotErr, u, next, err)
	}
}

// P1.1: the encodings that the chapter names, and the ends of each length.
func TestIntCodes(t *testing.T) {
	for _, c := range []struct {
		n    int
		code string
	}{
		{0, "\x00"}, {1, "\x02"}, {-1, "\x01"}, {63, "\x7e"}, {-64, "\x7f"},
		{64, "\x80\x01"}, {-65, "\x81\x01"}, {150, "\xac\x02"}, {8191, "\xfe\x7f"}, {-8192, "\xff\x7f"}, {8192, "\x80\x80\x01"},
		{api.MaxInt, "\xfe\xff\xff\xff\xff\xff\xff\xff\x7f"}, {-api.MaxInt, "\xfd\xff\xff\xff\xff\xff\xff\xff\x7f"},
	} {
		if code := putInt(t, c.n); code != c.code {
			t.Errorf("PutInt(%d) = %x, want %x", c.n, code, c.code)
		}
		wantInt(t, c.code, 0, c.n, len(c.code), api.OK)
	}
}

// P1.1: the same encodings as those of the library, which follows the same definition.
func TestIntCodesOfAllLengths(t *testing.T) {
	for _, n := range numbers() {
		if code, want := putInt(t, n), string(binary.AppendVarint(nil, int64(n))); code != want {
			t.Errorf("PutInt(%d) = %x, want %x", n, code, want)
		}
	}
}

// P1.1: integers beyond the limits have no encoding.
func TestPutIntErrors(t *testing.T) {
	for _, n := range []int{api.MaxInt + 1, -api.MaxInt - 1, math.MaxInt, math.MinInt, math.MinInt + 1} {
		if code, err := wire.PutInt(n); code != "" || err != api.ErrWire {
			t.Errorf("PutInt(%d) = %x, %d; want ErrWire", n, code, err)
		}
	}
}

// P1.1: ErrArg comes before ErrWire; the end of the string is an offset.
func TestIntOffsets(t *testing.T) {
	for _, at := range []int{-1, 3, 4, math.MinInt, math.MaxInt} {
		wantInt(t, "\x80\x00", at, 0, 0, api.ErrArg)
	}
	wantInt(t, "", 1, 0, 0, api.ErrArg)
	wantInt(t, "", -1, 0, 0, api.ErrArg)
	wantInt(t, "", 0, 0, 0, api.ErrWire)
	wantInt(t, "\x02", 1, 0, 0, api.ErrWire)
	wantInt(t, "\x80\x01", 1, -1, 2, api.OK)
}

// P1.1: what is no encoding of an integer.
func TestIntErrors(t *testing.T) {
	full := strings.Repeat("\xff", 8)
	for _, s := range []string{
		"\x80", "\xac", full, full + "\xff", // the string ends
		"\x80\x00", "\xac\x00", "\x80\x80\x00", "\xac\x82\x00", "\xff\x80\x00", full + "\x00", full + "\x80\x00", // superfluous groups
		full + "\x7f",                             // -MaxInt - 1
		full + "\xff\x01", "\x80" + full + "\x01", // 64 bits, which would wrap around
		full + full + "\x01", strings.Repeat("\x80", 300) + "\x01", // many groups
	} {
		wantInt(t, s, 0, 0, 0, api.ErrWire)
		wantInt(t, "\x02"+s, 1, 0, 0, api.ErrWire)
	}
	wantInt(t, "\x80\x00\x02", 0, 0, 0, api.ErrWire)
}

// P1.2: encodings of strings, up to the longest one.
func TestStringCodes(t *testing.T) {
	longest := strings.Repeat("\x80\x00x", api.MaxString)[:api.MaxString]
	for _, c := range []struct{ s, code string }{
		{"", "\x00"}, {"ab", "\x04ab"}, {"\x00", "\x02\x00"}, {"\xff\x80", "\x04\xff\x80"},
		{longest[:63], "\x7e" + longest[:63]}, {longest[:64], "\x80\x01" + longest[:64]},
		{longest[:8192], "\x80\x80\x01" + longest[:8192]}, {longest, "\x80\x80\x08" + longest},
	} {
		if code := putString(t, c.s); code != c.code {
			t.Errorf("PutString(%.40x) = %.40x, want %.40x", c.s, code, c.code)
		}
		wantString(t, c.code, 0, c.s, len(c.code), api.OK)
		wantString(t, "\x80"+c.code+"\x01", 1, c.s, 1+len(c.code), api.OK)
	}
	for _, extra := range []int{1, 2, api.MaxString} {
		if code, err := wire.PutString(longest + longest[:extra]); code != "" || err != api.ErrWire {
			t.Errorf("PutString of MaxString + %d bytes: %d bytes, %d; want ErrWire", extra, len(code), err)
		}
	}
}

// P1.2: ErrArg comes before ErrWire.
func TestStringOffsets(t *testing.T) {
	for _, at := range []int{-1, 3, 4, math.MinInt, math.MaxInt} {
		wantString(t, "\x04a", at, "", 0, api.ErrArg)
	}
	wantString(t, "", 1, "", 0, api.ErrArg)
	wantString(t, "", 0, "", 0, api.ErrWire)
	wantString(t, "\x02a", 2, "", 0, api.ErrWire)
	wantString(t, "\x04a\x00", 2, "", 3, api.OK)
	wantString(t, "\x04abc", 0, "ab", 3, api.OK)
}

// P1.2: what is no encoding of a string.
func TestStringErrors(t *testing.T) {
	for _, s := range []string{
		"\x04", "\x04a", "\x02", "\x80\x01" + strings.Repeat("x", 63), // too few bytes
		"\x80", "\x80\x00", "\x84\x00ab", // no integer
		"\x01a", "\x03ab", putInt(t, -api.MaxInt) + "ab", // negative lengths
		putInt(t, api.MaxString+1) + strings.Repeat("x", api.MaxString+1), // too long
		putInt(t, api.MaxInt) + "ab",
	} {
		wantString(t, s, 0, "", 0, api.ErrWire)
		wantString(t, "\x02"+s, 1, "", 0, api.ErrWire)
	}
}

// R3: the result shares no memory with the argument.
func TestStringIsNewMemory(t *testing.T) {
	code := putString(t, "onair")
	if s, _, _ := wire.String(code, 0); unsafe.StringData(s) == unsafe.StringData(code[1:]) {
		t.Error("String returns a part of its argument")
	}
}

// P1.4: Int returns what PutInt was given, whatever surrounds the encoding, and nothing for the beginning of an encoding (prefix-free).
func TestIntRoundTrip(t *testing.T) {
	for _, n := range numbers() {
		code := putInt(t, n)
		for _, before := range []string{"", "\x80", "\x00\xff"} {
			for _, after := range []string{"", "\x00", "\x80", "\xff\xff"} {
				wantInt(t, before+code+after, len(before), n, len(before)+len(code), api.OK)
			}
		}
		for end := range len(code) {
			wantInt(t, code[:end], 0, 0, 0, api.ErrWire)
		}
	}
}

// P1.4: String does the same.
func TestStringRoundTrip(t *testing.T) {
	for _, size := range []int{0, 1, 2, 63, 64, 65, 200} {
		s := strings.Repeat("\x02\x80\x00", 100)[:size]
		code := putString(t, s)
		for _, after := range []string{"", "\x00", "\xff\xff"} {
			wantString(t, "\x80"+code+after, 1, s, 1+len(code), api.OK)
		}
		for end := range len(code) {
			wantString(t, code[:end], 0, "", 0, api.ErrWire)
		}
	}
}

// checkAccepted fails the test if Int or String accepts at the beginning of s what PutInt or PutString does not return.
func checkAccepted(t *testing.T, s string) {
	t.Helper()
	if n, next, err := wire.Int(s, 0); err == api.OK {
		if code, err := wire.PutInt(n); err != api.OK || code != s[:next] {
			t.Fatalf("Int(%x, 0) accepts %x as %d, whose encoding is %x", s, s[:next], n, code)
		}
	}
	if u, next, err := wire.String(s, 0); err == api.OK {
		if code, err := wire.PutString(u); err != api.OK || code != s[:next] {
			t.Fatalf("String(%x, 0) accepts %x as %x, whose encoding is %x", s, s[:next], u, code)
		}
	}
}

// P1.4: nothing but what PutInt and PutString return is accepted: all strings of two bytes, also with bytes after them, and all changes of a byte of an encoding.
func TestOnlyEncodingsAreAccepted(t *testing.T) {
	for v := range 1 << 16 {
		short := string([]byte{byte(v), byte(v >> 8)})
		for _, after := range []string{"", "\x00", "\x01", "\x7f", "\x80", "\xff\x01"} {
			checkAccepted(t, short+after)
		}
	}
	for _, n := range numbers() {
		code := []byte(putInt(t, n) + "\x00\x01")
		for i, old := range code {
			for b := range 256 {
				code[i] = byte(b)
				checkAccepted(t, string(code))
			}
			code[i] = old
		}
	}
}

// P1.4: different integers have different encodings.
func TestIntInjective(t *testing.T) {
	seen := map[string]int{}
	for n := -20000; n <= 20000; n++ {
		code := putInt(t, n)
		if other, ok := seen[code]; ok {
			t.Fatalf("%d and %d have the same encoding", n, other)
		}
		seen[code] = n
	}
}

// P1.4: a concatenation of encodings is decoded as what was encoded.
func TestConcatenation(t *testing.T) {
	code := ""
	for _, n := range numbers() {
		code += putInt(t, n) + putString(t, putInt(t, n))
	}
	at := 0
	for _, n := range numbers() {
		m, next, err := wire.Int(code, at)
		if m != n || err != api.OK {
			t.Fatalf("at %d: %d, %d; want %d", at, m, err, n)
		}
		s, end, err := wire.String(code, next)
		if s != putInt(t, n) || err != api.OK {
			t.Fatalf("at %d: %x, %d; want %x", next, s, err, putInt(t, n))
		}
		at = end
	}
	if at != len(code) {
		t.Errorf("%d of %d bytes were decoded", at, len(code))
	}
}
