package plan_test

import (
	"math/rand"
	"reflect"
	"slices"
	"strings"
	"testing"

	"onair/api"
	"onair/plan"
	"onair/wire"
)

// sequence returns the numbers of a plan in the order in which the chapter encodes them.
func sequence(p api.Plan) []int {
	l := []int{p.Channel, p.Rate.Num, p.Rate.Den, p.Zone.Offset, len(p.Zone.Shifts)}
	for _, s := range p.Zone.Shifts {
		l = append(l, s.At, s.Offset)
	}
	l = append(l, p.Epoch, p.Regions, p.Length, p.Fill, len(p.Items))
	for _, it := range p.Items {
		l = append(l, it.ID, it.Kind, it.Frames, it.Sponsor, it.Rating)
	}
	l = append(l, len(p.Entries))
	for _, e := range p.Entries {
		l = append(l, e.ID, e.Item, e.Frames, e.Earliest, e.Latest, e.Booking, len(e.Alts))
		for _, a := range e.Alts {
			l = append(l, a.Region, a.Item)
		}
	}
	l = append(l, len(p.Bookings))
	for _, b := range p.Bookings {
		l = append(l, b.ID, b.Item, b.Region, b.From, b.To, b.Until, b.Price)
	}
	l = append(l, len(p.Clauses))
	for _, c := range p.Clauses {
		l = append(l, c.Kind, c.Item, c.From, c.To, c.Regions, c.N, c.A, c.B)
	}
	return l
}

// text returns the encodings of numbers, one after the other.
func text(l []int) string {
	var s strings.Builder
	for _, n := range l {
		code, _ := wire.PutInt(n)
		s.WriteString(code)
	}
	return s.String()
}

// source is what is left of an encoding, and the first error that was met.
type source struct {
	rest string
	err  api.Errno
}

// next reads a number, or sets err.
func (s *source) next() int {
	if s.err != api.OK {
		return 0
	}
	n, end, err := wire.Int(s.rest, 0)
	if s.err = err; err != api.OK {
		return 0
	}
	s.rest = s.rest[end:]
	return n
}

// count reads a number of elements, or sets err.
func (s *source) count(most int) int {
	n := s.next()
	if s.err == api.OK && (n < 0 || n > most) {
		s.err = api.ErrPlan
		return 0
	}
	return n
}

// expected returns what Decode returns for a string, as the chapter defines it.
func expected(text string) (api.Plan, api.Errno) {
	s := &source{rest: text}
	p := api.Plan{Channel: s.next(), Rate: api.Rate{Num: s.next(), Den: s.next()}, Zone: api.Zone{Offset: s.next()}}
	for range s.count(40) {
		p.Zone.Shifts = append(p.Zone.Shifts, api.Shift{At: s.next(), Offset: s.next()})
	}
	p.Epoch, p.Regions, p.Length, p.Fill = s.next(), s.next(), s.next(), s.next()
	for range s.count(4000) {
		p.Items = append(p.Items, api.Item{ID: s.next(), Kind: s.next(), Frames: s.next(), Sponsor: s.next(), Rating: s.next()})
	}
	for range s.count(4000) {
		e := api.Entry{ID: s.next(), Item: s.next(), Frames: s.next(), Earliest: s.next(), Latest: s.next(), Booking: s.next()}
		for range s.count(7) {
			e.Alts = append(e.Alts, api.Alt{Region: s.next(), Item: s.next()})
		}
		p.Entries = append(p.Entries, e)
	}
	for range s.count(2000) {
		p.Bookings = append(p.Bookings, api.Booking{ID: s.next(), Item: s.next(), Region: s.next(), From: s.next(), To: s.next(), Until: s.next(), Price: s.next()})
	}
	for range s.count(400) {
		p.Clauses = append(p.Clauses, api.Clause{Kind: s.next(), Item: s.next(), From: s.next(), To: s.next(), Regions: s.next(), N: s.next(), A: s.next(), B: s.next()})
	}
	switch {
	case s.err != api.OK:
		return api.Plan{}, s.err
	case s.rest != "":
		return api.Plan{}, api.ErrWire
	case !isValid(p):
		return api.Plan{}, api.ErrPlan
	}
	return p, api.OK
}

// isZero reports whether p is a zero plan, but for empty lists.
func isZero(p api.Plan) bool {
	return plan.Same(p, api.Plan{})
}

// checkDecode checks what Decode returns for a string, and that what it accepts is encoded as that string.
func checkDecode(t *testing.T, s string) api.Errno {
	t.Helper()
	p, err := plan.Decode(s)
	want, wantErr := expected(s)
	if err != wantErr || !plan.Same(p, want) {
		t.Fatalf("Decode(%q) = %+v, %d, not %+v, %d", s, p, err, want, wantErr)
	}
	if err != api.OK && !isZero(p) {
		t.Fatalf("Decode(%q) returns a plan and the error %d: %+v", s, err, p)
	}
	if err == api.OK {
		if again, err := plan.Encode(p); err != api.OK || again != s {
			t.Fatalf("Decode(%q) = %+v, which is encoded as %q", s, p, again)
		}
	}
	return err
}

// P8.1, P8.2: Encode writes the numbers in the chapter's order, and Decode returns the plan.
func TestEncoding(t *testing.T) {
	r := rand.New(rand.NewSource(82))
	plans := []api.Plan{full(), example(nil), largest()}
	for range 2000 {
		plans = append(plans, randomPlan(r))
	}
	for _, p := range plans {
		s, err := plan.Encode(p)
		if err != api.OK || s != text(sequence(p)) {
			t.Fatalf("Encode(%+v) = %q, %d", p, s, err)
		}
		q, err := plan.Decode(s)
		if err != api.OK || !plan.Same(p, q) || !reflect.DeepEqual(sequence(p), sequence(q)) {
			t.Fatalf("Decode(%q) = %+v, %d, not %+v", s, q, err, p)
		}
	}
}

// P8.1: the encoding of the chapter's example.
func TestEncodingExample(t *testing.T) {
	s, err := plan.Encode(example([]api.Entry{{ID: 5, Item: 2, Frames: 20, Latest: 80}}))
	want := "\x00\x32\x02\x00\x00\x00\x04\xc8\x01\x02\x04\x02\x0a\x14\x00\x00\x04\x04\x28\x00\x00\x02\x0a\x04\x28\x00\xa0\x01\x00\x00\x00\x00"
	if s != want || err != api.OK {
		t.Errorf("%x, %d", s, err)
	}
}

// P8.2: two valid plans have the same encoding exactly if they are the same.
func TestSameEncoding(t *testing.T) {
	r := rand.New(rand.NewSource(822))
	same, different := 0, 0
	for range 3000 {
		p := randomPlan(r)
		q := clone(p, 0)
		for range r.Intn(3) {
			if vary(r, &q); len(q.Items) == 0 {
				break
			}
		}
		if !plan.Valid(q) {
			continue
		}
		first, _ := plan.Encode(p)
		second, _ := plan.Encode(q)
		if plan.Same(p, q) != (first == second) {
			t.Fatalf("the encodings of %+v and %+v are %q and %q", p, q, first, second)
		}
		if first == second {
			same++
		} else {
			different++
		}
	}
	if same < 50 || different < 300 {
		t.Error("too few pairs of plans that are the same, or not:", same, different)
	}
}

// P8.2: no proper prefix of an encoding is accepted, and neither is an encoding with additional bytes.
func TestPrefixes(t *testing.T) {
	r := rand.New(rand.NewSource(823))
	plans := []api.Plan{full(), example(nil)}
	for range 100 {
		plans = append(plans, randomPlan(r))
	}
	for _, p := range plans {
		s, _ := plan.Encode(p)
		for i := range len(s) {
			if q, err := plan.Decode(s[:i]); err != api.ErrWire || !isZero(q) {
				t.Fatalf("Decode(%q) = %+v, %d", s[:i], q, err)
			}
		}
		for _, more := range []string{"\x00", "\x01", "\xff", "\x80\x00", s, strings.Repeat("\x00", 1000)} {
			if q, err := plan.Decode(s + more); err != api.ErrWire || !isZero(q) {
				t.Fatalf("Decode(%q) = %+v, %d", s+more, q, err)
			}
		}
	}
}

// P8.1, P8.2: whatever one byte of an encoding is changed to, the error is the first one that applies, or it is the encoding of another plan.
func TestChangedBytes(t *testing.T) {
	count := map[api.Errno]int{}
	for _, p := range []api.Plan{full(), example([]api.Entry{{ID: 5, Item: 2, Frames: 20, Latest: 80}})} {
		s, _ := plan.Encode(p)
		for i := range len(s) {
			for b := range 256 {
				count[checkDecode(t, s[:i]+string([]byte{byte(b)})+s[i+1:])]++
			}
		}
	}
	if count[api.OK] < 100 || count[api.ErrWire] < 100 || count[api.ErrPlan] < 100 {
		t.Error("too few results of a kind:", count)
	}
}

// P8.1, P8.2: if numbers are changed, inserted or left out, the error is the first one that applies.
func TestChangedNumbers(t *testing.T) {
	r := rand.New(rand.NewSource(824))
	count := map[api.Errno]int{}
	for range 20000 {
		p := randomPlan(r)
		l := sequence(p)
		values := near(p)
		values = slices.DeleteFunc(values, func(n int) bool { return n < -api.MaxInt || n > api.MaxInt })
		for range 1 + r.Intn(3) {
			i := r.Intn(len(l))
			switch r.Intn(4) {
			case 0:
				l = slices.Delete(l, i, i+1)
			case 1:
				l = slices.Insert(l, i, pick(r, values))
			default:
				l[i] = pick(r, values)
			}
		}
		s := text(l)
		if r.Intn(10) == 0 {
			i := r.Intn(len(s) + 1)
			s = s[:i] + pick(r, []string{"\x80", "\x80\x00", "\xff\xff\xff\xff\xff\xff\xff\xff\xff"}) + s[i:]
		}
		count[checkDecode(t, s)]++
	}
	if count[api.OK] < 300 || count[api.ErrWire] < 1000 || count[api.ErrPlan] < 1000 {
		t.Error("too few results of a kind:", count)
	}
}

// P8.1: a number of elements is refused as soon as it is read, whatever follows; as many elements as the chapter allows are read.
func TestCounts(t *testing.T) {
	header := []int{0, 25, 1, 0}
	times := append(slices.Clone(header), 0, 0, 2, 100, 1) // without shifts
	fill := append(slices.Clone(times), 1, 1, api.KFill, 10, 0, 0)
	entry := append(slices.Clone(fill), 1, 5, 2, 20, 0, 80, 0)
	bookings := append(slices.Clone(fill), 0)
	for i, c := range []struct {
		before []int
		most   int
	}{
		{header, 40}, {times, 4000}, {fill, 4000}, {entry, 7}, {bookings, 2000}, {append(slices.Clone(bookings), 0), 400},
	} {
		for n, want := range map[int]api.Errno{-api.MaxInt: api.ErrPlan, -1: api.ErrPlan, c.most + 1: api.ErrPlan, api.MaxInt: api.ErrPlan, c.most: api.ErrWire, 1: api.ErrWire} {
			s := text(append(slices.Clone(c.before), n))
			for _, more := range []string{"", "\x80", "\x80\x00"} {
				if p, err := plan.Decode(s + more); err != want || !isZero(p) {
					t.Errorf("list %d of %d elements before %q: %d", i, n, more, err)
				}
			}
		}
	}
	if err := checkDecode(t, text(append(slices.Clone(bookings), 0, 0))); err != api.OK {
		t.Error("a plan without bookings and clauses:", err)
	}
}

// P8.1: if bytes are left over after a plan that is not valid, the error is ErrWire.
func TestErrorOrder(t *testing.T) {
	p := full()
	p.Length = 999
	s := text(sequence(p))
	if q, err := plan.Decode(s); err != api.ErrPlan || !isZero(q) {
		t.Error(q, err)
	}
	if q, err := plan.Decode(s + "\x00"); err != api.ErrWire || !isZero(q) {
		t.Error(q, err)
	}
	if _, err := plan.Decode(s[:len(s)-1]); err != api.ErrWire {
		t.Error(err)
	}
	if _, err := plan.Decode(""); err != api.ErrWire {
		t.Error(err)
	}
}

// P8.1 (R3): no two lists of a decoded plan share memory, with each other or with those of another result.
func TestDecodedMemory(t *testing.T) {
	s, _ := plan.Encode(full())
	p, _ := plan.Decode(s)
	q, _ := plan.Decode(s)
	for i, n := range numbers(&p) {
		*n = -i
	}
	for _, e := range p.Entries {
		_ = append(e.Alts, api.Alt{Region: 1, Item: 1})
	}
	_ = append(p.Zone.Shifts, api.Shift{At: 1})
	_ = append(p.Items, api.Item{ID: 1})
	_ = append(p.Entries, api.Entry{ID: 1})
	_ = append(p.Bookings, api.Booking{ID: 1})
	_ = append(p.Clauses, api.Clause{Kind: 1})
	for i, n := range numbers(&p) {
		if *n != -i {
			t.Errorf("number %d was changed to %d", i, *n)
		}
	}
	if !plan.Same(q, full()) {
		t.Errorf("the other plan was changed: %+v", q)
	}
}
