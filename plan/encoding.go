package plan

import (
	"errors"
	"strings"

	"onair/api"
	"onair/wire"
)

// The causes for which a plan cannot be read.
var (
	errNumbers = errors.New("plan: not a sequence of numbers of the right length")
	errCount   = errors.New("plan: no list has this number of elements")
)

// visitor is called with the numbers of a plan, and of its parts, in the order in which they are encoded. It may set them. Encode and Decode visit the same numbers, so that they cannot differ in the order.
type visitor func(n *int)

func (visit visitor) all(numbers ...*int) {
	for _, n := range numbers {
		visit(n)
	}
}

// visitList visits the number of elements of l, and then each of them. If the visitor changes that number, the elements are new ones; it panics if there are more than most.
func visitList[T any](visit visitor, l *[]T, most int, visitElement func(x *T)) {
	n := len(*l)
	visit(&n)
	if n < 0 || n > most {
		panic(errCount)
	}
	if n != len(*l) {
		*l = make([]T, n)
	}
	for i := range *l {
		visitElement(&(*l)[i])
	}
}

func (visit visitor) plan(p *api.Plan) {
	visit.all(&p.Channel, &p.Rate.Num, &p.Rate.Den, &p.Zone.Offset)
	visitList(visit, &p.Zone.Shifts, api.MaxShifts, visit.shift)
	visit.all(&p.Epoch, &p.Regions, &p.Length, &p.Fill)
	visitList(visit, &p.Items, api.MaxItems, visit.item)
	visitList(visit, &p.Entries, api.MaxEntries, visit.entry)
	visitList(visit, &p.Bookings, api.MaxBookings, visit.booking)
	visitList(visit, &p.Clauses, api.MaxClauses, visit.clause)
}

func (visit visitor) shift(s *api.Shift) {
	visit.all(&s.At, &s.Offset)
}

func (visit visitor) item(it *api.Item) {
	visit.all(&it.ID, &it.Kind, &it.Frames, &it.Sponsor, &it.Rating)
}

func (visit visitor) entry(e *api.Entry) {
	visit.all(&e.ID, &e.Item, &e.Frames, &e.Earliest, &e.Latest, &e.Booking)
	visitList(visit, &e.Alts, api.MaxRegions-1, visit.alt)
}

func (visit visitor) alt(a *api.Alt) {
	visit.all(&a.Region, &a.Item)
}

func (visit visitor) booking(b *api.Booking) {
	visit.all(&b.ID, &b.Item, &b.Region, &b.From, &b.To, &b.Until, &b.Price)
}

func (visit visitor) clause(c *api.Clause) {
	visit.all(&c.Kind, &c.Item, &c.From, &c.To, &c.Regions, &c.N, &c.A, &c.B)
}

// Encode returns the encoding of p.
func Encode(p api.Plan) (string, api.Errno) {
	if !Valid(p) {
		return "", api.ErrPlan
	}
	var text strings.Builder
	write := visitor(func(n *int) {
		code, _ := wire.PutInt(*n) // All numbers of a valid plan can be encoded.
		text.WriteString(code)
	})
	write.plan(&p)
	return text.String(), api.OK
}

// read returns the plan whose numbers are encoded in s, which may be invalid, or what has been read of it and the cause for which there is none.
func read(s string) (p api.Plan, err error) {
	defer func() {
		if cause, ok := recover().(error); ok {
			err = cause
		}
	}()
	at := 0
	set := visitor(func(n *int) {
		value, next, code := wire.Int(s, at)
		if code != api.OK {
			panic(errNumbers)
		}
		*n, at = value, next
	})
	set.plan(&p)
	if at < len(s) {
		panic(errNumbers)
	}
	return p, nil
}

// Decode returns the valid plan whose encoding is s.
func Decode(s string) (api.Plan, api.Errno) {
	p, err := read(s)
	switch {
	case errors.Is(err, errNumbers):
		return api.Plan{}, api.ErrWire
	case err != nil || !Valid(p):
		return api.Plan{}, api.ErrPlan
	}
	return p, api.OK
}
