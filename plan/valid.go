package plan

import (
	"slices"

	"onair/api"
	"onair/calendar"
	"onair/rights"
	"onair/timecode"
)

const (
	maxID    = 1000000
	maxEpoch = 9000000000
)

func isFrom(n, least, most int) bool {
	return least <= n && n <= most
}

// byID returns the elements of l by their IDs.
func byID[T any](l []T, idOf func(T) int) map[int]T {
	elements := map[int]T{}
	for _, x := range l {
		elements[idOf(x)] = x
	}
	return elements
}

// areAscending reports whether the IDs of the elements of l are IDs, and strictly ascending.
func areAscending[T any](l []T, idOf func(T) int) bool {
	last := 0
	for _, x := range l {
		if !isFrom(idOf(x), last+1, maxID) {
			return false
		}
		last = idOf(x)
	}
	return true
}

// all reports whether all elements of l satisfy a condition.
func all[T any](l []T, holds func(T) bool) bool {
	return !slices.ContainsFunc(l, func(x T) bool { return !holds(x) })
}

// listed is a plan, and its items and bookings by their IDs: looking each of them up in the lists would take too long.
type listed struct {
	api.Plan
	items    map[int]api.Item
	bookings map[int]api.Booking
}

// Valid reports whether p is valid.
func Valid(p api.Plan) bool {
	if len(p.Items) > api.MaxItems || len(p.Entries) > api.MaxEntries || len(p.Bookings) > api.MaxBookings || len(p.Clauses) > api.MaxClauses {
		return false
	}
	l := listed{p, byID(p.Items, itemID), byID(p.Bookings, bookingID)}
	return l.isChannel() && l.hasItems() && l.hasBookings() && l.hasEntries() && all(l.Clauses, rights.Valid)
}

// isChannel reports whether all that is not a list is valid, but Fill.
func (l listed) isChannel() bool {
	return isFrom(l.Channel, 0, api.MaxChannels-1) && timecode.Valid(l.Rate) && calendar.Valid(l.Zone) &&
		isFrom(l.Epoch, 0, maxEpoch) && isFrom(l.Regions, 1, api.MaxRegions) && isFrom(l.Length, 1, api.MaxFrame)
}

// isRegion reports whether a region, which is at least least, is one of the plan.
func (l listed) isRegion(region, least int) bool {
	return isFrom(region, least, l.Regions-1)
}

func isItem(it api.Item) bool {
	return isFrom(it.Kind, api.KProgramme, api.KFill) && isFrom(it.Frames, 1, api.MaxFrame) &&
		isFrom(it.Sponsor, 0, api.MaxSponsor) && isFrom(it.Rating, 0, api.MaxRating)
}

// hasItems reports whether the items are valid, and one of them is the fill. An item that the plan lacks is of no kind.
func (l listed) hasItems() bool {
	return areAscending(l.Items, itemID) && all(l.Items, isItem) && l.items[l.Fill].Kind == api.KFill
}

func (l listed) hasBookings() bool {
	return areAscending(l.Bookings, bookingID) && all(l.Bookings, l.isBooking)
}

func (l listed) isBooking(b api.Booking) bool {
	return l.items[b.Item].Kind == api.KSpot && l.isRegion(b.Region, 0) &&
		0 <= b.From && b.From < b.To && b.To <= b.Until && b.Until <= api.MaxFrame && isFrom(b.Price, 0, api.MaxPrice)
}

// hasEntries reports whether the entries are valid, and have different IDs.
func (l listed) hasEntries() bool {
	return len(byID(l.Entries, entryID)) == len(l.Entries) && all(l.Entries, l.isEntry)
}

func (l listed) isEntry(e api.Entry) bool {
	it, ok := l.items[e.Item]
	if !ok || it.Kind == api.KFill || !isFrom(e.ID, 1, maxID) {
		return false
	}
	least := it.Frames
	if it.Kind == api.KLive {
		least = 1
	}
	// The sum of Latest and Frames might overflow.
	return isFrom(e.Frames, least, it.Frames) && 0 <= e.Earliest && e.Earliest <= e.Latest && e.Latest <= l.Length-e.Frames &&
		l.hasAlts(e) && l.isFulfilled(e)
}

// hasAlts reports whether the alternatives of an entry whose item exists are valid.
func (l listed) hasAlts(e api.Entry) bool {
	if l.items[e.Item].Kind == api.KLive {
		return len(e.Alts) == 0
	}
	least := 1
	for _, a := range e.Alts {
		it, ok := l.items[a.Item]
		if !ok || it.Frames != e.Frames || it.Kind == api.KFill || it.Kind == api.KLive || !l.isRegion(a.Region, least) {
			return false
		}
		least = a.Region + 1
	}
	return true
}

// isFulfilled reports whether an entry names no booking, or one that it fulfils.
func (l listed) isFulfilled(e api.Entry) bool {
	if e.Booking == 0 {
		return true
	}
	b := l.bookings[e.Booking] // A booking that the plan lacks is of no item.
	if b.Region == 0 {
		return b.Item == e.Item
	}
	return slices.Contains(e.Alts, api.Alt{Region: b.Region, Item: b.Item})
}
