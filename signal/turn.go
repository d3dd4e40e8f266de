package signal

import (
	"iter"

	"rudder/api"
	"rudder/fix"
	"rudder/latch"
	"rudder/order"
	"rudder/parity"
	"rudder/vote"
)

const (
	none = -1 // the suspect, if there is none
	// Who has one of these is not in; any other trip of a channel with a value keeps it in.
	tripsOut = api.TripRange | api.TripSpike
)

// turn is one cycle of a signal, while it goes on.
type turn struct {
	signal *Signal
	raws   [api.Channels]Raw
	shut   int
	trips  [api.Channels]int
	in     int // the mask of those that are
}

// right tells whether a cycle may be; nothing has changed then.
func (t *turn) right() bool {
	for i := range t.valued() {
		if t.raw(i) < api.Least || t.raw(i) > api.Most {
			return false
		}
	}
	return 0 <= t.shut && t.shut < 1<<api.Channels
}

// watch is the first step: the trips ahead of the vote.
func (t *turn) watch() {
	for i, c := range t.signal.all() {
		if !t.raws[i].Is {
			t.trips[i] = api.TripFrame
			c.miss()
			continue
		}
		t.trips[i], _ = c.Come(t.raw(i))
		frozen, _ := c.frozen.Come(t.raw(i))
		t.trip(i, api.TripStuck, frozen)
	}
}

// enter is the second step: who is in.
func (t *turn) enter() {
	var in [api.Channels]bool
	for i, c := range t.valued() {
		in[i] = t.trips[i]&tripsOut == 0 && !c.state.Latched && !fix.Has(t.shut, i)
	}
	t.in = fix.Bits(in[:])
}

// drift is the third step.
func (t *turn) drift() {
	mid, ok := order.Mid(t.those(t.raw))
	if !ok {
		return
	}
	for i, c := range t.valued() {
		over, _ := c.filter.Come(t.raw(i) - mid)
		t.trip(i, api.TripDrift, over)
	}
}

// vote is the fourth step.
func (t *turn) vote() {
	c := t.signal.config
	value, ok := vote.Vote(vote.Rule{Lo: c.Lo, Hi: c.Hi, Clip: c.Clip}, t.those(t.even), t.those(t.weight))
	// All else of it may be: there is no vote just if none is in.
	if ok {
		t.signal.value = value
	}
}

// compare is the fifth step: of those that are not in, too.
func (t *turn) compare() {
	for i := range t.valued() {
		t.trip(i, api.TripMis, fix.Apart(t.even(i), t.signal.value) > t.signal.config.Mis)
	}
}

// suspect is the sixth step.
func (t *turn) suspect() int {
	at := parity.Suspect(t.those(t.even), t.signal.config.Mis)
	if at == none {
		return none
	}
	// It counts those that are in alone.
	return t.those(number)[at]
}

// learn is the seventh step; it comes behind all that asks for what is even, or frozen.
func (t *turn) learn() {
	for i, c := range t.valued() {
		c.trim.Learn(t.raw(i), t.signal.value)
	}
	t.signal.room.Vote(t.signal.value)
}

// latch is the eighth step: what happened to each.
func (t *turn) latch() [api.Channels]int {
	var events [api.Channels]int
	for i, c := range t.signal.all() {
		c.state, events[i], _ = latch.Next(t.signal.rule(), c.state, t.trips[i] != 0)
	}
	return events
}

// valued goes through the channels with a value, each with its number.
func (t *turn) valued() iter.Seq2[int, *channel] {
	return func(yield func(int, *channel) bool) {
	channels:
		for i, c := range t.signal.all() {
			switch {
			case !t.raws[i].Is:
				continue channels
			case !yield(i, c):
				break channels
			}
		}
	}
}

// those are numbers of the channels that are in, in order.
func (t *turn) those(of func(i int) int) []int {
	var l []int
	for i := range t.signal.all() {
		if fix.Has(t.in, i) {
			l = append(l, of(i))
		}
	}
	return l
}

func (t *turn) trip(i, trip int, is bool) {
	if is {
		t.trips[i] |= trip
	}
}

func (t *turn) raw(i int) int { return t.raws[i].N }

// even is what is even of a channel's value.
func (t *turn) even(i int) int {
	even, _ := t.signal.channels[i].trim.Even(t.raw(i))
	return even
}

func (t *turn) weight(i int) int { return t.signal.config.Weights[i] }

// number is a channel's own.
func number(i int) int { return i }

// miss lets no value come to both watches.
func (c *channel) miss() {
	c.Miss()
	c.frozen.Miss()
}
