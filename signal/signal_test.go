package signal

import (
	"math"
	"testing"

	"rudder/api"
	"rudder/latch"
)

// The signatures that other layers call.
var (
	_ func(c api.Config) (*Signal, api.Errno)                               = New
	_ func(s *Signal, raws [api.Channels]Raw, shut int) (Result, api.Errno) = (*Signal).Step
	_ func(s *Signal) int                                                   = (*Signal).Value
	_ func(s *Signal) int                                                   = (*Signal).Latched
	_ func(s *Signal, channel int) (latch.State, bool)                      = (*Signal).State
	_ func(s *Signal, channel int) int                                      = (*Signal).Offset
	_                                                                       = Raw{Is: true, N: 1}
	_                                                                       = Result{Value: 1, Status: api.Status{}, Trips: [4]int{}, Events: [4]int{}}
)

// The trips, the least and the greatest raw value, written out so that a wrong constant of the package does not hide itself.
const (
	noFrame = 1
	ranged  = 2
	spike   = 4
	frozen  = 8
	drifted = 16
	mis     = 32

	least = -2147483648
	most  = 2147483647
)

// gone stands for no value.
const gone = math.MinInt

// at are raw values, by channels; gone, and those that are not named, are none.
func at(l ...int) [4]Raw {
	var raws [4]Raw
	for i, n := range l {
		if n != gone {
			raws[i] = Raw{Is: true, N: n}
		}
	}
	return raws
}

// plain is a configuration of n channels whose filters have no lag, and whose trims are always 0.
func plain(n int) api.Config {
	c := api.Config{N: n, Lo: -100, Hi: 100, Safe: 5, Step: 40, Stuck: 9, Window: 3, Drift: 30, Mis: 20, Clip: 4, Latch: 100, Clean: 2, Budget: 1, Limit: 4}
	for i := range n {
		c.Weights[i] = 1
	}
	return c
}

// with is a plain configuration, changed.
func with(n int, change func(c *api.Config)) api.Config {
	c := plain(n)
	change(&c)
	return c
}

// cycle is one, and what it tells, written out.
type cycle struct {
	raws    [4]Raw
	shut    int
	value   int
	in      int
	latched int
	suspect int
	trips   [4]int
	events  [4]int
	offsets [4]int
}

func (x cycle) result() Result {
	return Result{
		Value:  x.value,
		Status: api.Status{In: x.in, Latched: x.latched, Suspect: x.suspect, Fail: x.in == 0},
		Trips:  x.trips,
		Events: x.events,
	}
}

func made(t testing.TB, c api.Config) *Signal {
	t.Helper()
	s, e := New(c)
	if s == nil || e != api.OK {
		t.Fatalf("New(%+v) = %v, %d", c, s, e)
	}
	return s
}

// both are a new signal, and its model.
func both(t testing.TB, c api.Config) (*Signal, *model) {
	t.Helper()
	s, m := made(t, c), newModel(c)
	stands(t, s, m)
	return s, m
}

// runs holds cycles of a new signal against what is written out, and against the words.
func runs(t *testing.T, c api.Config, l ...cycle) {
	t.Helper()
	s, m := both(t, c)
	for i, x := range l {
		got, e := s.Step(x.raws, x.shut)
		if e != api.OK || got != x.result() {
			t.Fatalf("cycle %d: Step(%v, %d) = %+v, %d, not %+v", i, x.raws, x.shut, got, e, x.result())
		}
		if told, e := m.step(x.raws, x.shut); e != api.OK || told != got {
			t.Fatalf("cycle %d: the words tell %+v, %d, not %+v", i, told, e, got)
		}
		if s.Value() != x.value || s.Latched() != x.latched {
			t.Fatalf("cycle %d: Value() = %d, Latched() = %d", i, s.Value(), s.Latched())
		}
		for channel, want := range x.offsets {
			if got := s.Offset(channel); got != want {
				t.Fatalf("cycle %d: Offset(%d) = %d, not %d", i, channel, got, want)
			}
		}
		stands(t, s, m)
	}
}

// P18.1: a signal of a configuration that may be: its VALUE is Safe, no channel is latched, and no trim is off.
func TestNew(t *testing.T) {
	for n := 3; n <= 4; n++ {
		for _, safe := range []int{-100, -1, 0, 5, 100} {
			c := with(n, func(c *api.Config) { c.Safe = safe })
			s := made(t, c)
			if s.Value() != safe || s.Latched() != 0 {
				t.Errorf("%+v: %d, %d", c, s.Value(), s.Latched())
			}
			for i := -2; i <= 6; i++ {
				if state, ok := s.State(i); ok != (i >= 0 && i < n) || state != (latch.State{}) || s.Offset(i) != 0 {
					t.Errorf("of %d channels State(%d) = %v, %t, Offset = %d", n, i, state, ok, s.Offset(i))
				}
			}
			for _, i := range []int{math.MinInt, math.MaxInt, 1 << 32, -1 << 32, 1<<32 + 1} {
				if state, ok := s.State(i); ok || state != (latch.State{}) || s.Offset(i) != 0 {
					t.Errorf("State(%d) = %v, %t, Offset = %d", i, state, ok, s.Offset(i))
				}
			}
		}
	}
}

// P18.1: each field at its ends may be; one outside, there is no signal.
func TestNewEdges(t *testing.T) {
	for _, change := range []func(c *api.Config){
		func(c *api.Config) { c.Lo, c.Hi = least, most },
		func(c *api.Config) { c.Lo, c.Hi, c.Safe = 7, 7, 7 },
		func(c *api.Config) { c.Step, c.Stuck, c.Drift, c.Mis, c.Auth, c.Clip = 0, 0, 0, 0, 0, 0 },
		func(c *api.Config) {
			c.Step, c.Stuck, c.Drift, c.Mis, c.Auth, c.Clip = most, most, most, most, most, most
		},
		func(c *api.Config) { c.Window, c.Lag, c.Gain = 2, 0, 0 },
		func(c *api.Config) { c.Window, c.Lag, c.Gain = 16, 8, 8 },
		func(c *api.Config) { c.Latch, c.Clean, c.Budget, c.Limit = 1, 1, 0, 1 },
		func(c *api.Config) { c.Latch, c.Clean, c.Budget, c.Limit = 100, 1000, 10, 8 },
		func(c *api.Config) { c.Weights = [4]int{16, 16, 16} },
	} {
		c := with(3, change)
		if s := made(t, c); s.Value() != c.Safe {
			t.Errorf("%+v: %d", c, s.Value())
		}
	}
	for i, change := range []func(c *api.Config){
		func(c *api.Config) { *c = api.Config{} },
		func(c *api.Config) { c.N = 2 },
		func(c *api.Config) { c.N = 5 },
		func(c *api.Config) { c.N = -1 },
		func(c *api.Config) { c.Lo = least - 1 },
		func(c *api.Config) { c.Hi = most + 1 },
		func(c *api.Config) { c.Lo, c.Safe = 101, 101 },
		func(c *api.Config) { c.Safe = 101 },
		func(c *api.Config) { c.Safe = -101 },
		func(c *api.Config) { c.Step = -1 },
		func(c *api.Config) { c.Step = most + 1 },
		func(c *api.Config) { c.Stuck = -1 },
		func(c *api.Config) { c.Stuck = most + 1 },
		func(c *api.Config) { c.Window = 1 },
		func(c *api.Config) { c.Window = 17 },
		func(c *api.Config) { c.Drift = -1 },
		func(c *api.Config) { c.Drift = most + 1 },
		func(c *api.Config) { c.Lag = -1 },
		func(c *api.Config) { c.Lag = 9 },
		func(c *api.Config) { c.Mis = -1 },
		func(c *api.Config) { c.Mis = most + 1 },
		func(c *api.Config) { c.Auth = -1 },
		func(c *api.Config) { c.Auth = most + 1 },
		func(c *api.Config) { c.Gain = -1 },
		func(c *api.Config) { c.Gain = 9 },
		func(c *api.Config) { c.Clip = -1 },
		func(c *api.Config) { c.Clip = most + 1 },
		func(c *api.Config) { c.Latch = 0 },
		func(c *api.Config) { c.Latch = 101 },
		func(c *api.Config) { c.Clean = 0 },
		func(c *api.Config) { c.Clean = 1001 },
		func(c *api.Config) { c.Budget = -1 },
		func(c *api.Config) { c.Budget = 11 },
		func(c *api.Config) { c.Limit = 0 },
		func(c *api.Config) { c.Limit = 9 },
		func(c *api.Config) { c.Weights[0] = 0 },
		func(c *api.Config) { c.Weights[2] = 17 },
		func(c *api.Config) { c.Weights[3] = 1 },
		func(c *api.Config) { c.Step = math.MinInt },
		func(c *api.Config) { c.Mis = math.MaxInt },
	} {
		if s, e := New(with(3, change)); s != nil || e != api.ErrConfig {
			t.Errorf("%d: New(%+v) = %v, %d", i, with(3, change), s, e)
		}
	}
}

// P18.1: none is in, in the first cycle too: it failed, and the VALUE stays.
func TestNoneIn(t *testing.T) {
	for n := 3; n <= 4; n++ {
		all := [4]int{noFrame, noFrame, noFrame}
		if n == 4 {
			all[3] = noFrame
		}
		runs(t, plain(n),
			cycle{raws: at(), value: 5, suspect: -1, trips: all},
			cycle{raws: at(gone, 9), value: 9, in: 2, suspect: -1, trips: [4]int{noFrame, 0, noFrame, all[3]}},
			cycle{raws: at(), value: 9, suspect: -1, trips: all},
			cycle{raws: at(-9, -9, -9, -9), shut: 15, value: 9, suspect: -1},
		)
	}
}

// P18.1: one without a value, and those of the others: it has TripFrame alone, whatever its filter had.
func TestWithoutValue(t *testing.T) {
	runs(t, plain(3),
		cycle{raws: at(10, gone, 13), value: 11, in: 5, suspect: -1, trips: [4]int{0, noFrame}},
		cycle{raws: at(gone, -10, gone), value: -10, in: 2, suspect: -1, trips: [4]int{noFrame, 0, noFrame}},
	)
	runs(t, plain(4),
		cycle{raws: at(10, gone, 13, 14), value: 12, in: 13, suspect: -1, trips: [4]int{0, noFrame}},
		cycle{raws: at(gone, -10, gone, -13), value: -12, in: 10, suspect: -1, trips: [4]int{noFrame, 0, noFrame}},
	)
	// A level of 45, that neither falls nor trips where there is no value: 45, 45, 22, 11, 5.
	runs(t, with(3, func(c *api.Config) { c.Lag, c.Drift, c.Step = 1, 10, 200 }),
		cycle{raws: at(0, 0, 90), value: 1, in: 7, suspect: -1, trips: [4]int{0, 0, drifted + mis}},
		cycle{raws: at(0, 0), value: 0, in: 3, suspect: -1, trips: [4]int{0, 0, noFrame}},
		cycle{raws: at(0, 0, 0), value: 0, in: 7, suspect: -1, trips: [4]int{0, 0, drifted}},
		cycle{raws: at(0, 0, 0), value: 0, in: 7, suspect: -1, trips: [4]int{0, 0, drifted}},
		cycle{raws: at(0, 0, 0), value: 0, in: 7, suspect: -1},
	)
}

// P18.1: a trim stays as it is, where there is no value.
func TestWithoutValueTrim(t *testing.T) {
	runs(t, with(3, func(c *api.Config) { c.Auth = 10 }),
		cycle{raws: at(0, 0, 9), value: 1, in: 7, suspect: -1, offsets: [4]int{-1, -1, 8}},
		cycle{raws: at(0, 0), value: 1, in: 3, suspect: -1, trips: [4]int{0, 0, noFrame}, offsets: [4]int{-1, -1, 8}},
		cycle{raws: at(0, 0, 12), value: 2, in: 7, suspect: -1, offsets: [4]int{-2, -2, 10}},
	)
}

// P18.1: both watches miss where there is no value: what comes behind is no spike, and a run begins anew.
func TestMisses(t *testing.T) {
	runs(t, plain(3),
		cycle{raws: at(0, 0, 0), value: 0, in: 7, suspect: -1},
		cycle{raws: at(0, 0), value: 0, in: 3, suspect: -1, trips: [4]int{0, 0, noFrame}},
		cycle{raws: at(0, 0, 41), value: 1, in: 7, suspect: 2, trips: [4]int{0, 0, drifted + mis}},
		cycle{raws: at(0, 0, 0), value: 0, in: 3, suspect: -1, trips: [4]int{0, 0, spike}},
	)
	// Channel 2 tells 0 in three cycles, while the votes are 0, 20, 0, but not in a row.
	runs(t, plain(3),
		cycle{raws: at(0, 0, 0), value: 0, in: 7, suspect: -1},
		cycle{raws: at(20, 20), value: 20, in: 3, suspect: -1, trips: [4]int{0, 0, noFrame}},
		cycle{raws: at(0, 0, 0), value: 0, in: 7, suspect: -1},
		cycle{raws: at(1, 1, 0), value: 0, in: 7, suspect: -1},
	)
}

// P18.1: the ends of the range are in it; one out of range is not in.
func TestOutOfRange(t *testing.T) {
	runs(t, plain(3),
		cycle{raws: at(98, 100, 101), value: 99, in: 3, suspect: -1, trips: [4]int{0, 0, ranged}},
		cycle{raws: at(99, 99, 100), value: 99, in: 7, suspect: -1},
	)
	runs(t, plain(3),
		cycle{raws: at(-100, -99, -101), value: -100, in: 3, suspect: -1, trips: [4]int{0, 0, ranged}},
		cycle{raws: at(-100, -100, -100), value: -100, in: 7, suspect: -1},
	)
	runs(t, plain(4),
		cycle{raws: at(98, 101, 100, 97), value: 98, in: 13, suspect: -1, trips: [4]int{0, ranged}},
		cycle{raws: at(101, 101, 101, 98), value: 98, in: 8, suspect: -1, trips: [4]int{ranged, ranged, ranged}},
	)
}

// P18.1: a spike is more than Step; who has one is not in, and comes to its watch.
func TestSpike(t *testing.T) {
	runs(t, plain(3),
		cycle{raws: at(0, 0, 0), value: 0, in: 7, suspect: -1},
		cycle{raws: at(40, 0, 0), value: 1, in: 7, suspect: 0, trips: [4]int{drifted + mis}},
		cycle{raws: at(81, 0, 0), value: 0, in: 6, suspect: -1, trips: [4]int{spike + drifted + mis}},
		cycle{raws: at(81, 0, 0), value: 1, in: 7, suspect: -1, trips: [4]int{drifted + mis}},
		cycle{raws: at(122, 0, 0), value: 0, in: 6, suspect: -1, trips: [4]int{ranged + spike + drifted + mis}},
	)
	runs(t, plain(4),
		cycle{raws: at(0, 0, 0, -10), value: -1, in: 15, suspect: -1},
		cycle{raws: at(0, 0, 4, 31), value: 1, in: 7, suspect: -1, trips: [4]int{0, 0, 0, spike + drifted + mis}},
		cycle{raws: at(-41, 0, 45, 31), value: 15, in: 10, suspect: -1, trips: [4]int{spike + drifted + mis, 0, spike + mis}},
	)
}

// P18.1: one that is frozen is in, and so it is told at the last cycle of the window, by the votes ahead of that.
func TestFrozen(t *testing.T) {
	for _, x := range []struct{ stuck, trip int }{{17, frozen}, {18, 0}} {
		runs(t, with(3, func(c *api.Config) { c.Stuck = x.stuck }),
			cycle{raws: at(0, 0, 0), value: 0, in: 7, suspect: -1},
			cycle{raws: at(20, 20, 0), value: 18, in: 7, suspect: -1},
			cycle{raws: at(20, 20, 0), value: 18, in: 7, suspect: -1, trips: [4]int{0, 0, x.trip}},
			cycle{raws: at(20, 20, 0), value: 18, in: 7, suspect: -1},
		)
	}
	runs(t, with(4, func(c *api.Config) { c.Window, c.Stuck = 2, 0 }),
		cycle{raws: at(0, 0, 0, 0), value: 0, in: 15, suspect: -1},
		cycle{raws: at(20, 20, 20, 0), value: 19, in: 15, suspect: -1},
		cycle{raws: at(20, 20, 20, 0), value: 19, in: 15, suspect: -1},
	)
	runs(t, plain(4),
		cycle{raws: at(0, 0, 0, 0), value: 0, in: 15, suspect: -1},
		cycle{raws: at(20, 20, 20, 0), value: 19, in: 15, suspect: -1},
		cycle{raws: at(20, 20, 21, 0), value: 19, in: 15, suspect: -1, trips: [4]int{0, 0, 0, frozen}},
	)
}

// P18.1: the VALUE is a vote of the room where it stayed, too.
func TestVoteThatStayed(t *testing.T) {
	runs(t, plain(3),
		cycle{raws: at(0, 0, 0), value: 0, in: 7, suspect: -1},
		cycle{raws: at(20, 20, 0), value: 18, in: 7, suspect: -1},
		cycle{raws: at(20, 20, 0), shut: 7, value: 18, suspect: -1, trips: [4]int{0, 0, frozen}},
		cycle{raws: at(20, 20, 0), value: 18, in: 7, suspect: -1},
	)
	// Safe, in a first cycle in which none is in, is one, too.
	runs(t, plain(3),
		cycle{raws: at(20, 20, 0), shut: 7, value: 5, suspect: -1},
		cycle{raws: at(20, 20, 0), value: 18, in: 7, suspect: -1},
		cycle{raws: at(20, 20, 0), value: 18, in: 7, suspect: -1, trips: [4]int{frozen, frozen, frozen}},
	)
}

// P18.1: drift is by the mid of the raw values that are in, and more than Drift.
func TestDrift(t *testing.T) {
	for _, x := range []struct{ drift, trip int }{{5, 0}, {4, drifted}} {
		runs(t, with(3, func(c *api.Config) { c.Drift = x.drift }),
			cycle{raws: at(101, 0, 10), value: 5, in: 6, suspect: -1, trips: [4]int{ranged + drifted + mis, x.trip, x.trip}},
		)
	}
	// What is even of them is 10, 10, 20 in the second cycle, the mid of that 10: then 30 would be 20 off.
	runs(t, with(3, func(c *api.Config) { c.Auth, c.Clip, c.Drift = 10, 100, 29 }),
		cycle{raws: at(0, 0, 30), value: 10, in: 7, suspect: 2, trips: [4]int{0, 0, drifted}, offsets: [4]int{-10, -10, 10}},
		cycle{raws: at(0, 0, 30), value: 13, in: 7, suspect: -1, trips: [4]int{0, 0, drifted}, offsets: [4]int{-10, -10, 10}},
	)
	// A level that is reached with a lag: 8, 12, 14, 15, 15, whether the channel is in or not.
	runs(t, with(4, func(c *api.Config) { c.Lag, c.Drift = 1, 13 }),
		cycle{raws: at(0, 0, 0, 16), value: 1, in: 15, suspect: -1},
		cycle{raws: at(0, 0, 0, 16), shut: 8, value: 0, in: 7, suspect: -1},
		cycle{raws: at(0, 0, 0, 16), shut: 8, value: 0, in: 7, suspect: -1, trips: [4]int{0, 0, 0, drifted}},
		cycle{raws: at(0, 0, 0, 0), shut: 8, value: 0, in: 7, suspect: -1},
	)
}

// P18.1: if none is in, nothing comes to a filter, and nothing trips by it.
func TestDriftOfNone(t *testing.T) {
	for n := 3; n <= 4; n++ {
		runs(t, with(n, func(c *api.Config) { c.Lag, c.Drift, c.Step = 1, 10, 200 }),
			cycle{raws: at(0, 0, 90), shut: 8, value: 1, in: 7, suspect: -1, trips: [4]int{0, 0, drifted + mis, (n - 3) * noFrame}},
			cycle{raws: at(0, 0, 0, 0), shut: 15, value: 1, suspect: -1},
			cycle{raws: at(0, 0, 0, 0), shut: 7, value: max(0, 4-n), in: 8 * (n - 3), suspect: -1, trips: [4]int{0, 0, drifted * (n - 3)}},
			cycle{raws: at(0, 0, 0, 0), value: 0, in: 8*(n-3) + 7, suspect: -1, trips: [4]int{0, 0, drifted}},
		)
	}
}

// P18.1: the vote of those that are in, with their weights.
func TestWeights(t *testing.T) {
	c := with(4, func(c *api.Config) {
		c.Clip, c.Mis, c.Drift, c.Step, c.Stuck, c.Weights = 50, 100, 100, 500, 1000, [4]int{1, 2, 3, 4}
	})
	runs(t, c,
		cycle{raws: at(0, 200, 80, 40), value: 50, in: 13, suspect: -1, trips: [4]int{0, ranged + drifted + mis}},
		cycle{raws: at(gone, 0, gone, 30), value: 20, in: 10, suspect: -1, trips: [4]int{noFrame, 0, noFrame}},
		cycle{raws: at(0, 0, 0, 30), value: 12, in: 15, suspect: -1},
		cycle{raws: at(0, 0, 0, 30), shut: 6, value: 24, in: 9, suspect: -1},
		cycle{raws: at(0, 0, 0, -90), value: -20, in: 15, suspect: -1},
	)
	runs(t, with(3, func(c *api.Config) { c.Weights = [4]int{1, 1, 2} }),
		cycle{raws: at(10, 12, 11), value: 11, in: 7, suspect: -1},
		cycle{raws: at(0, 3, 16), value: 4, in: 7, suspect: -1},
		cycle{raws: at(0, 3), value: 1, in: 3, suspect: -1, trips: [4]int{0, 0, noFrame}},
	)
}

// P18.1: the vote is of what is even, by what the trims learned ahead of this cycle; they learn of the raw value.
func TestEven(t *testing.T) {
	runs(t, with(3, func(c *api.Config) { c.Auth, c.Clip = 10, 100 }),
		cycle{raws: at(0, 0, 30), value: 10, in: 7, suspect: 2, offsets: [4]int{-10, -10, 10}},
		cycle{raws: at(0, 0, 30), value: 13, in: 7, suspect: -1, offsets: [4]int{-10, -10, 10}},
		cycle{raws: at(9, 14, 6), value: 13, in: 7, suspect: 2, offsets: [4]int{-4, 1, -7}},
		cycle{raws: at(9, 14, 6), value: 13, in: 7, suspect: -1, offsets: [4]int{-4, 1, -7}},
	)
	runs(t, with(4, func(c *api.Config) { c.Auth, c.Gain, c.Clip = 10, 1, 100 }),
		cycle{raws: at(0, 0, 0, 16), value: 4, in: 15, suspect: -1, offsets: [4]int{-2, -2, -2, 6}},
		cycle{raws: at(0, 0, 0, 16), value: 4, in: 15, suspect: -1, offsets: [4]int{-3, -3, -3, 9}},
		cycle{raws: at(0, 0, 0, 16), value: 4, in: 15, suspect: -1, offsets: [4]int{-4, -4, -4, 10}},
	)
}

// P18.1: miscompare is more than Mis from the VALUE, by what is even, of a channel that is not in, too.
func TestMiscompare(t *testing.T) {
	for _, x := range []struct{ mis, trip int }{{29, mis}, {30, 0}} {
		runs(t, with(3, func(c *api.Config) { c.Mis = x.mis }),
			cycle{raws: at(0, 0, 30), shut: 4, value: 0, in: 3, suspect: -1, trips: [4]int{0, 0, x.trip}},
			cycle{raws: at(0, 0, 30), shut: 4, value: 0, in: 3, suspect: -1, trips: [4]int{0, 0, x.trip}},
		)
		runs(t, with(4, func(c *api.Config) { c.Mis = x.mis }),
			cycle{raws: at(0, -30, 0, 0), shut: 2, value: 0, in: 13, suspect: -1, trips: [4]int{0, x.trip}},
		)
	}
	// By the VALUE that stayed: Safe.
	runs(t, plain(3),
		cycle{raws: at(26, 25, -16), shut: 7, value: 5, suspect: -1, trips: [4]int{mis, 0, mis}},
	)
	// 10 is even of 30 in the second cycle, and 20 of 0, that is 13 from the VALUE.
	runs(t, with(3, func(c *api.Config) { c.Auth, c.Clip, c.Mis = 10, 100, 7 }),
		cycle{raws: at(0, 0, 30), value: 10, in: 7, suspect: -1, trips: [4]int{mis, mis, mis}, offsets: [4]int{-10, -10, 10}},
		cycle{raws: at(0, 0, 30), value: 13, in: 7, suspect: 2, offsets: [4]int{-10, -10, 10}},
		cycle{raws: at(0, 0, 28), shut: 4, value: 10, in: 3, suspect: -1, trips: [4]int{0, 0, mis}, offsets: [4]int{-10, -10, 10}},
	)
}

// P18.1: the suspect is told by its channel's number, also where some ahead of it are not in.
func TestSuspect(t *testing.T) {
	runs(t, with(4, func(c *api.Config) { c.Stuck = 1000 }),
		cycle{raws: at(0, 0, 0, 30), shut: 1, value: 1, in: 14, suspect: 3, trips: [4]int{0, 0, 0, mis}},
		cycle{raws: at(30, gone, 0, 0), value: 1, in: 13, suspect: 0, trips: [4]int{mis, noFrame}},
		cycle{raws: at(0, gone, 30, 0), value: 1, in: 13, suspect: 2, trips: [4]int{0, noFrame, mis}},
		cycle{raws: at(101, 0, 30, 0), value: 1, in: 14, suspect: 2, trips: [4]int{ranged + spike + drifted + mis, 0, mis}},
		cycle{raws: at(101, 0, 0, 0), value: 0, in: 14, suspect: -1, trips: [4]int{ranged + drifted + mis}},
		cycle{raws: at(gone, 0, 21, 0), value: 1, in: 14, suspect: 2, trips: [4]int{noFrame}},
		cycle{raws: at(gone, 0, 20, 0), value: 1, in: 14, suspect: -1, trips: [4]int{noFrame}},
		cycle{raws: at(0, 0, 40, 40), value: 20, in: 15, suspect: -1},
		cycle{raws: at(0, 0, 40, 0), value: 1, in: 15, suspect: 2, trips: [4]int{0, 0, drifted + mis}},
		cycle{raws: at(0, gone, 40, gone), value: 20, in: 5, suspect: -1, trips: [4]int{0, noFrame, 0, noFrame}},
	)
	runs(t, plain(3),
		cycle{raws: at(0, 30, 0), value: 1, in: 7, suspect: 1, trips: [4]int{0, mis}},
		cycle{raws: at(30, gone, 0), value: 15, in: 5, suspect: -1, trips: [4]int{0, noFrame}},
		cycle{raws: at(0, gone, gone), value: 0, in: 1, suspect: -1, trips: [4]int{0, noFrame, noFrame}},
	)
}

// P18.1: one that is latched in this cycle was in; then it is not, but its filter, its trim, and its latch go on.
func TestLatched(t *testing.T) {
	runs(t, with(3, func(c *api.Config) { c.Latch, c.Auth = 1, 10 }),
		cycle{raws: at(0, 0, 30), value: 1, in: 7, latched: 4, suspect: 2, trips: [4]int{0, 0, mis}, events: [4]int{0, 0, 1}, offsets: [4]int{-1, -1, 10}},
		cycle{raws: at(0, 0, -5), value: 1, in: 3, latched: 4, suspect: -1, offsets: [4]int{-1, -1, -6}},
		cycle{raws: at(0, 0, 30), value: 1, in: 3, latched: 4, suspect: -1, trips: [4]int{0, 0, mis}, offsets: [4]int{-1, -1, 10}},
		cycle{raws: at(0, 0, 31), value: 1, in: 3, latched: 4, suspect: -1, trips: [4]int{0, 0, drifted}, offsets: [4]int{-1, -1, 10}},
		cycle{raws: at(0, 0, 30), value: 1, in: 3, latched: 4, suspect: -1, offsets: [4]int{-1, -1, 10}},
		cycle{raws: at(0, 0, 30), value: 1, in: 3, suspect: -1, events: [4]int{0, 0, 2}, offsets: [4]int{-1, -1, 10}},
		cycle{raws: at(0, 0, 12), value: 1, in: 7, suspect: -1, offsets: [4]int{-1, -1, 10}},
	)
	runs(t, with(4, func(c *api.Config) { c.Latch = 2 }),
		cycle{raws: at(0, 0, 0, 30), value: 1, in: 15, suspect: 3, trips: [4]int{0, 0, 0, mis}},
		cycle{raws: at(0, 0, gone, 30), value: 1, in: 11, latched: 8, suspect: 3, trips: [4]int{0, 0, noFrame, mis}, events: [4]int{0, 0, 0, 1}},
		cycle{raws: at(0, 0, gone, 0), value: 0, in: 3, latched: 12, suspect: -1, trips: [4]int{0, 0, noFrame}, events: [4]int{0, 0, 1}},
		cycle{raws: at(0, 0, 0, 0), value: 0, in: 3, latched: 4, suspect: -1, events: [4]int{0, 0, 0, 2}},
		cycle{raws: at(0, 0, 0, 0), value: 0, in: 11, suspect: -1, events: [4]int{0, 0, 2}},
		cycle{raws: at(0, 0, 0, 0), value: 0, in: 15, suspect: -1},
	)
}

// P18.1: each trip by itself counts to a latch.
func TestEachTripLatches(t *testing.T) {
	for _, x := range []struct {
		name   string
		trip   int
		change func(c *api.Config)
		ahead  []int // what channel 2 tells, while the others tell 0, then 20
		raw    int
	}{
		{"frame", noFrame, func(c *api.Config) {}, []int{0}, gone},
		{"range", ranged, func(c *api.Config) { c.Hi = 19; c.Lo = -19; c.Clip = 0 }, []int{10}, 20},
		{"spike", spike, func(c *api.Config) { c.Step = 9 }, []int{0}, 10},
		{"stuck", frozen, func(c *api.Config) { c.Window, c.Stuck = 3, 0 }, []int{0, 0}, 0},
		{"drift", drifted, func(c *api.Config) { c.Drift = 9 }, []int{0}, 11},
		{"mis", mis, func(c *api.Config) { c.Mis = 6 }, []int{0}, 10},
	} {
		c := with(3, func(c *api.Config) { c.Latch, c.Mis, c.Safe = 1, 50, 0 })
		x.change(&c)
		s, m := both(t, c)
		for i, n := range x.ahead {
			// The votes move, so that what stays is frozen.
			if r := steps(t, s, m, at(i*9, i*9, n), 0); r.Trips != [4]int{} {
				t.Fatalf("%s, ahead: %+v", x.name, r)
			}
		}
		first := (len(x.ahead) - 1) * 9
		r := steps(t, s, m, at(first, first+1, x.raw), 0)
		if r.Trips != [4]int{0, 0, x.trip} || r.Events != [4]int{0, 0, 1} || r.Status.Latched != 4 {
			t.Errorf("%s: %+v", x.name, r)
		}
	}
}

// P18.1: back as often as Budget tells, then out, for good.
func TestOut(t *testing.T) {
	c := with(3, func(c *api.Config) { c.Latch = 2 })
	lost := [4]int{0, 0, noFrame}
	runs(t, c,
		cycle{raws: at(1, 1), value: 1, in: 3, suspect: -1, trips: lost},
		cycle{raws: at(1, 1), value: 1, in: 3, latched: 4, suspect: -1, trips: lost, events: [4]int{0, 0, 1}},
		cycle{raws: at(1, 1, 1), value: 1, in: 3, latched: 4, suspect: -1},
		cycle{raws: at(1, 1, 1), value: 1, in: 3, suspect: -1, events: [4]int{0, 0, 2}},
		cycle{raws: at(1, 1), value: 1, in: 3, suspect: -1, trips: lost},
		cycle{raws: at(1, 1, 1), value: 1, in: 7, suspect: -1},
		cycle{raws: at(1, 1), value: 1, in: 3, suspect: -1, trips: lost},
		cycle{raws: at(1, 1), value: 1, in: 3, latched: 4, suspect: -1, trips: lost, events: [4]int{0, 0, 3}},
		cycle{raws: at(1, 1, 1), value: 1, in: 3, latched: 4, suspect: -1},
		cycle{raws: at(1, 1, 1), value: 1, in: 3, latched: 4, suspect: -1},
		cycle{raws: at(1, 1, 1), value: 1, in: 3, latched: 4, suspect: -1},
	)
}

// P18.1: a mask of shut channels, from 0 to 15, those that there are not in it, too; they are not in, and nothing trips by it.
func TestShut(t *testing.T) {
	for n := 3; n <= 4; n++ {
		for shut := -1; shut <= 16; shut++ {
			s, m := both(t, with(n, func(c *api.Config) { c.Auth, c.Latch = 7, 1 }))
			r := steps(t, s, m, at(1, 2, 3, 4), shut)
			if shut < 0 || shut > 15 {
				if r != (Result{}) {
					t.Errorf("%d: %+v", shut, r)
				}
				continue
			}
			if want := (1<<n - 1) &^ shut; r.Status.In != want || r.Status.Fail != (want == 0) || r.Trips != [4]int{} || r.Events != [4]int{} {
				t.Errorf("%d: %+v", shut, r)
			}
			for range 5 {
				steps(t, s, m, at(1, 2, 3, 4), shut)
			}
		}
		s, m := both(t, plain(n))
		for _, shut := range []int{-2, -16, 17, 31, 32, 256, 1 << 16, 1 << 32, -1 << 32, math.MinInt, math.MaxInt} {
			if r := steps(t, s, m, at(1, 2, 3, 4), shut); r != (Result{}) {
				t.Errorf("%d: %+v", shut, r)
			}
		}
	}
}

// P18.1: while a channel is shut, its filter, its trim, its watches, and its latch go on.
func TestShutGoesOn(t *testing.T) {
	runs(t, with(3, func(c *api.Config) { c.Auth, c.Lag, c.Drift, c.Latch = 10, 1, 13, 2 }),
		cycle{raws: at(0, 0, 16), shut: 4, value: 0, in: 3, suspect: -1, offsets: [4]int{0, 0, 10}},
		cycle{raws: at(0, 0, 16), shut: 4, value: 0, in: 3, suspect: -1, offsets: [4]int{0, 0, 10}},
		cycle{raws: at(0, 0, 16), shut: 4, value: 0, in: 3, suspect: -1, trips: [4]int{0, 0, drifted}, offsets: [4]int{0, 0, 10}},
		cycle{raws: at(0, 0, 57), shut: 4, value: 0, in: 3, latched: 4, suspect: -1, trips: [4]int{0, 0, spike + drifted + mis}, events: [4]int{0, 0, 1}, offsets: [4]int{0, 0, 10}},
		cycle{raws: at(0, 0, 17), shut: 4, value: 0, in: 3, latched: 4, suspect: -1, trips: [4]int{0, 0, drifted}, offsets: [4]int{0, 0, 10}},
		cycle{raws: at(0, 0, -9), shut: 4, value: 0, in: 3, latched: 4, suspect: -1, offsets: [4]int{0, 0, -9}},
		cycle{raws: at(0, 0, -9), shut: 4, value: 0, in: 3, suspect: -1, events: [4]int{0, 0, 2}, offsets: [4]int{0, 0, -9}},
		cycle{raws: at(0, 0, -9), value: 0, in: 7, suspect: -1, offsets: [4]int{0, 0, -9}},
	)
}

// wide is a configuration of n channels whose range is all raw values.
func wide(n int) api.Config {
	return with(n, func(c *api.Config) { c.Lo, c.Hi, c.Step, c.Stuck, c.Mis = least, most, most, most, most })
}

// P18.1: the least, and the greatest raw value, and trims as far off as can be: nothing wraps round.
func TestFarthest(t *testing.T) {
	runs(t, wide(3),
		cycle{raws: at(least, least, most), value: least + 1, in: 7, suspect: 2, trips: [4]int{0, 0, drifted + mis}},
		cycle{raws: at(most, most, most), value: most, in: 4, suspect: -1, trips: [4]int{spike, spike}},
		cycle{raws: at(least, least, least), value: most, suspect: -1, trips: [4]int{spike + mis, spike + mis, spike + mis}},
		cycle{raws: at(least, least, least), value: least, in: 7, suspect: -1},
		cycle{raws: at(-1, least, least), value: least + 1, in: 7, suspect: -1, trips: [4]int{drifted, frozen, frozen}},
		cycle{raws: at(most, -1, 0), value: -1, in: 2, suspect: -1, trips: [4]int{spike + drifted + mis, 0, spike}},
	)
	c := wide(4)
	c.Auth, c.Clip = most, most
	runs(t, c,
		cycle{raws: at(least, least, most, most), value: -1, in: 15, suspect: -1, trips: [4]int{drifted, drifted, drifted + mis, drifted + mis}, offsets: [4]int{-most, -most, most, most}},
		cycle{raws: at(most, most, least, least), value: -1, suspect: -1, trips: [4]int{spike + mis, spike + mis, spike + mis, spike + mis}, offsets: [4]int{most, most, -most, -most}},
		cycle{raws: at(most, most, least, least), value: -1, in: 15, suspect: -1, trips: [4]int{drifted, drifted, drifted, drifted}, offsets: [4]int{most, most, -most, -most}},
	)
}

// P18.1: a raw value outside, of each channel that there is, is an error; of one that there is not, it counts not, and what is none is none, whatever its number.
func TestWrongRaws(t *testing.T) {
	for n := 3; n <= 4; n++ {
		for _, x := range []int{least - 1, most + 1, least - 2, 1 << 32, -1 << 32, 1 << 62, math.MaxInt, math.MinInt, math.MinInt + 1} {
			for channel := range 4 {
				s, m := both(t, plain(n))
				raws := at(3, 4, 5, 6)
				raws[channel] = Raw{Is: true, N: x}
				r, e := s.Step(raws, 0)
				if channel < n {
					if e != api.ErrArg || r != (Result{}) {
						t.Errorf("%d of channel %d of %d: %+v, %d", x, channel, n, r, e)
					}
					stands(t, s, m)
					continue
				}
				if e != api.OK || r.Trips != [4]int{} || r.Events != [4]int{} || r.Status != (api.Status{In: 7, Suspect: -1}) || r.Value != 4 {
					t.Errorf("%d of channel %d of %d: %+v, %d", x, channel, n, r, e)
				}
			}
			s, m := both(t, plain(n))
			raws := at(3, 4, 5, 6)
			raws[1] = Raw{N: x}
			if r := steps(t, s, m, raws, 0); r.Trips != [4]int{0, noFrame} || r.Status.In != 1<<n-1-2 {
				t.Errorf("no value, and %d: %+v", x, r)
			}
		}
	}
}

// P1: every call on a nil signal, whatever it is given.
func TestNil(t *testing.T) {
	var s *Signal
	for _, raws := range [][4]Raw{at(), at(1, 2, 3, 4), at(most+1, least-1)} {
		for _, shut := range []int{0, 7, 15, 16, -1, math.MinInt, math.MaxInt} {
			if r, e := s.Step(raws, shut); r != (Result{}) || e != api.ErrArg {
				t.Errorf("Step(%v, %d) = %+v, %d", raws, shut, r, e)
			}
		}
	}
	for _, i := range []int{-1, 0, 1, 2, 3, 4, math.MinInt, math.MaxInt} {
		if state, ok := s.State(i); ok || state != (latch.State{}) || s.Offset(i) != 0 {
			t.Errorf("State(%d) = %v, %t, Offset = %d", i, state, ok, s.Offset(i))
		}
	}
	if s.Value() != 0 || s.Latched() != 0 {
		t.Errorf("Value() = %d, Latched() = %d", s.Value(), s.Latched())
	}
}
