package fusion

import (
	"testing"

	"rudder/api"
	"rudder/output"
)

// drawer gives numbers from 0 on that hang on seed alone.
func drawer(seed int) func(below int) int {
	state := uint64(seed)*2862933555777941757 + 3037000493
	return func(below int) int {
		state = state*6364136223846793005 + 1442695040888963407
		return int(state>>29) % below
	}
}

// open is a configuration of n channels in which a value out of the range from -100 to 100 trips that, and nothing else trips: what is latched there hangs on the frames alone.
func open(n int) api.Config {
	c := api.Config{
		N: n, Lo: -100, Hi: 100, Safe: 5, Step: 1000, Stuck: 1000, Window: 2, Drift: 1000, Lag: 0, Mis: 1000, Auth: 0, Gain: 0, Clip: 1000,
		Latch: 2, Clean: 2, Budget: 1, Limit: 8,
	}
	for i := range n {
		c.Weights[i] = 1
	}
	return c
}

// limited is one with a limit.
func limited(n, limit int) api.Config {
	c := open(n)
	c.Limit = limit
	return c
}

// all is a value of each signal.
func all(n int) [signals]int { return [signals]int{n, n, n, n, n, n, n, n} }

// outside is n of each signal, but 101, which is out of the range, of those in a mask.
func outside(n, mask int) [signals]int {
	l := all(n)
	for i := range l {
		if mask>>i&1 == 1 {
			l[i] = 101
		}
	}
	return l
}

// slotOf is a slot with a channel's frame.
func slotOf(channel, seq int, values [signals]int) api.Slot {
	return api.Slot{Is: true, Bytes: frameOf(channel, seq, values)}
}

// cycleOf is fine frames of all four channels.
func cycleOf(seq int, values ...[signals]int) api.Cycle {
	var c api.Cycle
	for channel, l := range values {
		c[channel] = slotOf(channel, (seq+100*channel)%turn, l)
	}
	return c
}

// inOf, latchedOf: who is in, and who is latched, of each signal.
func inOf(o api.Output) (l [signals]int) {
	for i, s := range o.Status {
		l[i] = s.In
	}
	return l
}

func latchedOf(o api.Output) (l [signals]int) {
	for i, s := range o.Status {
		l[i] = s.Latched
	}
	return l
}

// but is a value of each signal, but another one of those in a mask.
func but(n, mask, there int) [signals]int {
	l := all(n)
	for i := range l {
		if mask>>i&1 == 1 {
			l[i] = there
		}
	}
	return l
}

// told holds P20.2: an output may be, and comes back from its bytes, and its values are in the range.
func told(t testing.TB, c api.Config, o api.Output, b []byte) {
	t.Helper()
	if !mayBe(o) || !output.Right(o) {
		t.Fatalf("%+v may not be", o)
	}
	if back, e := output.Decode(b); back != o || e != 0 || len(b) != 54 {
		t.Fatalf("%+v, %v: back come %+v, %d", o, b, back, e)
	}
	for i, n := range o.Values {
		if n < c.Lo || n > c.Hi {
			t.Fatalf("of %+v: the value %d of signal %d", c, n, i)
		}
	}
}
