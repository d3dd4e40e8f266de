package script

import (
	"math"
	"slices"

	"rudder/api"
)

// drawer gives numbers from 0 on that hang on seed alone.
func drawer(seed int) func(below int) int {
	state := uint64(seed)*2862933555777941757 + 3037000493
	return func(below int) int {
		state = state*6364136223846793005 + 1442695040888963407
		return int(state>>29) % below
	}
}

// open is a configuration of n channels in which a value out of the range from -100 to 100 trips that, and nothing else trips: what is latched there hangs on the frames alone.
func open(n int) api.Config {
	c := api.Config{
		N: n, Lo: -100, Hi: 100, Safe: 5, Step: 1000, Stuck: 1000, Window: 2, Drift: 1000, Lag: 0, Mis: 1000, Auth: 0, Gain: 0, Clip: 1000,
		Latch: 2, Clean: 2, Budget: 1, Limit: 8,
	}
	for i := range n {
		c.Weights[i] = 1
	}
	return c
}

// all is a value of each signal.
func all(n int) [signals]int { return [signals]int{n, n, n, n, n, n, n, n} }

// slotOf is a slot with a channel's frame.
func slotOf(channel, seq int, values [signals]int) api.Slot {
	return api.Slot{Is: true, Bytes: frameOf(channel, seq, values)}
}

// cycleOf is fine frames of the first channels.
func cycleOf(seq int, values ...[signals]int) api.Cycle {
	var c api.Cycle
	for channel, l := range values {
		c[channel] = slotOf(channel, (seq+100*channel)%turn, l)
	}
	return c
}

// fineOnes are cycles in which all four channels send fine frames of values that move.
func fineOnes(n int) []api.Cycle {
	var l []api.Cycle
	for i := range n {
		l = append(l, cycleOf(i, all(i%50), all(i%50+1), all(i%50+2), all(i%50-1)))
	}
	return l
}

// copied is a script of its own memory.
func copied(l []api.Cycle) []api.Cycle {
	out := slices.Clone(l)
	for i := range out {
		for channel, s := range out[i] {
			out[i][channel].Bytes = slices.Clone(s.Bytes)
		}
	}
	return out
}

// cloned is a result of its own memory.
func cloned(r Result) Result {
	return Result{Bytes: slices.Clone(r.Bytes), Outputs: slices.Clone(r.Outputs), Notes: slices.Clone(r.Notes), Lost: r.Lost}
}

// joined are the bytes of outputs, one behind the other.
func joined(l ...api.Output) []byte {
	var b []byte
	for _, o := range l {
		b = append(b, bytesOf(o)...)
	}
	return b
}

// wrongConfigs may not be: each field is one outside, or far off, alone.
func wrongConfigs() []api.Config {
	l := []api.Config{{}}
	for n := 3; n <= 4; n++ {
		for _, change := range []func(c *api.Config){
			func(c *api.Config) { c.N = 2 },
			func(c *api.Config) { c.N = 5 },
			func(c *api.Config) { c.N += 1 << 32 },
			func(c *api.Config) { c.N = 7 - c.N }, // its weights are the other number's
			func(c *api.Config) { c.Lo = least - 1 },
			func(c *api.Config) { c.Hi = most + 1 },
			func(c *api.Config) { c.Hi = c.Lo - 1 },
			func(c *api.Config) { c.Safe = c.Hi + 1 },
			func(c *api.Config) { c.Step = -1 },
			func(c *api.Config) { c.Stuck = -1 },
			func(c *api.Config) { c.Window = 17 },
			func(c *api.Config) { c.Drift = most + 1 },
			func(c *api.Config) { c.Lag = 9 },
			func(c *api.Config) { c.Mis = -1 },
			func(c *api.Config) { c.Auth = most + 1 },
			func(c *api.Config) { c.Gain = -1 },
			func(c *api.Config) { c.Clip = -1 },
			func(c *api.Config) { c.Latch = 0 },
			func(c *api.Config) { c.Clean = 1001 },
			func(c *api.Config) { c.Budget = 11 },
			func(c *api.Config) { c.Limit = math.MinInt },
			func(c *api.Config) { c.Weights[2] = 0 },
			func(c *api.Config) { c.Weights[0] = 17 },
			func(c *api.Config) { c.Weights[3] = 20 },
		} {
			c := open(n)
			change(&c)
			l = append(l, c)
		}
	}
	return l
}
