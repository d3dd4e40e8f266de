package report

import (
	"slices"

	"rudder/api"
	"rudder/config"
	"rudder/frame"
	"rudder/scene"
)

// drawer gives numbers from 0 on that hang on seed alone.
func drawer(seed int) func(below int) int {
	state := uint64(seed)*2862933555777941757 + 3037000493
	return func(below int) int {
		state = state*6364136223846793005 + 1442695040888963407
		return int(state>>29) % below
	}
}

// all is a value of each signal.
func all(n int) [signals]int { return [signals]int{n, n, n, n, n, n, n, n} }

// statuses are all that may be.
func statuses() []api.Status {
	var l []api.Status
	for in := range 16 {
		for latched := range 16 {
			for suspect := -1; suspect < 4; suspect++ {
				if s := (api.Status{In: in, Latched: latched, Suspect: suspect, Fail: in == 0}); statusMayBe(s) {
					l = append(l, s)
				}
			}
		}
	}
	return l
}

// some is an output that may be, with each mode, and a value of each end.
func some() api.Output {
	o := api.Output{Seq: 258, Values: [signals]int{least, -10, -1, 0, 1, 9, 1000000, most}}
	for i, in := range []int{15, 0, 1, 6, 13, 8, 7, 3} {
		o.Status[i] = api.Status{In: in, Latched: 15 - in, Suspect: -1, Fail: in == 0}
	}
	o.Status[4].Suspect = 2
	return o
}

const someLine = "258 -2147483648/quad -10/hold -1/single 0/duplex 1/triple 9/single 1000000/triple 2147483647/duplex"

// with is an output, changed.
func with(o api.Output, change func(o *api.Output)) api.Output {
	change(&o)
	return o
}

// drawnOutput is one that may be.
func drawnOutput(draw func(int) int) api.Output {
	may := statuses()
	o := api.Output{Seq: draw(turn)}
	if draw(4) == 0 {
		o.Seq = []int{0, 1, 9, 10, 65534, 65535}[draw(6)]
	}
	for i := range o.Values {
		o.Values[i] = (draw(1<<31) - 1<<31*draw(2)) >> draw(32)
		if draw(4) == 0 {
			o.Values[i] = []int{least, least + 1, -10, -1, 0, 1, 10, most - 1, most}[draw(9)]
		}
		o.Status[i] = may[draw(len(may))]
	}
	return o
}

// slotOf is a slot with a channel's frame.
func slotOf(channel, seq int, values [signals]int) api.Slot {
	b, e := frame.Encode(channel, api.Frame{Seq: seq % turn, Values: values})
	if e != 0 {
		panic("the test's own")
	}
	return api.Slot{Is: true, Bytes: b}
}

// strange are slots that a channel may send: absent ones, those of wrong bytes in each way, and one whose number does not follow.
func strange(channel int, values [signals]int) []api.Slot {
	fine := slotOf(channel, 77, values).Bytes
	flipped := func(at int) api.Slot {
		b := slices.Clone(fine)
		b[at] ^= 1
		return api.Slot{Is: true, Bytes: b}
	}
	return []api.Slot{
		{},
		{Bytes: fine},
		{Is: true},
		{Is: true, Bytes: fine[:37]},
		{Is: true, Bytes: append(slices.Clone(fine), 0)},
		{Is: true, Bytes: make([]byte, 38)},
		slotOf((channel+1)%channels, 77, values),
		flipped(0), flipped(1), flipped(3), flipped(19), flipped(37),
		slotOf(channel, 77, values),
	}
}

// odds are those that a scene of n channels may have.
func odds(n int) []int { return []int{-1, 0, 1, 2, 3}[:n+1] }

// tight is a configuration of n channels that covers an error, and a rate, just so.
func tight(n, e, r int) api.Config {
	c, _ := config.Default(n)
	c.Lo, c.Hi, c.Safe = -1000, 1000, 5
	c.Auth, c.Gain, c.Clip, c.Window, c.Lag = 3, 2, 7, 4, 2
	c.Mis, c.Step, c.Drift, c.Stuck = 2*e+13, r+2*e, 2*e, 4*e+20
	c.Latch, c.Clean, c.Budget = 2, 3, 1
	for channel := range n {
		c.Weights[channel] = 1 + channel
	}
	return c
}

// plain is a right scene with the error 6 and the rate 9, whose truths move, and whose channels are off, as far as may be; the odd one tells the truth.
func plain(n, odd, points int) scene.Scene {
	s := scene.Scene{Config: tight(n, 6, 9), E: 6, R: 9, Odd: odd, Seqs: [channels]int{65530, 0, 7, 65535}}
	for i := range points {
		var p scene.Point
		for signal := range p.Truth {
			p.Truth[signal] = 100*signal - 300 + 9*(i+signal)%18
			for channel := range p.Off {
				p.Off[channel][signal] = (i+5*signal+3*channel)%13 - 6
			}
		}
		if odd >= 0 {
			p.Slot = slotOf(odd, i, p.Truth)
			p.Off[odd] = all(7 + 1<<50) // it counts not
		}
		s.Points = append(s.Points, p)
	}
	return s
}

// sends is a scene whose odd channel sends what is told of each point.
func sends(s scene.Scene, slot func(i int, truth [signals]int) api.Slot) scene.Scene {
	s.Points = slices.Clone(s.Points)
	for i := range s.Points {
		s.Points[i].Slot = slot(i, s.Points[i].Truth)
	}
	return s
}

// fine are outputs of a right scene of which there is nothing to complain: all channels are in, but the odd one, which is latched of all signals.
func fine(s scene.Scene) []api.Output {
	l := make([]api.Output, len(s.Points))
	for i := range l {
		l[i].Seq = i
		for signal := range signals {
			least, _ := scene.Range(s, i, signal)
			u := api.Status{In: 1<<s.Config.N - 1, Suspect: -1}
			if s.Odd >= 0 {
				u.In -= 1 << s.Odd
				u.Latched = 1 << s.Odd
			}
			l[i].Values[signal], l[i].Status[signal] = least, u
		}
	}
	return l
}

// copied is a scene of its own memory.
func copied(s scene.Scene) scene.Scene {
	s.Points = slices.Clone(s.Points)
	for i := range s.Points {
		s.Points[i].Slot.Bytes = slices.Clone(s.Points[i].Slot.Bytes)
	}
	return s
}

// wrongs are changes of a right scene of more than one point, each of which gives it a fault, by the faults' words.
func wrongs(s scene.Scene) map[string][]func(s *scene.Scene) {
	healthy, last := (s.Odd+1)%s.Config.N, len(s.Points)-1
	return map[string][]func(s *scene.Scene){
		"cover": {
			func(s *scene.Scene) { s.E++ },
			func(s *scene.Scene) { s.E = -1 },
			func(s *scene.Scene) { s.R++ },
			func(s *scene.Scene) { s.R = -1 },
			func(s *scene.Scene) { s.Config.Mis-- },
			func(s *scene.Scene) { s.Config = api.Config{} },
			func(s *scene.Scene) { s.Config.N = 5 },
			func(s *scene.Scene) { s.Config.N = -1 << 62 },
			func(s *scene.Scene) { s.Config.Latch = 0 },
		},
		"odd": {
			func(s *scene.Scene) { s.Odd = -2 },
			func(s *scene.Scene) { s.Odd = s.Config.N },
			func(s *scene.Scene) { s.Odd = 1 << 62 },
		},
		"number": {
			func(s *scene.Scene) { s.Seqs[0] = -1 },
			func(s *scene.Scene) { s.Seqs[s.Config.N-1] = turn },
		},
		"points": {
			func(s *scene.Scene) { s.Points = make([]scene.Point, many+1) },
		},
		"truth": {
			func(s *scene.Scene) { s.Points[0].Truth[7] = 995 },
			func(s *scene.Scene) { s.Points[0].Truth[0] = -995 },
			func(s *scene.Scene) { s.Points[last].Truth[3] = s.Points[last-1].Truth[3] + 10 },
			func(s *scene.Scene) { s.Points[last].Truth[3] = s.Points[last-1].Truth[3] - 10 },
			func(s *scene.Scene) { s.Points[last].Truth[0] = -1 << 63 },
		},
		"off": {
			func(s *scene.Scene) { s.Points[0].Off[healthy][0] = 7 },
			func(s *scene.Scene) { s.Points[last].Off[healthy][7] = -7 },
			func(s *scene.Scene) { s.Points[last].Off[healthy][4] = 1<<63 - 1 },
		},
	}
}
