package judge

import (
	"slices"

	"rudder/api"
	"rudder/scene"
)

// drawer gives numbers from 0 on that hang on seed alone.
func drawer(seed int) func(below int) int {
	state := uint64(seed)*2862933555777941757 + 3037000493
	return func(below int) int {
		state = state*6364136223846793005 + 1442695040888963407
		return int(state>>29) % below
	}
}

// tight is a configuration of n channels that covers an error, and a rate, just so.
func tight(n, e, r int) api.Config {
	c := api.Config{
		N: n, Lo: -1000, Hi: 1000, Safe: 5, Step: r + 2*e, Stuck: 4*e + 20, Window: 4, Drift: 2 * e, Lag: 2, Mis: 2*e + 13, Auth: 3, Gain: 2, Clip: 7,
		Latch: 2, Clean: 3, Budget: 1, Limit: 4,
	}
	for i := range n {
		c.Weights[i] = 1 + i
	}
	return c
}

// all is a value of each signal.
func all(n int) [signals]int { return [signals]int{n, n, n, n, n, n, n, n} }

// slotOf is a slot with a channel's frame.
func slotOf(channel, seq int, values [signals]int) api.Slot {
	return api.Slot{Is: true, Bytes: frameOf(channel, seq, values)}
}

// strange are slots that a channel may send: absent ones, those of wrong bytes in each way, and fine ones; how many of them hold no frame of it comes first.
func strange(channel int, values [signals]int) (int, []api.Slot) {
	fine := frameOf(channel, 77, values)
	flipped := func(at int) api.Slot {
		b := slices.Clone(fine)
		b[at] ^= 1
		return api.Slot{Is: true, Bytes: b}
	}
	l := []api.Slot{
		{},
		{Bytes: fine},
		{Is: true},
		{Is: true, Bytes: fine[:37]},
		{Is: true, Bytes: append(slices.Clone(fine), 0)},
		{Is: true, Bytes: make([]byte, 38)},
		slotOf((channel+1)%4, 77, values),
		slotOf(channel+4, 77, values),
		flipped(0), flipped(1), flipped(19), flipped(37),
	}
	return len(l), append(l, slotOf(channel, 77, values), slotOf(channel, 78, values), slotOf(channel, 0, values), slotOf(channel, 65535, values))
}

// plain is a right scene of points, with the error 6 and the rate 9, whose truths move, and whose channels are off, as far as may be, too.
func plain(n, odd, points int) scene.Scene {
	s := scene.Scene{Config: tight(n, 6, 9), E: 6, R: 9, Odd: odd, Seqs: [channels]int{65530, 0, 7, 65535}}
	for i := range points {
		var p scene.Point
		for signal := range p.Truth {
			// Up and down by 9, each signal from a place of its own.
			p.Truth[signal] = 100*signal - 300 + 9*(i+signal)%18
			for channel := range p.Off {
				p.Off[channel][signal] = (i+5*signal+3*channel)%13 - 6
			}
		}
		if odd >= 0 {
			_, l := strange(odd, p.Truth)
			p.Slot = l[i%len(l)]
			for signal := range p.Off[odd] {
				p.Off[odd][signal] = 7 + i*(1<<50) // it counts not
			}
		}
		if n == 3 {
			p.Off[3] = all(-7)
		}
		s.Points = append(s.Points, p)
	}
	return s
}

// near is a right scene whose odd channel, if there is one, is never far off.
func near(n, odd, points int) scene.Scene {
	return rows(n, odd, make([]int, points)...)
}

// rows is a right scene whose odd channel is far off of those signals that the points' masks tell, up and down in turn, one more than the bound; of all of them where it sends nothing, which is told by -1.
func rows(n, odd int, masks ...int) scene.Scene {
	s := plain(n, odd, len(masks))
	for i, mask := range masks {
		p := &s.Points[i]
		switch {
		case odd < 0:
			continue
		case mask < 0:
			p.Slot = api.Slot{}
			continue
		}
		values := p.Truth
		for signal := range values {
			values[signal] += (mask >> signal & 1) * (boundOf(s) + 1) * (1 - 2*(i%2))
		}
		p.Slot = slotOf(odd, i, values)
	}
	return s
}

// boundOf is how far the odd channel may be off without being far off.
func boundOf(s scene.Scene) int {
	return s.Config.Mis + s.E + 2*s.Config.Auth + s.Config.Clip
}

// odds are those that a scene of n channels may have.
func odds(n int) []int {
	return []int{-1, 0, 1, 2, 3}[:n+1]
}

// others are the channels that there are, but the odd one.
func others(s scene.Scene) []int {
	var l []int
	for channel := range s.Config.N {
		if channel != s.Odd {
			l = append(l, channel)
		}
	}
	return l
}

// fine are outputs of a right scene of which there is nothing to complain: values of the range, and up to Auth and Clip beyond; all others in, the odd one latched just where it is to be.
func fine(s scene.Scene) []api.Output {
	l := make([]api.Output, len(s.Points))
	for i := range l {
		l[i].Seq = i
		for signal := range signals {
			lo, hi := rangeOf(s, i, signal)
			room := s.Config.Auth + s.Config.Clip
			l[i].Values[signal] = []int{lo, hi, lo - room, hi + room, (lo + hi) / 2, lo - room/2}[(i+signal)%6]
			u := api.Status{Suspect: -1}
			for _, channel := range others(s) {
				u.In |= 1 << channel
			}
			switch {
			case s.Odd >= 0 && rowIn(s, i, signal) >= s.Config.Latch:
				u.Latched = 1 << s.Odd
			case s.Odd >= 0 && i%2 == 0:
				u.In |= 1 << s.Odd
			}
			l[i].Status[signal] = u
		}
	}
	return l
}

// copied is a scene of its own memory.
func copied(s scene.Scene) scene.Scene {
	s.Points = slices.Clone(s.Points)
	for i := range s.Points {
		s.Points[i].Slot.Bytes = slices.Clone(s.Points[i].Slot.Bytes)
	}
	return s
}

// changed is a scene of its own memory, and changed.
func changed(s scene.Scene, change func(s *scene.Scene)) scene.Scene {
	s = copied(s)
	change(&s)
	return s
}

// with are outputs of their own memory, one of which has another status, or value.
func with(l []api.Output, i int, change func(o *api.Output)) []api.Output {
	l = slices.Clone(l)
	change(&l[i])
	return l
}
