package scene

import (
	"slices"

	"rudder/api"
)

// drawer gives numbers from 0 on that hang on seed alone.
func drawer(seed int) func(below int) int {
	state := uint64(seed)*2862933555777941757 + 3037000493
	return func(below int) int {
		state = state*6364136223846793005 + 1442695040888963407
		return int(state>>29) % below
	}
}

// tight is a configuration of n channels that covers an error, and a rate, just so.
func tight(n, e, r int) api.Config {
	c := api.Config{
		N: n, Lo: -1000, Hi: 1000, Safe: 5, Step: r + 2*e, Stuck: 4*e + 20, Window: 4, Drift: 2 * e, Lag: 2, Mis: 2*e + 13, Auth: 3, Gain: 2, Clip: 7,
		Latch: 2, Clean: 3, Budget: 1, Limit: 4,
	}
	for i := range n {
		c.Weights[i] = 1 + i
	}
	return c
}

// all is a value of each signal.
func all(n int) [signals]int { return [signals]int{n, n, n, n, n, n, n, n} }

// slotOf is a slot with a channel's frame.
func slotOf(channel, seq int, values [signals]int) api.Slot {
	return api.Slot{Is: true, Bytes: frameOf(channel, seq, values)}
}

// strange are slots that a channel may send: absent ones, those of wrong bytes in each way, and fine ones; how many of them hold no frame of it comes first.
func strange(channel int, values [signals]int) (int, []api.Slot) {
	fine := frameOf(channel, 77, values)
	changed := func(at int) api.Slot {
		b := slices.Clone(fine)
		b[at] ^= 1
		return api.Slot{Is: true, Bytes: b}
	}
	l := []api.Slot{
		{},
		{Bytes: fine},
		{Bytes: []byte{1, 2, 3}},
		{Is: true},
		{Is: true, Bytes: []byte{}},
		{Is: true, Bytes: fine[:37]},
		{Is: true, Bytes: append(slices.Clone(fine), 0)},
		{Is: true, Bytes: append(slices.Clone(fine), fine...)},
		{Is: true, Bytes: make([]byte, 38)},
		slotOf((channel+1)%4, 77, values),
		slotOf((channel+3)%4, 77, values),
		slotOf(channel+4, 77, values),
		slotOf(channel+128, 77, values),
		changed(0), changed(1), changed(2), changed(19), changed(36), changed(37),
	}
	return len(l), append(l, slotOf(channel, 77, values), slotOf(channel, 77, values), slotOf(channel, 0, values), slotOf(channel, 65535, values))
}

// plain is a right scene of points, with the error 6 and the rate 9, whose truths move, and whose channels are off, as far as may be, too.
func plain(n, odd, points int) Scene {
	s := Scene{Config: tight(n, 6, 9), E: 6, R: 9, Odd: odd, Seqs: [channels]int{65530, 0, 7, 65535}}
	for i := range points {
		var p Point
		for signal := range p.Truth {
			// Up and down by 9, each signal from a place of its own.
			p.Truth[signal] = 100*signal - 300 + 9*(i+signal)%18
			for channel := range p.Off {
				p.Off[channel][signal] = (i+5*signal+3*channel)%13 - 6
			}
		}
		if odd >= 0 {
			_, l := strange(odd, p.Truth)
			p.Slot = l[i%len(l)]
			for signal := range p.Off[odd] {
				p.Off[odd][signal] = 7 + i*(1<<50) // it counts not
			}
		}
		if n == 3 {
			p.Off[3] = all(-7)
		}
		s.Points = append(s.Points, p)
	}
	return s
}

// odds are those that a scene of n channels may have.
func odds(n int) []int {
	return []int{-1, 0, 1, 2, 3}[:n+1]
}

// copied is a scene of its own memory.
func copied(s Scene) Scene {
	s.Points = slices.Clone(s.Points)
	for i := range s.Points {
		s.Points[i].Slot.Bytes = slices.Clone(s.Points[i].Slot.Bytes)
	}
	return s
}

// changed is a scene of its own memory, and changed.
func changed(s Scene, change func(s *Scene)) Scene {
	s = copied(s)
	change(&s)
	return s
}
