package fusion

import (
	"slices"
	"testing"

	"rudder/api"
	"rudder/config"
	"rudder/latch"
)

// truths are one of each signal, each of which moves by a rate at most, between bounds.
type truths struct {
	draw      func(int) int
	lo, hi, r int
	ways, at  [signals]int
}

// next are the next ones: each goes up, or down, by the rate, stays, swings by a little, or is drawn.
func (x *truths) next() [signals]int {
	for i := range x.at {
		if x.draw(30) == 0 {
			x.ways[i] = x.draw(5)
		}
		switch x.ways[i] {
		case 0:
			x.at[i] += x.r
		case 1:
			x.at[i] -= x.r
		case 2:
			x.at[i] += x.draw(2*min(x.r, 10)+1) - min(x.r, 10)
		case 3:
			x.at[i] += x.draw(2*x.r+1) - x.r
		}
		x.at[i] = min(max(x.at[i], x.lo), x.hi)
	}
	return x.at
}

// healthy are values that are at most e from the truths: at one end, at the other one, at both in turn, anything, or what was told before, as long as it may.
func healthy(draw func(int) int, e int, truths, before [signals]int, ways *[signals]int) [signals]int {
	l := truths
	for i, n := range truths {
		if draw(40) == 0 {
			ways[i] = draw(6)
		}
		switch ways[i] {
		case 0:
			l[i] += e
		case 1:
			l[i] -= e
		case 2:
			l[i] += e * (1 - 2*draw(2))
		case 3:
			l[i] += draw(2*e+1) - e
		case 4:
			l[i] = min(max(before[i], n-e), n+e)
		}
	}
	return l
}

// odd is a channel that sends anything.
type odd struct {
	sender
	way    int
	values [signals]int // those that it sent
}

// send is its slot: of values that stand, go away, jump, or are near some of the truths, in a frame; or what is none.
func (x *odd) send(draw func(int) int, truths [signals]int, others api.Cycle) api.Slot {
	if draw(10) == 0 {
		x.way = draw(8)
	}
	for i, n := range truths {
		switch x.way {
		case 0: // it stands
		case 1:
			x.values[i] = n
		case 2:
			x.values[i] = min(x.values[i]+draw(50), most)
		case 3:
			x.values[i] = []int{least, most, 0, n}[draw(4)]
		default:
			x.values[i] = min(max(n+(draw(most)>>draw(31))*(1-2*draw(2)), least), most)
		}
	}
	switch x.way {
	case 5:
		return api.Slot{}
	case 6:
		return api.Slot{Is: true, Bytes: drawnBytes(draw, x.channel, draw(turn))}
	case 7:
		return others[draw(4)] // another one's frame, or its own of the cycle before
	}
	if draw(20) == 0 {
		x.seq = draw(turn)
	}
	x.seq = (x.seq + 1) % turn
	return slotOf(x.channel, x.seq, x.values)
}

// flight is a fusion whose channels but the odd one are healthy.
type flight struct {
	c    api.Config
	e, r int
	odd  int // -1: none
}

// bounded holds P20.3 of a cycle, in which each channel but the odd one sent these values.
func (x flight) bounded(t testing.TB, f *Fusion, cycles int, sent [channels][signals]int, truths [signals]int, o api.Output) {
	t.Helper()
	for channel := range x.c.N {
		if channel == x.odd {
			continue
		}
		if f.Latched(channel) != 0 || f.Shut()>>channel&1 == 1 || f.Rejects(channel) != [7]int{cycles} {
			t.Fatalf("of %+v, cycle %d, channel %d: latched %d, shut %d, %v", x, o.Seq, channel, f.Latched(channel), f.Shut(), f.Rejects(channel))
		}
		for i, s := range o.Status {
			if state, ok := f.State(channel, i); !ok || state != (latch.State{}) || s.In>>channel&1 == 0 || s.Latched>>channel&1 == 1 || s.Fail {
				t.Fatalf("of %+v, cycle %d, channel %d, signal %d: %+v, %+v", x, o.Seq, channel, i, s, state)
			}
		}
	}
	for i, n := range o.Values {
		lo, hi := most, least
		for channel := range x.c.N {
			if channel != x.odd {
				lo, hi = min(lo, sent[channel][i]), max(hi, sent[channel][i])
			}
		}
		if hi > truths[i]+x.e || lo < truths[i]-x.e {
			t.Fatalf("the test's own: %v of %v", sent, truths)
		}
		if n < lo-x.c.Auth-x.c.Clip || n > hi+x.c.Auth+x.c.Clip || n < x.c.Lo || n > x.c.Hi {
			t.Fatalf("of %+v, cycle %d, signal %d: %d, of %d to %d", x, o.Seq, i, n, lo, hi)
		}
	}
	for _, n := range f.Notes() {
		if n.Channel != x.odd {
			t.Fatalf("of %+v, cycle %d: %+v", x, o.Seq, n)
		}
	}
}

// flies holds P20.3 of many cycles, and answers how often a signal of the odd one was missing, or far off, for so long that it is to be latched.
func (x flight) flies(t testing.TB, draw func(int) int, cycles int) int {
	t.Helper()
	if !config.Covers(x.c, x.e, x.r) {
		t.Fatalf("the test's own: %+v", x)
	}
	f, e := New(x.c)
	if e != 0 {
		t.Fatalf("New(%+v): %d", x.c, e)
	}
	lo, hi := x.c.Lo+x.e, x.c.Hi-x.e
	own := &truths{draw: draw, lo: lo, hi: hi, r: x.r, at: all(min(max(x.c.Safe, lo), hi))}
	strange := &odd{sender: sender{channel: x.odd, seq: draw(turn)}}
	var ways [channels][signals]int
	var sent [channels][signals]int
	var c api.Cycle
	var before track
	var rows [signals]int
	first, found := [4]int{draw(turn), draw(turn), draw(turn), draw(turn)}, 0
	for i := range cycles {
		now := own.next()
		for channel := range sent {
			if channel == x.odd {
				continue
			}
			sent[channel] = healthy(draw, x.e, now, sent[channel], &ways[channel])
			c[channel] = slotOf(channel, (first[channel]+i)%turn, sent[channel])
		}
		if x.odd >= 0 {
			c[x.odd] = strange.send(draw, now, c)
		}
		o, b, e := f.Step(c)
		if e != 0 {
			t.Fatalf("Step(%v): %d", c, e)
		}
		told(t, x.c, o, b)
		x.bounded(t, f, i+1, sent, now, o)
		if x.odd < 0 {
			continue
		}
		values, ok := before.take(x.odd, c[x.odd])
		for at, n := range values {
			rows[at]++
			if ok && max(n-now[at], now[at]-n) <= x.c.Mis+x.e+2*x.c.Auth+x.c.Clip {
				rows[at] = 0
			}
		}
		found += x.found(t, f, rows, o)
	}
	return found
}

// found holds that the odd one is latched of those signals of which it was missing, or far off, for so long, and shut by these; it answers how many they are.
func (x flight) found(t testing.TB, f *Fusion, rows [signals]int, o api.Output) int {
	t.Helper()
	n := 0
	for i, row := range rows {
		if row < x.c.Latch {
			continue
		}
		n++
		if state, _ := f.State(x.odd, i); !state.Latched || f.Latched(x.odd)>>i&1 == 0 || o.Status[i].Latched != 1<<x.odd {
			t.Fatalf("of %+v, cycle %d, signal %d, %d in a row: %+v, %+v", x, o.Seq, i, row, o.Status[i], state)
		}
	}
	if n >= x.c.Limit && f.Shut() != 1<<x.odd {
		t.Fatalf("of %+v, cycle %d, %v: shut %d", x, o.Seq, rows, f.Shut())
	}
	return n
}

// P20.3: the default configurations, with the error and the rate that they cover.
func TestDefault(t *testing.T) {
	for n := 3; n <= 4; n++ {
		c, e := config.Default(n)
		if e != 0 {
			t.Fatalf("Default(%d): %d", n, e)
		}
		for odd := -1; odd < n; odd++ {
			found := 0
			for seed := range 4 {
				found += flight{c: c, e: 75, r: 250, odd: odd}.flies(t, drawer(5000+100*n+10*odd+seed), 400)
			}
			if odd >= 0 && found < 500 {
				t.Errorf("of %d channels, %d odd: far off just %d times", n, odd, found)
			}
		}
	}
}

// tight is a configuration that covers an error and a rate just so.
func tight(draw func(int) int, e, r int) api.Config {
	c := drawnConfig(draw)
	c.Auth, c.Clip = draw(30), draw(30)
	c.Mis, c.Step, c.Drift, c.Stuck = 2*e+2*c.Auth+c.Clip, r+2*e, 2*e, 4*e+2*c.Auth+2*c.Clip
	c.Lo, c.Hi = -e-draw(600), e+draw(600)
	c.Safe = c.Lo + draw(c.Hi-c.Lo+1)
	return c
}

// P20.3: drawn configurations that cover drawn errors, and rates, just so.
func TestTight(t *testing.T) {
	found := 0
	for seed := range 120 {
		draw := drawer(7000 + seed)
		e, r := draw(60), draw(120)
		if seed%5 == 0 {
			e = draw(2)
		}
		c := tight(draw, e, r)
		found += flight{c: c, e: e, r: r, odd: draw(c.N+1) - 1}.flies(t, draw, 100)
	}
	if found < 1000 {
		t.Errorf("far off just %d times", found)
	}
}

// P20.3: an odd one that sends no frame is latched of all signals behind Latch cycles, and shut, and nobody else is; it is so whichever way it sends none.
func TestNoFrames(t *testing.T) {
	for n := 3; n <= 4; n++ {
		c, _ := config.Default(n)
		for odd := range n {
			for kind, slot := range []api.Slot{{}, {Is: true}, {Is: true, Bytes: make([]byte, 38)}, slotOf((odd+1)%4, 5, all(0)), {Is: true, Bytes: slices.Concat(frameOf(odd, 0, all(0))[:37], []byte{0})}, slotOf(odd, 9, all(0))} {
				f, e := New(c)
				if e != 0 {
					t.Fatal(e)
				}
				for i := range 8 {
					sent := cycleOf(i, all(i), all(i+1), all(i+2), all(i+3))
					sent[odd] = slot
					o, _, _ := f.Step(sent)
					in, latched := 1<<n-1, 0
					// The last slot's frame is fine once, and then stale.
					count := i + 1
					if kind == 5 {
						count--
					}
					if count > 0 {
						in -= 1 << odd
					}
					if count >= 3 {
						latched = 1 << odd
					}
					if inOf(o) != all(in) || latchedOf(o) != all(latched) || f.Shut() != latched || f.Latched(odd) != latched>>odd*255 {
						t.Fatalf("of %d, odd %d, slot %d, cycle %d: %+v, shut %d", n, odd, kind, i, o, f.Shut())
					}
				}
			}
		}
	}
}

// P20.3: the greatest error, and rate, that a configuration can cover.
func TestGreatest(t *testing.T) {
	for n := 3; n <= 4; n++ {
		c := open(n)
		c.Lo, c.Hi, c.Safe = least, most, 0
		c.Step, c.Stuck, c.Drift, c.Mis, c.Auth, c.Clip = most, most, most, most, 0, 0
		e := config.Most(c, 1<<20)
		if e < 1<<28 {
			t.Fatalf("Most: %d", e)
		}
		for odd := -1; odd < n; odd++ {
			flight{c: c, e: e, r: 1 << 20, odd: odd}.flies(t, drawer(9000+10*n+odd), 150)
		}
	}
}
