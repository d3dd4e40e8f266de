package signal

import (
	"slices"
	"testing"

	"rudder/api"
	"rudder/config"
	"rudder/latch"
)

// truths move by a rate at most, between bounds.
type truths struct {
	draw      func(int) int
	lo, hi, r int
	way       int
	at        int
}

// next is the next truth: it goes up, or down, by the rate, stays, swings by a little, or is drawn.
func (x *truths) next() int {
	if x.draw(30) == 0 {
		x.way = x.draw(5)
	}
	switch x.way {
	case 0:
		x.at += x.r
	case 1:
		x.at -= x.r
	case 2:
		x.at += x.draw(2*min(x.r, 10)+1) - min(x.r, 10)
	case 3:
		x.at += x.draw(2*x.r+1) - x.r
	}
	x.at = clamp(x.at, x.lo, x.hi)
	return x.at
}

// healthy tells what is at most e from a truth: at one end, at the other one, at both in turn, anything, or what it told before, as long as it may.
type healthy struct {
	draw   func(int) int
	e      int
	way    int
	before int
}

func (h *healthy) tell(truth int) int {
	if h.draw(40) == 0 {
		h.way = h.draw(6)
	}
	n := truth
	switch h.way {
	case 0:
		n += h.e
	case 1:
		n -= h.e
	case 2:
		n += h.e * (1 - 2*h.draw(2))
	case 3:
		n += h.draw(2*h.e+1) - h.e
	case 4:
		n = clamp(h.before, truth-h.e, truth+h.e)
	}
	h.before = n
	return n
}

// oddOne tells anything, nothing, what is near, or what it told before.
func oddOne(draw func(int) int, way, truth int, before Raw) Raw {
	switch way {
	case 0:
		return Raw{}
	case 1:
		return at(truth + draw(9) - 4)[0]
	case 2:
		return before
	case 3:
		return at([]int{least, most, 0, -1}[draw(4)])[0]
	case 4:
		return at(clamp(truth+(1-2*draw(2))*farNumber(draw), least, most))[0]
	case 5:
		return at(clamp(truth+(1-2*draw(2))*draw(1200), least, most))[0]
	}
	return oddOne(draw, draw(6), truth, before)
}

// flight is a signal whose channels but the odd one are healthy.
type flight struct {
	c    api.Config
	e, r int
	odd  int // -1: none
}

// enough is how far from the truth the odd one may be without being far off.
func (f flight) enough() int { return f.c.Mis + f.e + 2*f.c.Auth + f.c.Clip }

// bounded holds P18.3: what is told of a cycle, in which the channels but the odd one told what is near the truth.
func (f flight) bounded(t testing.TB, s *Signal, raws [4]Raw, truth int, r Result) {
	t.Helper()
	lo, hi := most, least
	for i := range f.c.N {
		if i == f.odd {
			continue
		}
		if !raws[i].Is || far(raws[i].N, truth) > f.e {
			t.Fatalf("the test's own: %v of %d", raws, truth)
		}
		lo, hi = min(lo, raws[i].N), max(hi, raws[i].N)
		state, ok := s.State(i)
		if r.Trips[i] != 0 || r.Events[i] != 0 || has(r.Status.Latched, i) || !has(r.Status.In, i) || has(s.Latched(), i) || !ok || state != (latch.State{}) {
			t.Fatalf("of %+v, truth %d, %v: channel %d: %+v, %v", f, truth, raws, i, r, state)
		}
	}
	if r.Value < lo-f.c.Auth-f.c.Clip || r.Value > hi+f.c.Auth+f.c.Clip || r.Value < f.c.Lo || r.Value > f.c.Hi {
		t.Fatalf("of %+v, truth %d, %v: %+v", f, truth, raws, r)
	}
}

// flies holds P18.3 and P18.4 of many cycles, and answers how often the odd one was far off for so long.
func (f flight) flies(t testing.TB, draw func(int) int, cycles int) int {
	t.Helper()
	if !config.Covers(f.c, f.e, f.r) {
		t.Fatalf("the test's own: %+v", f)
	}
	s, m := both(t, f.c)
	truth := &truths{draw: draw, lo: f.c.Lo + f.e, hi: f.c.Hi - f.e, r: f.r, way: draw(5), at: clamp(f.c.Safe, f.c.Lo+f.e, f.c.Hi-f.e)}
	var others [4]healthy
	for i := range others {
		others[i] = healthy{draw: draw, e: f.e, way: draw(6)}
	}
	var raws [4]Raw
	row, found, way := 0, 0, 6
	for range cycles {
		now := truth.next()
		if draw(12) == 0 {
			way = draw(7)
		}
		shut := 0
		for i := range f.c.N {
			if i == f.odd {
				raws[i], shut = oddOne(draw, way, now, raws[i]), draw(8)/7<<i
				continue
			}
			raws[i] = at(others[i].tell(now))[0]
		}
		r := steps(t, s, m, raws, shut)
		f.bounded(t, s, raws, now, r)
		if f.odd < 0 {
			continue
		}
		row++
		if raws[f.odd].Is && far(raws[f.odd].N, now) <= f.enough() {
			row = 0
		}
		if row >= f.c.Latch {
			found++
			if state, _ := s.State(f.odd); !has(r.Status.Latched, f.odd) || !state.Latched {
				t.Fatalf("of %+v, truth %d, %v, %d in a row: %+v", f, now, raws, row, r)
			}
		}
	}
	return found
}

// P18.3, P18.4: the default configurations, with the error and the rate that they cover.
func TestDefault(t *testing.T) {
	for n := 3; n <= 4; n++ {
		c, e := config.Default(n)
		if e != api.OK {
			t.Fatalf("Default(%d): %d", n, e)
		}
		for odd := -1; odd < n; odd++ {
			found := 0
			for seed := range 8 {
				found += flight{c: c, e: 75, r: 250, odd: odd}.flies(t, drawer(5000+100*n+10*odd+seed), 1500)
			}
			if odd >= 0 && found < 50 {
				t.Errorf("of %d channels, %d odd: far off just %d times", n, odd, found)
			}
		}
	}
}

// P18.3: near the ends of the range, which truths are in by the error, the default configuration's VALUE, and who is in, are bounded, too.
func TestDefaultAtEnds(t *testing.T) {
	for n := 3; n <= 4; n++ {
		for seed := range 10 {
			c, _ := config.Default(n)
			c.Hi, c.Safe = c.Lo+150+seed*40, c.Lo
			flight{c: c, e: 75, r: 250, odd: seed%(n+1) - 1}.flies(t, drawer(6000+100*n+seed), 400)
		}
	}
}

// tight is a configuration that covers an error and a rate just so.
func tight(draw func(int) int, e, r int) api.Config {
	c := drawnConfig(draw)
	c.Auth, c.Clip = draw(30), draw(30)
	c.Mis, c.Step, c.Drift, c.Stuck = 2*e+2*c.Auth+c.Clip, r+2*e, 2*e, 4*e+2*c.Auth+2*c.Clip
	c.Lo, c.Hi = -e-draw(600), e+draw(600)
	c.Safe = clamp(c.Safe, c.Lo, c.Hi)
	return c
}

// P18.3, P18.4: drawn configurations that cover an error, and a rate, just so.
func TestTight(t *testing.T) {
	found := 0
	for seed := range 600 {
		draw := drawer(7000 + seed)
		e, r := draw(50)*draw(2), draw(100)*draw(2)
		c := tight(draw, e, r)
		if config.Covers(c, e+1, r) || config.Covers(c, e, r+1) {
			t.Fatalf("the test's own: %+v", c)
		}
		found += flight{c: c, e: e, r: r, odd: draw(c.N+1) - 1}.flies(t, draw, 120)
	}
	if found < 1000 {
		t.Errorf("far off just %d times", found)
	}
}

// P18.3: a healthy channel that stays, while truth and votes move as far as they may, is not frozen.
func TestStaysWhileTruthSwings(t *testing.T) {
	for n := 3; n <= 4; n++ {
		for odd := -1; odd < n; odd++ {
			c := with(n, func(c *api.Config) {
				c.Auth, c.Gain, c.Clip, c.Window = 3, 0, 5, 4
				c.Mis, c.Step, c.Drift, c.Stuck = 2*10+2*3+5, 20+2*10, 2*10, 4*10+2*3+2*5
			})
			f := flight{c: c, e: 10, r: 20, odd: odd}
			s, m := both(t, c)
			for i := range 200 {
				// The truth is 10, and -10, while the channel at stays tells 0.
				truth, stays := 10-20*(i/3%2), i/60%n
				raws := at(2*truth, 2*truth, 2*truth, 2*truth)
				raws[stays].N = 0
				if odd >= 0 {
					raws[odd] = at(truth * 9)[0]
				}
				f.bounded(t, s, raws, truth, steps(t, s, m, raws, 0))
			}
		}
	}
}

// event is what happened to a channel's latch, and in which cycle.
type event struct{ cycle, what int }

// told are all events of the odd channel, in a default configuration whose other channels tell a truth that goes up by 3 a cycle.
func told(t *testing.T, n, odd, cycles int, tell func(i, truth int) Raw) []event {
	t.Helper()
	c, _ := config.Default(n)
	f := flight{c: c, e: 75, r: 250, odd: odd}
	s, m := both(t, c)
	var out []event
	for i := range cycles {
		raws := at(3*i, 3*i, 3*i, 3*i)
		raws[odd] = tell(i, 3*i)
		r := steps(t, s, m, raws, 0)
		f.bounded(t, s, raws, 3*i, r)
		if r.Events[odd] != 0 {
			out = append(out, event{i, r.Events[odd]})
		}
		if state, _ := s.State(odd); state.Latched != has(s.Latched(), odd) {
			t.Fatalf("cycle %d: %v, %d", i, state, s.Latched())
		}
	}
	return out
}

// P18.4: behind Latch (3) cycles in a row it is latched, in just that one; it comes back behind Clean (10) clean ones, Budget (2) times, and is out then.
func TestFoundOut(t *testing.T) {
	for n := 3; n <= 4; n++ {
		for odd := range n {
			for _, x := range []struct {
				name string
				tell func(i, truth int) Raw
				want []event
			}{
				{"healthy", func(i, truth int) Raw { return at(truth)[0] }, nil},
				{"none in 50, 51, 52", func(i, truth int) Raw {
					return Raw{Is: i < 50 || i > 52, N: truth}
				}, []event{{52, 1}, {62, 2}}},
				{"none in 50, 51 and 53, 54", func(i, truth int) Raw {
					return Raw{Is: i < 50 || i > 54 || i == 52, N: truth}
				}, nil},
				{"none in three, thrice", func(i, truth int) Raw {
					return Raw{Is: i < 50 || (i-50)%13 > 2 || i > 78, N: truth}
				}, []event{{52, 1}, {62, 2}, {65, 1}, {75, 2}, {78, 3}}},
				{"none in three, then in one of each ten, and clean at last", func(i, truth int) Raw {
					return Raw{Is: i < 50 || i > 52 && (i-52)%10 > 0 || i > 140, N: truth}
				}, []event{{52, 1}, {142, 2}}},
				{"none from the first cycle on", func(i, truth int) Raw { return Raw{} }, []event{{2, 1}}},
				// It comes as a spike, is far off, and goes as a spike.
				{"far above in 50, 51, 52", func(i, truth int) Raw {
					if i < 50 || i > 52 {
						return at(truth)[0]
					}
					return at(truth + 516)[0]
				}, []event{{52, 1}, {63, 2}}},
				{"far below in 50, 51, 52", func(i, truth int) Raw {
					if i < 50 || i > 52 {
						return at(truth)[0]
					}
					return at(truth - 516)[0]
				}, []event{{52, 1}, {63, 2}}},
				// Far off in two cycles, and gone as a spike, it has tripped three times; far off in one alone, twice.
				{"far above in 50, 51", func(i, truth int) Raw {
					if i < 50 || i > 51 {
						return at(truth)[0]
					}
					return at(truth + 516)[0]
				}, []event{{52, 1}, {62, 2}}},
				{"far above in 50", func(i, truth int) Raw {
					if i != 50 {
						return at(truth)[0]
					}
					return at(truth + 516)[0]
				}, nil},
				{"far above for good", func(i, truth int) Raw {
					if i < 50 {
						return at(truth)[0]
					}
					return at(truth + 516)[0]
				}, []event{{52, 1}}},
				// What it told stays in its filter: the level is at most Drift (150) from 0 from cycle 164 on.
				{"out of range in 50, 51, 52, and none in 53", func(i, truth int) Raw {
					if i < 50 || i > 53 {
						return at(truth)[0]
					}
					return Raw{Is: i < 53, N: -1000001}
				}, []event{{52, 1}, {173, 2}}},
			} {
				if got := told(t, n, odd, 300, x.tell); !slices.Equal(got, x.want) {
					t.Errorf("of %d channels, %d odd, %s: %v, not %v", n, odd, x.name, got, x.want)
				}
			}
		}
	}
}

// P18.4: any mix of what is far off, of no value, and of values out of range counts, in a row, behind any cycles ahead.
func TestFarOffInARow(t *testing.T) {
	for n := 3; n <= 4; n++ {
		c, _ := config.Default(n)
		for seed := range 300 {
			draw := drawer(8000 + seed)
			c.Latch = 1 + draw(6)
			f := flight{c: c, e: 75, r: 250, odd: draw(n)}
			s, m := both(t, c)
			truth, before := 0, Raw{}
			ahead := draw(40)
			for i := range ahead + c.Latch {
				truth += draw(501) - 250
				var raws [4]Raw
				for j := range n {
					raws[j] = at(truth + 75 - 150*draw(2))[0]
				}
				before = oddOne(draw, 6, truth, before)
				if i >= ahead {
					before = []Raw{{}, at(truth + 516)[0], at(truth - 516)[0], at(least)[0], at(most)[0], at(truth + 516 + draw(1000000))[0], at(truth - 516 - draw(1000000))[0]}[draw(7)]
				}
				raws[f.odd] = before
				f.bounded(t, s, raws, truth, steps(t, s, m, raws, 0))
			}
			if state, ok := s.State(f.odd); !ok || !state.Latched || s.Latched() != 1<<f.odd {
				t.Fatalf("of %d channels, seed %d: %v, %d", n, seed, state, s.Latched())
			}
		}
	}
}
