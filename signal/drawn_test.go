package signal

import (
	"math"
	"testing"

	"rudder/api"
)

// drawer gives numbers from 0 on that hang on seed alone.
func drawer(seed int) func(below int) int {
	state := uint64(seed)*2862933555777941757 + 3037000493
	return func(below int) int {
		state = state*6364136223846793005 + 1442695040888963407
		return int(state>>31) % below
	}
}

// drawnConfig is one of small numbers, each of which has its part in what comes near to it.
func drawnConfig(draw func(int) int) api.Config {
	c := api.Config{
		N:  3 + draw(2),
		Lo: -20 - draw(20), Hi: 20 + draw(20), Safe: draw(41) - 20,
		Step: 5 + draw(40), Stuck: draw(20), Window: 2 + draw(3), Drift: 5 + draw(25), Lag: draw(4), Mis: 5 + draw(25),
		Auth: draw(12), Gain: draw(4), Clip: draw(15),
		Latch: 1 + draw(4), Clean: 1 + draw(4), Budget: draw(4), Limit: 1 + draw(8),
	}
	for i := range c.N {
		c.Weights[i] = 1 + draw(16)
	}
	return c
}

// drawnRaws are near to a number, to that of the cycle before, outside of the range, or none.
func drawnRaws(draw func(int) int, c api.Config, before [4]Raw, near int) [4]Raw {
	var raws [4]Raw
	for i := range raws {
		switch draw(12) {
		case 0:
			raws[i] = Raw{N: draw(100)}
		case 1:
			raws[i] = Raw{Is: true, N: draw(140) - 70}
		case 2:
			raws[i] = Raw{Is: true, N: []int{c.Lo, c.Hi, c.Lo - 1, c.Hi + 1}[draw(4)]}
		case 3, 4, 5:
			raws[i] = before[i]
		default:
			raws[i] = Raw{Is: true, N: near + draw(7) - 3}
		}
	}
	return raws
}

// drawnShut is most often that none is.
func drawnShut(draw func(int) int) int { return []int{0, 0, 0, 0, 0, 0, 0, draw(16)}[draw(8)] }

// seen counts what cycles told.
type seen map[string]int

func (n seen) add(c api.Config, r Result) {
	for i := range c.N {
		for j, name := range []string{"frame", "range", "spike", "stuck", "drift", "mis"} {
			if has(r.Trips[i], j) {
				n[name]++
				if has(r.Status.In, i) {
					n["in with "+name]++
				}
			}
		}
		n[[]string{"nothing", "latched", "back", "out"}[r.Events[i]]]++
		if r.Events[i] == 1 && has(r.Status.In, i) {
			n["latched, and in"]++
		}
	}
	if r.Status.Fail {
		n["fail"]++
	}
	if r.Status.Suspect >= 0 {
		n["suspect"]++
		if r.Status.In&(1<<r.Status.Suspect-1) != 1<<r.Status.Suspect-1 {
			n["suspect behind one that is not in"]++
		}
	}
}

// often holds that cycles told each of these so often.
func (n seen) often(t *testing.T, least int, names ...string) {
	t.Helper()
	for _, name := range names {
		if n[name] < least {
			t.Errorf("%s: just %d times", name, n[name])
		}
	}
}

// nearThoseIn holds P18.2: the VALUE is in the range, and near the raw values of those that are in; these may be in, and if there is none, it stays.
func nearThoseIn(t testing.TB, c api.Config, raws [4]Raw, shut, latched, value int, r Result) {
	t.Helper()
	if r.Value < c.Lo || r.Value > c.Hi {
		t.Fatalf("of %+v, %v: the value %d", c, raws, r.Value)
	}
	lo, hi := math.MaxInt, math.MinInt
	for i, raw := range raws {
		if !has(r.Status.In, i) {
			continue
		}
		if i >= c.N || !raw.Is || raw.N < c.Lo || raw.N > c.Hi || has(shut, i) || has(latched, i) {
			t.Fatalf("of %+v, %v, shut %d, latched %d: %+v", c, raws, shut, latched, r)
		}
		lo, hi = min(lo, raw.N), max(hi, raw.N)
	}
	if r.Status.Fail != (r.Status.In == 0) {
		t.Fatalf("%+v", r)
	}
	if r.Status.Fail && r.Value != value {
		t.Fatalf("none is in: the value %d, behind %d", r.Value, value)
	}
	if !r.Status.Fail && (r.Value < lo-c.Auth-c.Clip || r.Value > hi+c.Auth+c.Clip) {
		t.Fatalf("of %+v, %v: %+v", c, raws, r)
	}
}

// P18.1, P18.2: drawn cycles of drawn configurations, held against the words.
func TestDrawn(t *testing.T) {
	count := seen{}
	for seed := range 400 {
		draw := drawer(seed)
		c := drawnConfig(draw)
		s, m := both(t, c)
		var raws [4]Raw
		near := 0
		for range 150 {
			near = clamp(near+draw(9)-4, c.Lo-3, c.Hi+3)
			raws = drawnRaws(draw, c, raws, near)
			shut, latched, value := drawnShut(draw), s.Latched(), s.Value()
			r := steps(t, s, m, raws, shut)
			nearThoseIn(t, c, raws, shut, latched, value, r)
			count.add(c, r)
		}
	}
	count.often(t, 100, "frame", "range", "spike", "stuck", "drift", "mis", "in with stuck", "in with drift", "in with mis", "latched", "back", "out", "latched, and in", "fail", "suspect")
	count.often(t, 40, "suspect behind one that is not in")
	for _, name := range []string{"in with frame", "in with range", "in with spike"} {
		if count[name] > 0 {
			t.Errorf("%s: %d times", name, count[name])
		}
	}
}

// farNumber is a number from 0 to 2^31 less 1, of any size.
func farNumber(draw func(int) int) int { return draw(1<<31) >> draw(32) }

// P18.1, P18.2: drawn cycles with numbers of any size, at the ends of what may be, too.
func TestDrawnFar(t *testing.T) {
	count := seen{}
	for seed := range 300 {
		draw := drawer(1000 + seed)
		c := drawnConfig(draw)
		c.Lo, c.Hi = -farNumber(draw)-draw(2), farNumber(draw)
		c.Safe = clamp(c.Safe, c.Lo, c.Hi)
		c.Window, c.Lag, c.Gain = 2+draw(15), draw(9), draw(9)
		for _, field := range []*int{&c.Step, &c.Stuck, &c.Drift, &c.Mis, &c.Auth, &c.Clip} {
			*field = farNumber(draw)
		}
		s, m := both(t, c)
		var raws [4]Raw
		for range 100 {
			for i := range raws {
				switch draw(8) {
				case 0:
					raws[i] = Raw{}
				case 1:
					raws[i] = at([]int{least, least + 1, most, most - 1, c.Lo, c.Hi, 0, -1}[draw(8)])[0]
				case 2, 3:
				default:
					raws[i] = at((farNumber(draw) - draw(2)) * (1 - 2*draw(2)))[0]
				}
			}
			shut, latched, value := drawnShut(draw), s.Latched(), s.Value()
			r := steps(t, s, m, raws, shut)
			nearThoseIn(t, c, raws, shut, latched, value, r)
			count.add(c, r)
		}
	}
	count.often(t, 50, "frame", "range", "spike", "drift", "mis", "in with drift", "in with mis", "latched", "out", "fail")
}

// P18.1: all pairs of cycles out of a few raw values, and none, of each channel.
func TestGrid(t *testing.T) {
	for n, numbers := range map[int][]int{3: {gone, -9, 0, 4, 21}, 4: {gone, 0, 9, 21}} {
		c := api.Config{N: n, Lo: -20, Hi: 20, Safe: 3, Step: 10, Stuck: 0, Window: 2, Drift: 5, Lag: 1, Mis: 6, Auth: 2, Gain: 1, Clip: 3, Latch: 2, Clean: 1, Budget: 1, Limit: 1, Weights: [4]int{1, 2, 3, 0}}
		if n == 4 {
			c.Weights[3] = 1
		}
		all := rows(n, numbers)
		for i, first := range all {
			for j, second := range all {
				s, m := both(t, c)
				steps(t, s, m, first, 0)
				steps(t, s, m, second, 0)
				if (i+j)%5 == 0 {
					steps(t, s, m, first, 1<<(j%4))
				}
			}
		}
	}
}

// rows are all raw values of n channels out of some numbers.
func rows(n int, numbers []int) [][4]Raw {
	out := [][4]Raw{{}}
	for i := range n {
		var longer [][4]Raw
		for _, row := range out {
			for _, x := range numbers {
				row[i] = at(x)[0]
				longer = append(longer, row)
			}
		}
		out = longer
	}
	return out
}

// P18.1: a cycle with an error changes nothing that a later call tells.
func TestErrorsChangeNothing(t *testing.T) {
	for seed := range 100 {
		draw := drawer(2000 + seed)
		c := drawnConfig(draw)
		s, m := both(t, c)
		var raws [4]Raw
		for range 60 {
			wrong, shut := drawnRaws(draw, c, raws, 0), draw(16)
			if draw(3) == 0 {
				shut = []int{-1, 16, math.MinInt, math.MaxInt}[draw(4)]
			} else {
				wrong[draw(c.N)] = at([]int{least - 1, most + 1, math.MaxInt, math.MinInt + 1}[draw(4)])[0]
			}
			if r, e := s.Step(wrong, shut); r != (Result{}) || e != api.ErrArg {
				t.Fatalf("Step(%v, %d) = %+v, %d", wrong, shut, r, e)
			}
			stands(t, s, m)
			raws = drawnRaws(draw, c, raws, draw(9))
			steps(t, s, m, raws, drawnShut(draw))
		}
	}
}

// P1, P2: signals are apart from each other, and tell the same again of the same cycles.
func TestApart(t *testing.T) {
	for seed := range 50 {
		draw := drawer(3000 + seed)
		one, other := drawnConfig(draw), drawnConfig(draw)
		if seed%2 == 0 {
			other = one
		}
		a, ofA := both(t, one)
		b, ofB := both(t, other)
		var again []Result
		var taken [][4]Raw
		var raws [4]Raw
		for range 60 {
			raws = drawnRaws(draw, one, raws, draw(9))
			taken = append(taken, raws)
			again = append(again, steps(t, a, ofA, raws, 0))
			for range draw(3) {
				steps(t, b, ofB, drawnRaws(draw, other, raws, -9), draw(16))
			}
			stands(t, a, ofA)
			stands(t, b, ofB)
		}
		s := made(t, one)
		for i, raws := range taken {
			if r, e := s.Step(raws, 0); r != again[i] || e != api.OK {
				t.Fatalf("again, cycle %d: %+v, %d, not %+v", i, r, e, again[i])
			}
		}
	}
}

// P2: what is told hangs on no channel that there is not, neither on its raw value nor on whether it is shut.
func TestOthersCountNot(t *testing.T) {
	for seed := range 50 {
		draw := drawer(4000 + seed)
		c := drawnConfig(draw)
		c.N, c.Weights[3] = 3, 0
		a, b := made(t, c), made(t, c)
		var raws [4]Raw
		for i := range 60 {
			raws = drawnRaws(draw, c, raws, draw(9))
			shut := draw(8)
			got, e := a.Step(raws, shut)
			raws[3] = at([]int{gone, 0, most + 1, math.MinInt + 1, math.MaxInt}[draw(5)])[0]
			other, fault := b.Step(raws, shut+8*draw(2))
			if got != other || e != api.OK || fault != api.OK {
				t.Fatalf("cycle %d: %+v, %d, but %+v, %d", i, got, e, other, fault)
			}
		}
	}
}
