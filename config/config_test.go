package config

import (
	"math"
	"math/big"
	"testing"

	"rudder/api"
)

// The signatures that other layers call.
var (
	_ func(c api.Config) string           = Fault
	_ func(c api.Config) bool             = Right
	_ func(n int) (api.Config, api.Errno) = Default
	_ func(c api.Config, e, r int) bool   = Covers
	_ func(c api.Config, r int) int       = Most
)

const (
	far   = 1 << 30
	least = -1 << 31
	most  = 1<<31 - 1
)

// place is a number of a configuration: the name of its field, where it is, and from what to what it may be, whatever the others are.
type place struct {
	name  string
	at    func(c *api.Config) *int
	least int
	most  int
}

// plain are the fields of one number, in order.
func plain() []place {
	return []place{
		{"N", func(c *api.Config) *int { return &c.N }, 3, 4},
		{"Lo", func(c *api.Config) *int { return &c.Lo }, least, most},
		{"Hi", func(c *api.Config) *int { return &c.Hi }, least, most},
		{"Safe", func(c *api.Config) *int { return &c.Safe }, least, most},
		{"Step", func(c *api.Config) *int { return &c.Step }, 0, most},
		{"Stuck", func(c *api.Config) *int { return &c.Stuck }, 0, most},
		{"Window", func(c *api.Config) *int { return &c.Window }, 2, 16},
		{"Drift", func(c *api.Config) *int { return &c.Drift }, 0, most},
		{"Lag", func(c *api.Config) *int { return &c.Lag }, 0, 8},
		{"Mis", func(c *api.Config) *int { return &c.Mis }, 0, most},
		{"Auth", func(c *api.Config) *int { return &c.Auth }, 0, most},
		{"Gain", func(c *api.Config) *int { return &c.Gain }, 0, 8},
		{"Clip", func(c *api.Config) *int { return &c.Clip }, 0, most},
		{"Latch", func(c *api.Config) *int { return &c.Latch }, 1, 100},
		{"Clean", func(c *api.Config) *int { return &c.Clean }, 1, 1000},
		{"Budget", func(c *api.Config) *int { return &c.Budget }, 0, 10},
		{"Limit", func(c *api.Config) *int { return &c.Limit }, 1, 8},
	}
}

// places are all numbers of a configuration of n channels, in order.
func places(n int) []place {
	all := plain()
	for i := range 4 {
		p := place{"Weights", func(c *api.Config) *int { return &c.Weights[i] }, 1, 16}
		if i >= n {
			p.least, p.most = 0, 0
		}
		all = append(all, p)
	}
	return all
}

// ordinary is the default configuration, written out.
func ordinary(n int) api.Config {
	c := api.Config{
		N: n, Lo: -1000000, Hi: 1000000, Safe: 0, Step: 400, Stuck: 600, Window: 8, Drift: 150, Lag: 4, Mis: 300, Auth: 40, Gain: 5, Clip: 60,
		Latch: 3, Clean: 10, Budget: 2, Limit: 4, Weights: [4]int{1, 1, 1, 1},
	}
	if n == 3 {
		c.Weights[3] = 0
	}
	return c
}

// roomy has the greatest rooms that there may be for an error, and a rate.
func roomy(n int) api.Config {
	c := ordinary(n)
	c.Lo, c.Hi, c.Step, c.Stuck, c.Drift, c.Mis, c.Auth, c.Clip = least, most, most, most, most, most, 0, 0
	return c
}

// fault holds what is told of a configuration against the name of its fault, or "".
func fault(t testing.TB, c api.Config, want string) {
	t.Helper()
	if got := Fault(c); got != want {
		t.Errorf("Fault(%v) = %q, not %q", c, got, want)
	}
	if got := Right(c); got != (want == "") {
		t.Errorf("Right(%v) = %t", c, got)
	}
	if want == "" {
		return
	}
	for _, e := range []int{-1, 0, 1, 75, far} {
		for _, r := range []int{-1, 0, 250, far} {
			if Covers(c, e, r) {
				t.Errorf("%v has the fault %s, but covers %d, %d", c, want, e, r)
			}
		}
	}
	for _, r := range []int{math.MinInt, -1, 0, 250, far, math.MaxInt} {
		if got := Most(c, r); got != -1 {
			t.Errorf("%v has the fault %s, but Most(%d) is %d", c, want, r, got)
		}
	}
}

func covers(t testing.TB, c api.Config, e, r int, want bool) {
	t.Helper()
	if got := Covers(c, e, r); got != want {
		t.Errorf("Covers(%v, %d, %d) = %t", c, e, r, got)
	}
}

// greatest holds Most of a rate against what is wanted, and against what is covered.
func greatest(t testing.TB, c api.Config, r, want int) {
	t.Helper()
	if got := Most(c, r); got != want {
		t.Errorf("Most(%v, %d) = %d, not %d", c, r, got, want)
	}
	covers(t, c, want, r, want >= 0)
	covers(t, c, want+1, r, false)
}

// faultOf is the fault by the document's words, field by field.
func faultOf(c api.Config) string {
	switch {
	case c.N != 3 && c.N != 4:
		return "N"
	case c.Lo < -2147483648 || c.Lo > 2147483647:
		return "Lo"
	case c.Hi < -2147483648 || c.Hi > 2147483647 || c.Lo > c.Hi:
		return "Hi"
	case c.Safe < -2147483648 || c.Safe > 2147483647 || c.Safe < c.Lo || c.Safe > c.Hi:
		return "Safe"
	case c.Step < 0 || c.Step > 2147483647:
		return "Step"
	case c.Stuck < 0 || c.Stuck > 2147483647:
		return "Stuck"
	case c.Window < 2 || c.Window > 16:
		return "Window"
	case c.Drift < 0 || c.Drift > 2147483647:
		return "Drift"
	case c.Lag < 0 || c.Lag > 8:
		return "Lag"
	case c.Mis < 0 || c.Mis > 2147483647:
		return "Mis"
	case c.Auth < 0 || c.Auth > 2147483647:
		return "Auth"
	case c.Gain < 0 || c.Gain > 8:
		return "Gain"
	case c.Clip < 0 || c.Clip > 2147483647:
		return "Clip"
	case c.Latch < 1 || c.Latch > 100:
		return "Latch"
	case c.Clean < 1 || c.Clean > 1000:
		return "Clean"
	case c.Budget < 0 || c.Budget > 10:
		return "Budget"
	case c.Limit < 1 || c.Limit > 8:
		return "Limit"
	}
	for i, w := range c.Weights {
		if i < c.N && (w < 1 || w > 16) || i >= c.N && w != 0 {
			return "Weights"
		}
	}
	return ""
}

// sum is what numbers, each taken so many times, come to, however great that is.
func sum(timed ...[2]int) *big.Int {
	all := new(big.Int)
	for _, x := range timed {
		all.Add(all, new(big.Int).Mul(big.NewInt(int64(x[0])), big.NewInt(int64(x[1]))))
	}
	return all
}

// coversBy is whether it covers these, by the document's words.
func coversBy(c api.Config, e, r int) bool {
	if faultOf(c) != "" || e < 0 || e > 1073741824 || r < 0 || r > 1073741824 {
		return false
	}
	n := func(n int) *big.Int { return big.NewInt(int64(n)) }
	return n(c.Mis).Cmp(sum([2]int{2, e}, [2]int{2, c.Auth}, [2]int{1, c.Clip})) >= 0 &&
		n(c.Step).Cmp(sum([2]int{1, r}, [2]int{2, e})) >= 0 &&
		n(c.Drift).Cmp(sum([2]int{2, e})) >= 0 &&
		n(c.Stuck).Cmp(sum([2]int{4, e}, [2]int{2, c.Auth}, [2]int{2, c.Clip})) >= 0 &&
		sum([2]int{1, c.Hi}, [2]int{-1, c.Lo}).Cmp(sum([2]int{2, e})) >= 0
}

// P7.1: Default of 3, and of 4: each constant as the document names it, and no fault.
func TestDefault(t *testing.T) {
	for n := 3; n <= 4; n++ {
		c, e := Default(n)
		if c != ordinary(n) || e != api.OK {
			t.Errorf("Default(%d) = %v, %d", n, c, e)
		}
		fault(t, c, "")
		c.Weights[0], c.Mis = 9, 1
		if again, _ := Default(n); again != ordinary(n) {
			t.Errorf("Default(%d) became %v", n, again)
		}
	}
}

// P7.1: Default of what is neither: ErrArg, and a configuration of zeros.
func TestDefaultOfOtherCounts(t *testing.T) {
	for _, n := range []int{
		-1, 0, 2, 5, 1, 6, 7, 8, 16, 34, -2, -3, -4, -5, 255, 256, 259, 260, 1 << 16, 1<<16 + 3, 1<<32 + 3, 1<<32 + 4, -1<<32 + 3,
		least, most, math.MinInt, math.MinInt + 3, math.MinInt + 4, math.MaxInt, math.MaxInt - 3,
	} {
		if c, e := Default(n); c != (api.Config{}) || e != api.ErrArg {
			t.Errorf("Default(%d) = %v, %d", n, c, e)
		}
	}
}

// P7.1: a configuration of zeros has the fault of its first field.
func TestZeros(t *testing.T) {
	fault(t, api.Config{}, "N")
	fault(t, api.Config{N: 3}, "Window")
}

// P7.1: each number at its least, and its most, is no fault of its own; one below, one above, and at the ends of an int it is, with the others as they are in the default ones.
func TestEachNumberAtItsEdges(t *testing.T) {
	for n := 3; n <= 4; n++ {
		for _, p := range places(n) {
			for _, x := range []struct {
				is    int
				right bool
			}{
				{p.least, true}, {p.most, true}, {p.least - 1, false}, {p.most + 1, false}, {math.MinInt, false}, {math.MaxInt, false},
				{p.least - 1<<32, false}, {p.most + 1<<32, false}, {math.MinInt + 1, false}, {math.MaxInt - 1, false},
			} {
				c := ordinary(n)
				*p.at(&c) = x.is
				want := faultOf(c)
				if !x.right && want != p.name {
					t.Fatalf("%s of %d: %q", p.name, x.is, want)
				}
				fault(t, c, want)
			}
		}
	}
}

// P7.1: the same, written out, of the numbers that do not hang on others.
func TestEachNumberWrittenOut(t *testing.T) {
	for n := 3; n <= 4; n++ {
		for _, p := range plain()[4:] {
			for is := p.least; is <= p.most && is <= p.least+1001; is++ {
				c := ordinary(n)
				*p.at(&c) = is
				fault(t, c, "")
			}
			for _, is := range []int{p.most - 1, p.most} {
				c := ordinary(n)
				*p.at(&c) = is
				fault(t, c, "")
			}
			for _, is := range []int{p.least - 2, p.least - 1, p.most + 1, p.most + 2, math.MinInt, math.MaxInt} {
				c := ordinary(n)
				*p.at(&c) = is
				fault(t, c, p.name)
			}
		}
	}
}

// P7.1: N decides which weights there are: a default one of which N alone is another has the fault Weights.
func TestOtherN(t *testing.T) {
	c := ordinary(3)
	c.N = 4
	fault(t, c, "Weights")
	c.Weights[3] = 1
	fault(t, c, "")
	c.N = 3
	fault(t, c, "Weights")
	c.Weights[3] = 0
	fault(t, c, "")
	for _, n := range []int{2, 5, 1, 0, -1, -3, 7, 1<<32 + 3, 1<<32 + 4, math.MinInt, math.MaxInt} {
		for _, weights := range [][4]int{{}, {1}, {1, 1}, {1, 1, 1}, {1, 1, 1, 1}, {-1, 17, 0, 5}} {
			c := ordinary(4)
			c.N, c.Weights = n, weights
			fault(t, c, "N")
		}
	}
}

// P7.1: that Lo is above Hi is Hi's, that Safe is outside is Safe's; where all three are the same there is no fault.
func TestRange(t *testing.T) {
	for _, x := range []struct {
		lo, hi, safe int
		want         string
	}{
		{-1000000, 1000000, -1000000, ""}, {-1000000, 1000000, 1000000, ""},
		{-1000000, 1000000, -1000001, "Safe"}, {-1000000, 1000000, 1000001, "Safe"},
		{0, 0, 0, ""}, {7, 7, 7, ""}, {-7, -7, -7, ""}, {least, least, least, ""}, {most, most, most, ""},
		{7, 7, 6, "Safe"}, {7, 7, 8, "Safe"}, {least, least, least - 1, "Safe"}, {most, most, most + 1, "Safe"},
		{least, most, least, ""}, {least, most, most, ""}, {least, most, 0, ""},
		{least, most, least - 1, "Safe"}, {least, most, most + 1, "Safe"}, {least, most, math.MinInt, "Safe"}, {least, most, math.MaxInt, "Safe"},
		{5, 4, 4, "Hi"}, {5, 4, 5, "Hi"}, {5, 4, 9, "Hi"}, {1, 0, 0, "Hi"}, {0, -1, 0, "Hi"}, {most, least, 0, "Hi"}, {most, most - 1, most, "Hi"},
		{least, least - 1, least, "Hi"}, {most, most + 1, most, "Hi"}, {least, math.MinInt, least, "Hi"}, {least, math.MaxInt, least, "Hi"},
		{least - 1, least - 1, least - 1, "Lo"}, {most + 1, most + 1, most + 1, "Lo"}, {least - 1, 0, 0, "Lo"}, {most + 1, most + 2, most + 2, "Lo"},
		{most + 1, 0, 0, "Lo"}, {math.MinInt, 0, 0, "Lo"}, {math.MaxInt, 0, 0, "Lo"}, {math.MinInt, math.MaxInt, 0, "Lo"}, {math.MaxInt, math.MinInt, 0, "Lo"},
		{-10, 10, 11, "Safe"}, {-10, 10, -11, "Safe"}, {-10, -5, 0, "Safe"}, {5, 10, 0, "Safe"}, {-10, 10, 1<<32 + 1, "Safe"},
	} {
		for n := 3; n <= 4; n++ {
			c := ordinary(n)
			c.Lo, c.Hi, c.Safe = x.lo, x.hi, x.safe
			fault(t, c, x.want)
		}
	}
}

// P7.1: of any two numbers that are wrong, low or high, the first one in order tells.
func TestTwoWrongOfEachPair(t *testing.T) {
	for n := 3; n <= 4; n++ {
		all := places(n)
		for i, p := range all {
			for _, q := range all[i+1:] {
				for _, a := range []int{p.least - 1, p.most + 1, math.MinInt, math.MaxInt} {
					for _, b := range []int{q.least - 1, q.most + 1, math.MinInt, math.MaxInt} {
						c := ordinary(n)
						*p.at(&c), *q.at(&c) = a, b
						fault(t, c, p.name)
					}
				}
			}
		}
	}
}

// P7.1: what is wrong of Lo, Hi and Safe to each other tells in its place too: behind what is ahead of it, ahead of what is behind.
func TestRangeThatIsNoneAndAnother(t *testing.T) {
	for n := 3; n <= 4; n++ {
		for i, p := range places(n) {
			for _, x := range []struct {
				lo, hi, safe int
				at           int // the place of what it is a fault of
				name         string
			}{{5, 4, 4, 2, "Hi"}, {5, 4, 9, 2, "Hi"}, {-5, 5, 6, 3, "Safe"}, {-5, 5, -6, 3, "Safe"}} {
				c := ordinary(n)
				c.Lo, c.Hi, c.Safe = x.lo, x.hi, x.safe
				*p.at(&c) = p.most + 1
				if i < x.at {
					fault(t, c, p.name)
				} else {
					fault(t, c, x.name)
				}
			}
		}
	}
}

// P7.1: where all numbers are wrong the first one tells, and, as they are mended in order, the next one.
func TestAllWrongMendedInOrder(t *testing.T) {
	for n := 3; n <= 4; n++ {
		for _, wrong := range []func(p place) int{
			func(p place) int { return p.least - 1 }, func(p place) int { return p.most + 1 },
			func(place) int { return math.MinInt }, func(place) int { return math.MaxInt },
		} {
			c, right := ordinary(n), ordinary(n)
			for _, p := range places(n) {
				*p.at(&c) = wrong(p)
			}
			for _, p := range places(n) {
				fault(t, c, p.name)
				*p.at(&c) = *p.at(&right)
			}
			fault(t, c, "")
		}
	}
}

// P7.1: a weight at each place, of N 3 and of N 4; the fourth one of N 3 is 0, and no other.
func TestWeights(t *testing.T) {
	for n := 3; n <= 4; n++ {
		for i := range 4 {
			for w := -40; w <= 40; w++ {
				c := ordinary(n)
				c.Weights[i] = w
				want := ""
				if i < n && (w < 1 || w > 16) || i >= n && w != 0 {
					want = "Weights"
				}
				fault(t, c, want)
			}
		}
	}
	for _, x := range []struct {
		n       int
		weights [4]int
		want    string
	}{
		{3, [4]int{1, 16, 7}, ""}, {3, [4]int{16, 16, 16}, ""}, {4, [4]int{16, 16, 16, 16}, ""}, {4, [4]int{1, 2, 3, 4}, ""},
		{3, [4]int{1, 1, 1, 1}, "Weights"}, {3, [4]int{1, 1, 1, -1}, "Weights"}, {3, [4]int{1, 1, 1, 16}, "Weights"}, {3, [4]int{1, 1, 1, 17}, "Weights"},
		{3, [4]int{1, 1, 1, 1 << 32}, "Weights"}, {3, [4]int{1, 1, 0, 1}, "Weights"}, {3, [4]int{0, 1, 1, 1}, "Weights"},
		{4, [4]int{1, 1, 1, 0}, "Weights"}, {4, [4]int{1, 1, 1, 17}, "Weights"}, {4, [4]int{}, "Weights"}, {3, [4]int{}, "Weights"},
		{4, [4]int{1 << 32, 1, 1, 1}, "Weights"}, {4, [4]int{1<<32 + 1, 1, 1, 1}, "Weights"}, {4, [4]int{17, 0, -1, 99}, "Weights"},
	} {
		c := ordinary(x.n)
		c.Weights = x.weights
		fault(t, c, x.want)
	}
}

// P7.1: a configuration with every number at its least, and with every one at its most.
func TestAllAtTheirEdges(t *testing.T) {
	for n := 3; n <= 4; n++ {
		low, high := ordinary(n), ordinary(n)
		for _, p := range places(n) {
			*p.at(&low), *p.at(&high) = p.least, p.most
		}
		low.N, high.N = n, n
		fault(t, low, "")
		fault(t, high, "")
		covers(t, low, 0, 0, true)
		covers(t, low, 1, 0, false)
		covers(t, low, 0, 1, false)
		greatest(t, low, 0, 0)
		covers(t, high, 0, 0, false) // Mis is below twice Auth, and Clip
		greatest(t, high, 0, -1)
	}
}

// bounded are configurations of which each of the five bounds in turn is just so great that it covers an error, and a rate, the others greater by far; less takes one from it.
func bounded(n, e, r, auth, clip int) []struct {
	name string
	c    api.Config
	less func(c *api.Config)
} {
	type one = struct {
		name string
		c    api.Config
		less func(c *api.Config)
	}
	var all []one
	add := func(name string, set, less func(c *api.Config)) {
		c := roomy(n)
		c.Auth, c.Clip = auth, clip
		set(&c)
		all = append(all, one{name, c, less})
	}
	add("Mis", func(c *api.Config) { c.Mis = 2*e + 2*auth + clip }, func(c *api.Config) { c.Mis-- })
	add("Step", func(c *api.Config) { c.Step = r + 2*e }, func(c *api.Config) { c.Step-- })
	add("Drift", func(c *api.Config) { c.Drift = 2 * e }, func(c *api.Config) { c.Drift-- })
	add("Stuck", func(c *api.Config) { c.Stuck = 4*e + 2*auth + 2*clip }, func(c *api.Config) { c.Stuck-- })
	add("Hi", func(c *api.Config) { c.Lo, c.Hi, c.Safe = -5, 2*e-5, 2*e-5 }, func(c *api.Config) { c.Hi--; c.Safe-- })
	add("Lo", func(c *api.Config) { c.Lo, c.Hi, c.Safe = 5-2*e, 5, 5 }, func(c *api.Config) { c.Lo++ })
	return all
}

// P7.1: each of the five bounds, just there, covers; one less does not, nor does one more of the error, nor, where that counts, of the rate.
func TestEachBoundDecides(t *testing.T) {
	for n := 3; n <= 4; n++ {
		for _, e := range []int{0, 1, 2, 75, 76, 1000, 1 << 20, 1<<28 + 3} {
			for _, r := range []int{0, 1, 250, 1 << 20} {
				for _, auth := range []int{0, 1, 40, 1 << 10} {
					for _, clip := range []int{0, 1, 60, 1 << 11} {
						for _, x := range bounded(n, e, r, auth, clip) {
							fault(t, x.c, "")
							covers(t, x.c, e, r, true)
							covers(t, x.c, e+1, r, false)
							covers(t, x.c, e, r+1, x.name != "Step")
							greatest(t, x.c, r, e)
							x.less(&x.c)
							covers(t, x.c, e, r, false)
							if e > 0 {
								greatest(t, x.c, r, e-1)
							} else {
								greatest(t, x.c, r, -1)
							}
						}
					}
				}
			}
		}
	}
}

// P7.1: what is one less than a bound rounds down: the error that it covers is the lesser one, also where what is left is below 0.
func TestBoundsThatLeaveARest(t *testing.T) {
	for _, x := range []struct {
		set  func(c *api.Config, room int)
		wide int // how much room an error takes
	}{
		{func(c *api.Config, room int) { c.Mis = 140 + room }, 2},
		{func(c *api.Config, room int) { c.Step = 250 + room }, 2},
		{func(c *api.Config, room int) { c.Drift = room }, 2},
		{func(c *api.Config, room int) { c.Stuck = 200 + room }, 4},
		{func(c *api.Config, room int) { c.Lo, c.Hi, c.Safe = 0, room, 0 }, 2},
	} {
		for room := range 200 {
			c := roomy(4)
			c.Auth, c.Clip = 40, 60
			x.set(&c, room)
			greatest(t, c, 250, room/x.wide)
		}
		for room := -140; room < 0; room++ {
			c := roomy(4)
			c.Auth, c.Clip = 40, 60
			x.set(&c, room)
			greatest(t, c, 250, -1)
		}
	}
}

// P7.1, P7.2: the default ones cover 75, and 250, not one more of either.
func TestDefaultOnesCover(t *testing.T) {
	for n := 3; n <= 4; n++ {
		c, _ := Default(n)
		covers(t, c, 75, 250, true)
		covers(t, c, 76, 250, false)
		covers(t, c, 75, 251, false)
		covers(t, c, 75, 0, true)
		covers(t, c, 76, 0, false)
		covers(t, c, 0, 400, true)
		covers(t, c, 0, 401, false)
		greatest(t, c, 250, 75)
	}
}

// P7.1: Most of the default ones with each rate from -1 on to those that none covers.
func TestMostOfDefaultOnes(t *testing.T) {
	for n := 3; n <= 4; n++ {
		c, _ := Default(n)
		greatest(t, c, -1, -1)
		for r := 0; r <= 250; r++ {
			greatest(t, c, r, 75)
		}
		for r := 251; r <= 400; r++ {
			greatest(t, c, r, (400-r)/2)
		}
		for r := 401; r < 500; r++ {
			greatest(t, c, r, -1)
		}
	}
}

// P7.1: an error, or a rate, that is not from 0 to 2^30 is covered by none, not even by one with the greatest rooms; Most of such a rate is -1.
func TestErrorsAndRatesThatMayNotBe(t *testing.T) {
	wrong := []int{-1, far + 1, -2, far + 2, -far, 1 << 31, 1<<32 + 1, 1 << 32, 1 << 62, 1<<62 + 1, -1 << 62, 1 << 61, least, most, math.MinInt, math.MinInt + 1, math.MaxInt, math.MaxInt - 1}
	for n := 3; n <= 4; n++ {
		for _, c := range []api.Config{roomy(n), ordinary(n)} {
			for _, x := range wrong {
				covers(t, c, x, 0, false)
				covers(t, c, 0, x, false)
				covers(t, c, 75, x, false)
				covers(t, c, x, 250, false)
				for _, y := range wrong {
					covers(t, c, x, y, false)
				}
				greatest(t, c, x, -1)
			}
			covers(t, c, 0, 0, true)
		}
	}
}

// P7.1: a rate of 2^30 may be covered, where there is room for it, and one more may not, though there is. (An error of 2^30 never is: Stuck has no room for four times that.)
func TestFarthestRate(t *testing.T) {
	for n := 3; n <= 4; n++ {
		c := roomy(n)
		covers(t, c, 0, far-1, true)
		covers(t, c, 0, far, true)
		covers(t, c, 0, far+1, false)
		greatest(t, c, far+1, -1)
		c.Step = far
		greatest(t, c, far, 0)
		c.Step = far + 1
		greatest(t, c, far, 0)
		greatest(t, c, far+1, -1)
		c.Step = far + 2
		greatest(t, c, far, 1)
		greatest(t, c, far+1, -1)
		c.Step = far - 1
		greatest(t, c, far, -1)
		greatest(t, c, far-1, 0)
	}
}

// P7.1: Most where the rooms are as great as they may be.
func TestGreatestRooms(t *testing.T) {
	const widest = 1<<29 - 1 // a fourth of the greatest Stuck
	for n := 3; n <= 4; n++ {
		c := roomy(n)
		fault(t, c, "")
		for _, r := range []int{0, 1, 250, 1 << 29, far - 1, far} {
			greatest(t, c, r, widest)
		}
		for _, e := range []int{far, far - 1, 1 << 29} {
			covers(t, c, e, 0, false)
		}
		c.Auth, c.Clip = 1, 1
		greatest(t, c, 0, widest-1)
		c.Auth, c.Clip = most, 0
		greatest(t, c, 0, -1)
		c.Auth, c.Clip = 0, most
		greatest(t, c, 0, -1)
		c.Auth, c.Clip = 0, far-1
		greatest(t, c, 0, 0)
		c.Auth, c.Clip = 0, far
		greatest(t, c, 0, -1)
	}
}

// drawn is configurations that hang on seed alone; some of their numbers are wrong, or at an edge.
func drawn(seed, wrongOf int) api.Config {
	state := uint64(seed)*2862933555777941757 + 3037000493
	draw := func(below int) int {
		state = state*6364136223846793005 + 1442695040888963407
		return int(state>>33) % below
	}
	n := 3 + draw(2)
	c := ordinary(n)
	for _, p := range places(n)[4:] {
		wide := p.most - p.least + 1
		switch draw(3) {
		case 0:
			wide = min(wide, 600)
		case 1:
			wide = min(wide, 100000)
		}
		*p.at(&c) = p.least + draw(wide)
	}
	c.Lo = draw(4000) - 2000
	c.Hi = c.Lo + draw(3000)
	c.Safe = c.Lo + draw(c.Hi-c.Lo+1)
	if draw(2) == 0 {
		c.Mis, c.Stuck = c.Mis+2*c.Auth+c.Clip, c.Stuck+2*c.Auth+2*c.Clip
	}
	for _, p := range places(n) {
		if draw(100) < wrongOf {
			*p.at(&c) = []int{p.least, p.most, p.least - 1, p.most + 1, draw(20) - 10}[draw(5)]
		}
	}
	return c
}

// P7.1: many configurations, held against the document's words, with errors and rates about where they are covered.
func TestManyConfigurations(t *testing.T) {
	faults, covered := map[string]int{}, 0
	for seed := range 3000 {
		c := drawn(seed, seed%3*3)
		want := faultOf(c)
		faults[want]++
		if got := Fault(c); got != want || Right(c) != (want == "") {
			t.Fatalf("Fault(%v) = %q, not %q; Right = %t", c, got, want, Right(c))
		}
		for _, r := range []int{0, 3, 250, c.Step - 7, c.Step, c.Step + 1} {
			m := Most(c, r)
			if m >= 0 {
				covered++
			}
			if m != -1 && !coversBy(c, m, r) || coversBy(c, m+1, r) {
				t.Fatalf("Most(%v, %d) = %d", c, r, m)
			}
			for _, e := range []int{m - 1, m, m + 1, 0, 1, 75, c.Mis / 2, c.Drift / 2, c.Stuck / 4, (c.Hi - c.Lo) / 2} {
				if got := Covers(c, e, r); got != coversBy(c, e, r) {
					t.Fatalf("Covers(%v, %d, %d) = %t", c, e, r, got)
				}
			}
		}
	}
	for _, p := range append(places(3), place{}) {
		if faults[p.name] == 0 {
			t.Errorf("no configuration had the fault %q", p.name)
		}
	}
	if covered < 500 {
		t.Errorf("%d covered", covered)
	}
}

// P7.2: who covers an error, and a rate, covers lesser ones, all the way down to 0.
func TestLessIsCovered(t *testing.T) {
	tried := 0
	for seed := range 400 {
		c := drawn(seed, 0)
		top := min(c.Step, far)
		for _, r := range []int{top, top / 2, top / 3, 0} {
			m := Most(c, r)
			if m < 0 {
				continue
			}
			tried++
			for _, e := range []int{m, m - 1, m / 2, m / 3, 2, 1, 0} {
				if e > m || e < 0 {
					continue
				}
				for _, s := range []int{r, r - 1, r / 2, r / 3, 1, 0} {
					if s <= r && s >= 0 {
						covers(t, c, e, s, true)
					}
				}
			}
			for s := r; s > 0 && s > r-20; s-- {
				if Most(c, s-1) < Most(c, s) {
					t.Errorf("Most(%v, %d) is less than with %d", c, s-1, s)
				}
			}
		}
	}
	if tried < 100 {
		t.Errorf("%d tried", tried)
	}
	c := ordinary(3)
	for e := range 76 {
		for r := range 251 {
			covers(t, c, e, r, true)
		}
	}
}

// P2: what is asked again is told again, whatever was asked in between.
func TestSameConfigurationSameAnswers(t *testing.T) {
	for seed := range 200 {
		c, other := drawn(seed, 4), drawn(seed+1, 4)
		kept := c
		name, right, most, is := Fault(c), Right(c), Most(c, 9), Covers(c, 9, 9)
		Fault(other)
		Most(other, 9)
		Covers(other, 9, 9)
		if Fault(c) != name || Right(c) != right || Most(c, 9) != most || Covers(c, 9, 9) != is || c != kept {
			t.Errorf("%v is told otherwise", c)
		}
	}
}
