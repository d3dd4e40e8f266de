package jump

import (
	"math"
	"testing"

	"rudder/api"
)

// The signatures that other layers call.
var (
	_ func(lo, hi, step int) (*Watch, api.Errno) = New
	_ func(w *Watch, n int) (int, api.Errno)     = (*Watch).Come
	_ func(w *Watch)                             = (*Watch).Miss
	_ func(w *Watch) (int, bool)                 = (*Watch).Last
)

const (
	least = -2147483648
	most  = 2147483647

	none   = 0
	ranged = 2
	spike  = 4
	both   = 6
)

// beyond are numbers that are no values, some of which have a value's lower bits.
func beyond() []int {
	return []int{
		least - 1, most + 1, least - 2, most + 2, 1 << 32, -1 << 32, 1<<32 + 5, -1<<32 + 5, 1 << 40, 1<<40 + 1, -1 << 40, -1<<40 - 1, 1 << 62,
		math.MinInt, math.MinInt + 1, math.MinInt + 5, math.MaxInt, math.MaxInt - 1,
	}
}

// made is a new watch, which has no value.
func made(t testing.TB, lo, hi, step int) *Watch {
	t.Helper()
	w, e := New(lo, hi, step)
	if w == nil || e != api.OK {
		t.Fatalf("New(%d, %d, %d) = %v, %d", lo, hi, step, w, e)
	}
	lasts(t, w, 0, false)
	return w
}

func lasts(t testing.TB, w *Watch, want int, is bool) {
	t.Helper()
	if got, has := w.Last(); got != want || has != is {
		t.Fatalf("Last() = %d, %t, not %d, %t", got, has, want, is)
	}
}

// comes holds what a value trips, and that it is the one that came then.
func comes(t testing.TB, w *Watch, n, want int) {
	t.Helper()
	if got, e := w.Come(n); got != want || e != api.OK {
		t.Fatalf("Come(%d) = %d, %d, not %d", n, got, e, want)
	}
	lasts(t, w, n, true)
}

// refuses holds that what is no value is answered with ErrArg, and changes nothing.
func refuses(t testing.TB, w *Watch, n int) {
	t.Helper()
	last, is := w.Last()
	if got, e := w.Come(n); got != 0 || e != api.ErrArg {
		t.Fatalf("Come(%d) = %d, %d", n, got, e)
	}
	lasts(t, w, last, is)
}

func misses(t testing.TB, w *Watch) {
	t.Helper()
	w.Miss()
	lasts(t, w, 0, false)
}

// turn is what comes in a cycle: a value, or none.
type turn struct {
	miss bool
	n    int
}

// tripsBy is what the last turn of some trips, by the document's words.
func tripsBy(lo, hi, step int, turns []turn) int {
	at := len(turns) - 1
	n, trips := turns[at].n, 0
	if n < lo || n > hi {
		trips += 2
	}
	if at > 0 && !turns[at-1].miss {
		if before := turns[at-1].n; n > before+step || n < before-step {
			trips += 4
		}
	}
	return trips
}

// holds lets turns come, each of which is held against the document's words.
func holds(t testing.TB, lo, hi, step int, turns []turn) {
	t.Helper()
	w := made(t, lo, hi, step)
	for i, x := range turns {
		if x.miss {
			misses(t, w)
			continue
		}
		comes(t, w, x.n, tripsBy(lo, hi, step, turns[:i+1]))
	}
}

// drawer gives numbers from 0 on that hang on seed alone.
func drawer(seed int) func(below int) int {
	state := uint64(seed)*2862933555777941757 + 3037000493
	return func(below int) int {
		state = state*6364136223846793005 + 1442695040888963407
		return int(state>>31) % below
	}
}

// P8.1: New with lo, hi, and step at the ends of their bounds, and lo equal to hi: a watch without a value.
func TestNew(t *testing.T) {
	for _, lo := range []int{least, least + 1, -1, 0, 1, most - 1, most} {
		for _, hi := range []int{least, least + 1, -1, 0, 1, most - 1, most} {
			for _, step := range []int{0, 1, most - 1, most} {
				if lo > hi {
					refusesNew(t, lo, hi, step)
					continue
				}
				w := made(t, lo, hi, step)
				comes(t, w, lo, none)
			}
		}
	}
}

func refusesNew(t testing.TB, lo, hi, step int) {
	t.Helper()
	if w, e := New(lo, hi, step); w != nil || e != api.ErrArg {
		t.Fatalf("New(%d, %d, %d) = %v, %d", lo, hi, step, w, e)
	}
}

// P8.1: New with lo, or hi, or both, one outside of their bounds, and far outside: ErrArg, and no watch.
func TestNewOutsideOfBounds(t *testing.T) {
	for _, n := range beyond() {
		for _, step := range []int{0, 4, most} {
			for _, other := range []int{least, -10, 0, 10, most, n} {
				refusesNew(t, n, other, step)
				refusesNew(t, other, n, step)
			}
			for _, m := range beyond() {
				refusesNew(t, n, m, step)
			}
		}
	}
}

// P8.1: New with lo above hi, by one and by more: ErrArg, and no watch.
func TestNewWithRangeTurnedRound(t *testing.T) {
	for _, hi := range []int{least, -11, -1, 0, 1, 10, most - 1} {
		made(t, hi, hi, 4)
		refusesNew(t, hi+1, hi, 0)
		refusesNew(t, hi+1, hi, 4)
		refusesNew(t, most, hi, most)
	}
	refusesNew(t, 10, -10, 4)
	refusesNew(t, most, least, 4)
}

// P8.1: New with a step of less than 0, or above the greatest one: ErrArg, and no watch.
func TestNewWithStepOutside(t *testing.T) {
	for _, x := range [][2]int{{-10, 10}, {0, 0}, {least, most}, {least, least}, {most, most}, {3, 2}} {
		for _, step := range append(beyond(), -1, -2, -4, least) {
			refusesNew(t, x[0], x[1], step)
		}
	}
}

// P8.1: values at the ends of the range, and one outside these, with no value before.
func TestRangeOfFirstValue(t *testing.T) {
	for _, x := range [][2]int{{-10, 10}, {0, 0}, {5, 5}, {-7, -3}, {3, 7}, {-1000000, 1000000}, {least, least}, {most, most}, {least + 1, most - 1}, {least, most}, {least, 0}, {0, most}} {
		lo, hi := x[0], x[1]
		for _, step := range []int{0, 4, most} {
			for _, n := range []int{lo, hi, lo + (hi-lo)/2} {
				comes(t, made(t, lo, hi, step), n, none)
			}
			if lo > least {
				comes(t, made(t, lo, hi, step), lo-1, ranged)
				comes(t, made(t, lo, hi, step), least, ranged)
			}
			if hi < most {
				comes(t, made(t, lo, hi, step), hi+1, ranged)
				comes(t, made(t, lo, hi, step), most, ranged)
			}
		}
	}
}

// P8.1: all first values near a range, from far below it to far above.
func TestEachFirstValue(t *testing.T) {
	for n := -300; n <= 300; n++ {
		want := ranged
		if n >= -100 && n <= 50 {
			want = none
		}
		comes(t, made(t, -100, 50, 0), n, want)
	}
}

// P8.1: a value that is less than STEP, just STEP, and one more away from the one before it, up and down.
func TestStep(t *testing.T) {
	for _, step := range []int{0, 1, 4, 400, 1 << 16, 1<<30 - 1} {
		for _, from := range []int{-1 << 30, -400, -1, 0, 1, 37, 1 << 30} {
			for _, way := range []int{1, -1} {
				for _, x := range []struct{ far, trips int }{{0, none}, {step / 2, none}, {step, none}, {step + 1, spike}, {step + 2, spike}, {2*step + 1, spike}} {
					// Not beyond the values: an end of these has a test of its own.
					if n := from + way*x.far; n >= least && n <= most {
						w := made(t, least, most, step)
						comes(t, w, from, none)
						comes(t, w, n, x.trips)
					}
				}
			}
		}
	}
}

// P8.1: each distance, from 0 to beyond STEP, up and down.
func TestEachDistance(t *testing.T) {
	for far := range 60 {
		want := none
		if far > 25 {
			want = spike
		}
		for _, n := range []int{far, -far} {
			w := made(t, -1000, 1000, 25)
			comes(t, w, 0, none)
			comes(t, w, n, want)
		}
	}
}

// P8.1: both trips at once are told as 6; a range alone as 2, a spike alone as 4, from outside into the range too.
func TestBothTrips(t *testing.T) {
	for _, x := range []struct{ from, first, to, trips int }{
		{10, none, 15, both}, {-10, none, -15, both}, {0, none, 11, both}, {0, none, -11, both}, {10, none, -11, both},
		{10, none, most, both}, {10, none, least, both}, {20, ranged, -20, both}, {20, ranged, 25, both}, {least, ranged, most, both},
		{10, none, 14, ranged}, {10, none, 11, ranged}, {-10, none, -14, ranged}, {20, ranged, 24, ranged}, {20, ranged, 16, ranged}, {20, ranged, 20, ranged},
		{10, none, 5, spike}, {-10, none, 10, spike}, {20, ranged, 10, spike}, {15, ranged, 10, spike}, {-15, ranged, -10, spike},
		{14, ranged, 10, none}, {-14, ranged, -10, none}, {11, ranged, 7, none}, {10, none, 6, none},
	} {
		w := made(t, -10, 10, 4)
		comes(t, w, x.from, x.first)
		comes(t, w, x.to, x.trips)
	}
}

// P8.1: a spike is held against the value that came before, not against an earlier one, nor the last one that tripped nothing.
func TestSpikeAgainstValueBefore(t *testing.T) {
	w := made(t, -1000, 1000, 4)
	for _, x := range [][2]int{{0, none}, {4, none}, {8, none}, {12, none}, {100, spike}, {104, none}, {103, none}, {12, spike}, {16, none}, {11, spike}, {2000, both}, {2004, ranged}, {1998, both}, {1999, ranged}, {1000, spike}, {1000, none}} {
		comes(t, w, x[0], x[1])
	}
}

// P8.1: that a value comes again is no spike, with a step of 0 too; outside of the range it is told as often as it comes.
func TestValueAgain(t *testing.T) {
	for _, step := range []int{0, 4, most} {
		for _, x := range []struct{ n, trips int }{{0, none}, {10, none}, {-10, none}, {11, ranged}, {-11, ranged}, {least, ranged}, {most, ranged}} {
			w := made(t, -10, 10, step)
			for range 5 {
				comes(t, w, x.n, x.trips)
			}
		}
	}
}

// P8.1: with a step of 0 each other value is a spike, with the greatest one none is that is so far away at most.
func TestStepAtItsEnds(t *testing.T) {
	w := made(t, -10, 10, 0)
	for _, x := range [][2]int{{0, none}, {1, spike}, {0, spike}, {0, none}, {-1, spike}, {-1, none}, {10, spike}, {11, both}, {11, ranged}} {
		comes(t, w, x[0], x[1])
	}
	w = made(t, least, most, most)
	for _, x := range [][2]int{{0, none}, {most, none}, {0, none}, {-most, none}, {0, none}, {least, spike}, {-1, none}, {least, none}, {0, spike}, {most, none}, {-1, spike}} {
		comes(t, w, x[0], x[1])
	}
}

// P8.1: values that are as far apart as can be are so: a spike, whatever the step.
func TestFarthestApart(t *testing.T) {
	for _, step := range []int{0, 1, 4, 1 << 30, most - 1, most} {
		w := made(t, least, most, step)
		comes(t, w, least, none)
		for range 3 {
			comes(t, w, most, spike)
			comes(t, w, least, spike)
		}
		w = made(t, 0, 0, step)
		comes(t, w, most, ranged)
		comes(t, w, least, both)
		comes(t, w, most, both)
	}
}

// P8.1: -2^31, and 2^31 less 1, are values.
func TestValuesAtTheirEnds(t *testing.T) {
	for _, n := range []int{least, most} {
		comes(t, made(t, least, most, 0), n, none)
		comes(t, made(t, n, n, 0), n, none)
		comes(t, made(t, -10, 10, 4), n, ranged)
		w := made(t, -10, 10, 4)
		comes(t, w, 10, none)
		comes(t, w, n, both)
		comes(t, w, n, ranged)
	}
}

// P8.1: of what is no value ErrArg, and nothing: ahead of the first value there is none still, and the next one is no spike.
func TestNoValueAheadOfFirst(t *testing.T) {
	for _, n := range beyond() {
		for _, missed := range []bool{false, true} {
			w := made(t, -10, 10, 0)
			if missed {
				comes(t, w, 9, none)
				misses(t, w)
			}
			refuses(t, w, n)
			refuses(t, w, n)
			lasts(t, w, 0, false)
			comes(t, w, 7, none)
		}
	}
}

// P8.1: of what is no value ErrArg, and nothing: the value before it is the one that came, as the next one tells.
func TestNoValueBehindOne(t *testing.T) {
	for _, n := range beyond() {
		for _, x := range []struct{ from, first, to, trips int }{
			{0, none, 4, none}, {0, none, -4, none}, {0, none, 5, spike}, {0, none, -5, spike}, {0, none, 0, none}, {12, ranged, 10, none}, {12, ranged, 16, ranged},
			{12, ranged, 17, both}, {most, ranged, most, ranged}, {most, ranged, least, both}, {least, ranged, least, ranged}, {least, ranged, most, both},
		} {
			w := made(t, -10, 10, 4)
			comes(t, w, x.from, x.first)
			for range 2 {
				refuses(t, w, n)
				lasts(t, w, x.from, true)
			}
			comes(t, w, x.to, x.trips)
		}
	}
}

// P8.1, P8.3: Miss ahead of the first value, behind one, and twice in a row: there is none that came before, and the next one is no spike.
func TestMiss(t *testing.T) {
	for times := 1; times <= 3; times++ {
		for _, to := range []struct{ n, trips int }{{7, none}, {10, none}, {-10, none}, {-9, none}, {99, ranged}, {-11, ranged}, {least, ranged}, {most, ranged}, {0, none}} {
			w := made(t, -10, 10, 0)
			for range times {
				misses(t, w)
			}
			comes(t, w, to.n, to.trips)
			comes(t, w, to.n, to.trips)
			for range times {
				misses(t, w)
			}
			comes(t, w, -to.n/2, outside(-to.n/2))
			for range times {
				misses(t, w)
			}
			comes(t, w, to.n, to.trips)
		}
	}
}

// outside is what a number trips of the range from -10 to 10.
func outside(n int) int {
	if n < -10 || n > 10 {
		return ranged
	}
	return none
}

// P8.3: behind a miss none is a spike, whatever came ahead of it, but the one behind that may be.
func TestNoSpikeBehindMiss(t *testing.T) {
	for _, before := range []int{least, -500, 0, 3, 500, most} {
		for _, n := range []int{least, -500, 0, 3, 500, most} {
			w := made(t, least, most, 2)
			comes(t, w, before, none)
			misses(t, w)
			comes(t, w, n, none)
			if before == n {
				comes(t, w, before, none)
			} else {
				comes(t, w, before, spike)
			}
		}
	}
}

// P8.3: one jump is told once: the value that stays where it jumped to is none, with what is no value between too.
func TestOneJumpIsToldOnce(t *testing.T) {
	for _, to := range []int{5, -5, 900, -1000, 1000} {
		w := made(t, -1000, 1000, 4)
		comes(t, w, 0, none)
		comes(t, w, to, spike)
		for range 4 {
			comes(t, w, to, none)
			refuses(t, w, most+1)
		}
		comes(t, w, 0, spike)
		comes(t, w, 0, none)
	}
}

// P8.1: Last ahead of the first value, behind one, behind one that trips, and behind Miss; asking changes nothing.
func TestLast(t *testing.T) {
	w := made(t, -10, 10, 4)
	for range 3 {
		lasts(t, w, 0, false)
	}
	for _, x := range [][2]int{{3, none}, {0, none}, {12, both}, {13, ranged}, {-2, spike}, {most, both}, {least, both}, {least, ranged}} {
		comes(t, w, x[0], x[1])
		for range 3 {
			lasts(t, w, x[0], true)
		}
	}
	misses(t, w)
	for range 3 {
		lasts(t, w, 0, false)
	}
	comes(t, w, 0, none)
	lasts(t, w, 0, true)
	comes(t, w, 5, spike)
}

// P2: two watches beside each other, alike or not, do not touch each other.
func TestTwoWatches(t *testing.T) {
	for _, x := range []struct{ lo, hi, step, far, farther int }{{-10, 10, 4, none, none}, {0, 5, 1, spike, both}} {
		a, b := made(t, -10, 10, 4), made(t, x.lo, x.hi, x.step)
		comes(t, a, 9, none)
		lasts(t, b, 0, false)
		comes(t, b, 0, none)
		lasts(t, a, 9, true)
		comes(t, a, 8, none)
		comes(t, b, 4, x.far)
		misses(t, a)
		lasts(t, b, 4, true)
		comes(t, b, 8, x.farther)
		comes(t, a, -10, none)
		misses(t, b)
		lasts(t, a, -10, true)
		refuses(t, b, most+1)
		comes(t, a, 0, spike)
		comes(t, b, 5, none)
		lasts(t, made(t, -10, 10, 4), 0, false)
	}
}

// P1, P8.1: on a nil watch ErrArg, nothing, 0, false, whatever comes; New of what may not be gives one.
func TestNilWatch(t *testing.T) {
	wrong, _ := New(1, 0, 0)
	for _, w := range []*Watch{nil, wrong} {
		for _, n := range append(beyond(), 0, 1, -1, 5, least, most) {
			refuses(t, w, n)
			lasts(t, w, 0, false)
			misses(t, w)
		}
	}
}

// P8.1, P8.2, P8.3: all rows of three, values or none, of all small ranges and steps, by the document's words.
func TestAllShortRows(t *testing.T) {
	all := []turn{{miss: true}}
	for n := -4; n <= 4; n++ {
		all = append(all, turn{n: n})
	}
	for lo := -2; lo <= 2; lo++ {
		for hi := lo; hi <= 2; hi++ {
			for step := range 4 {
				for _, a := range all {
					for _, b := range all {
						for _, c := range all {
							holds(t, lo, hi, step, []turn{a, b, c})
						}
					}
				}
			}
		}
	}
}

// P8.1, P8.3: long rows of any values, near to each other and far, and of none, by the document's words.
func TestAnyRows(t *testing.T) {
	for seed := range 80 {
		draw := drawer(seed)
		lo := -draw(1 << 31)
		hi := lo + draw(most-lo+1)
		step := draw(1 << (1 + seed%31))
		at := lo + draw(hi-lo+1)
		var turns []turn
		for range 400 {
			switch draw(6) {
			case 0:
				at = least + draw(1<<32)
			case 1:
				at = min(most, at+step+draw(2))
			case 2:
				at = max(least, at-step-draw(2))
			case 3:
				at = []int{lo, hi, max(least, lo-1), min(most, hi+1)}[draw(4)]
			}
			turns = append(turns, turn{miss: draw(5) == 0, n: at})
		}
		holds(t, lo, hi, step, turns)
	}
}

// P8.2: long rows that go on by at most STEP within the range, each move as far as may be or less, trip nothing, with misses between, too.
func TestSmoothRows(t *testing.T) {
	for seed := range 60 {
		draw := drawer(seed)
		for _, x := range []struct{ lo, hi, step int }{
			{-10, 10, 4}, {-1000000, 1000000, 400}, {5, 5, 0}, {0, 1, 1}, {least, most, most}, {least, most, 1}, {-3, 3, most}, {least, least + 9, 2}, {most - 9, most, 3},
		} {
			w := made(t, x.lo, x.hi, x.step)
			at := x.lo + draw(x.hi-x.lo+1)
			for range 500 {
				if draw(8) == 0 {
					misses(t, w)
					continue
				}
				comes(t, w, at, none)
				by := draw(x.step + 1)
				if draw(2) == 0 {
					by = x.step
				}
				if draw(2) == 0 {
					by = -by
				}
				at = max(x.lo, min(x.hi, at+by))
			}
		}
	}
}

// P8.2: from one end of the range to the other and back, each move just STEP.
func TestSmoothFromEndToEnd(t *testing.T) {
	for _, every := range []int{0, 7} {
		w := made(t, -4000, 4000, 40)
		for way := range 2 {
			for i := range 201 {
				n := -4000 + 40*i
				if way == 1 {
					n = -n
				}
				if every > 0 && i%every == 3 {
					misses(t, w)
				}
				comes(t, w, n, none)
			}
		}
	}
}

// P2: the same row is told alike by each watch of the same range and step.
func TestSameRowSameAnswers(t *testing.T) {
	for seed := range 20 {
		a, b := made(t, -50, 50, 20), made(t, -50, 50, 20)
		for which, w := range []*Watch{a, b} {
			draw := drawer(seed)
			var turns []turn
			for range 200 {
				turns = append(turns, turn{miss: draw(6) == 0, n: draw(140) - 70})
			}
			for i, x := range turns {
				if x.miss {
					w.Miss()
				} else if got, e := w.Come(x.n); got != tripsBy(-50, 50, 20, turns[:i+1]) || e != api.OK {
					t.Fatalf("watch %d, at %d: %d, %d", which, i, got, e)
				}
			}
		}
	}
}
