package drift

import (
	"math"
	"math/big"
	"testing"

	"rudder/api"
)

// The signatures that other layers call.
var (
	_ func(lag, bound int) (*Filter, api.Errno) = New
	_ func(f *Filter, d int) (bool, api.Errno)  = (*Filter).Come
	_ func(f *Filter) int                       = (*Filter).Level
	_ func(f *Filter)                           = (*Filter).Clear
)

const (
	most  = 2147483647
	far   = 4294967296 // a difference is at most so far from 0
	unset = most       // a bound for rows that do not ask whether a level is over it
)

// beyond are numbers that are no differences, some of which have a difference's lower bits.
func beyond() []int {
	return []int{
		far + 1, -far - 1, far + 2, -far - 2, 1 << 33, -1 << 33, 1<<33 + 5, 1 << 40, 1<<40 + 1, -1 << 40, -1<<40 - 1, 1 << 62,
		math.MinInt, math.MinInt + 1, math.MinInt + 5, math.MaxInt, math.MaxInt - 1,
	}
}

// made is a new filter, whose level is 0.
func made(t testing.TB, lag, bound int) *Filter {
	t.Helper()
	f, e := New(lag, bound)
	if f == nil || e != api.OK {
		t.Fatalf("New(%d, %d) = %v, %d", lag, bound, f, e)
	}
	levels(t, f, 0)
	return f
}

func refusesNew(t testing.TB, lag, bound int) {
	t.Helper()
	if f, e := New(lag, bound); f != nil || e != api.ErrArg {
		t.Fatalf("New(%d, %d) = %v, %d", lag, bound, f, e)
	}
}

func levels(t testing.TB, f *Filter, want int) {
	t.Helper()
	if got := f.Level(); got != want {
		t.Fatalf("Level() = %d, not %d", got, want)
	}
}

// comes holds the level behind a difference, and whether it is over the bound.
func comes(t testing.TB, f *Filter, d, level int, over bool) {
	t.Helper()
	from := f.Level()
	if got, e := f.Come(d); got != over || e != api.OK {
		t.Fatalf("from %d: Come(%d) = %t, %d, not %t", from, d, got, e, over)
	}
	if got := f.Level(); got != level {
		t.Fatalf("from %d: behind Come(%d) Level() = %d, not %d", from, d, got, level)
	}
}

// refuses holds that what is no difference is answered with ErrArg and false, and changes nothing.
func refuses(t testing.TB, f *Filter, d int) {
	t.Helper()
	level := f.Level()
	if got, e := f.Come(d); got || e != api.ErrArg {
		t.Fatalf("Come(%d) = %t, %d", d, got, e)
	}
	levels(t, f, level)
}

func clears(t testing.TB, f *Filter) {
	t.Helper()
	f.Clear()
	levels(t, f, 0)
}

// standing is a filter whose level is a chosen one, which 2^lag of it must be a difference for.
func standing(t testing.TB, lag, bound, level int) *Filter {
	t.Helper()
	f := made(t, lag, bound)
	comes(t, f, level*(1<<lag), level, level > bound || -level > bound)
	return f
}

// movedBy is a level behind a difference, by the document's words, with numbers of any size.
func movedBy(level, d, lag int) int {
	rest := big.NewInt(int64(d))
	rest.Sub(rest, big.NewInt(int64(level)))
	// Div rounds down where what it divides by is above 0.
	rest.Div(rest, new(big.Int).Exp(big.NewInt(2), big.NewInt(int64(lag)), nil))
	return int(rest.Add(rest, big.NewInt(int64(level))).Int64())
}

// holds lets differences come, each of which is held against the document's words.
func holds(t testing.TB, f *Filter, lag, bound int, ds []int) {
	t.Helper()
	for _, d := range ds {
		level := movedBy(f.Level(), d, lag)
		comes(t, f, d, level, level > bound || level < -bound)
	}
}

// between holds that a level stays between what it was and the difference that comes.
func between(t testing.TB, f *Filter, d int) {
	t.Helper()
	from := f.Level()
	if _, e := f.Come(d); e != api.OK {
		t.Fatalf("Come(%d) = %d", d, e)
	}
	if got := f.Level(); got < min(from, d) || got > max(from, d) {
		t.Fatalf("from %d: behind Come(%d) Level() = %d", from, d, got)
	}
}

// drawer gives numbers from 0 on that hang on seed alone.
func drawer(seed int) func(below int) int {
	state := uint64(seed)*2862933555777941757 + 3037000493
	return func(below int) int {
		state = state*6364136223846793005 + 1442695040888963407
		return int(state>>29) % below
	}
}

// P10.1: New with each lag from 0 to 8 and bounds from 0 to 2^31 less 1: a filter whose level is 0.
func TestNew(t *testing.T) {
	for lag := range 9 {
		for _, bound := range []int{0, 1, 2, 8, 9, 75, 1 << 16, 1 << 30, most - 1, most} {
			f := made(t, lag, bound)
			for range 3 {
				levels(t, f, 0)
			}
			comes(t, f, 0, 0, false)
		}
	}
}

// wrongLags are numbers that are no lags, some of which have a lag's lower bits.
func wrongLags() []int {
	return []int{-1, 9, -2, 10, -8, 16, 31, 32, 40, 41, 63, 64, 256, -256, 1 << 16, most, -most - 1, 1 << 32, 1<<32 + 2, -1 << 32, math.MinInt, math.MinInt + 1, math.MaxInt, math.MaxInt - 1}
}

// wrongBounds are numbers that are no bounds, some of which have a bound's lower bits.
func wrongBounds() []int {
	return append(beyond(), -1, -2, -75, -most, -most-1, -most-2, most+1, most+2, far-1, far, -far, 1<<32+5)
}

// P10.1: New with a lag outside of 0 to 8, by one and by more: ErrArg, and no filter.
func TestNewWithLagOutside(t *testing.T) {
	for _, lag := range wrongLags() {
		for _, bound := range []int{0, 1, 75, most} {
			refusesNew(t, lag, bound)
		}
	}
}

// P10.1: New with a bound of less than 0, or above 2^31 less 1: ErrArg, and no filter.
func TestNewWithBoundOutside(t *testing.T) {
	for _, bound := range wrongBounds() {
		for lag := range 9 {
			refusesNew(t, lag, bound)
		}
	}
}

// P10.1: New with both outside: ErrArg, and no filter.
func TestNewWithBothOutside(t *testing.T) {
	for _, lag := range wrongLags() {
		for _, bound := range wrongBounds() {
			refusesNew(t, lag, bound)
		}
	}
}

// P10.1: the first difference, at each lag: shifted by it, and rounded down on both sides of 0.
func TestFirstDifference(t *testing.T) {
	for lag := range 9 {
		p := 1 << lag
		for _, x := range [][2]int{
			{0, 0}, {p, 1}, {-p, -1}, {-p - 1, -2}, {2 * p, 2}, {-2 * p, -2}, {2*p - 1, 1}, {100 * p, 100}, {100*p - 1, 99}, {-100 * p, -100}, {-99*p - 1, -100},
			{far, far / p}, {-far, -far / p}, {1 - far, -far/p + one(lag == 0)}, {far - 1, far/p - 1},
		} {
			comes(t, made(t, lag, most), x[0], x[1], x[1] > most || x[1] < -most)
		}
	}
}

// one is 1, where something is so, and else 0.
func one(is bool) int {
	if is {
		return 1
	}
	return 0
}

// P10.1: a few known rows: lag 1, lag 2, lag 8.
func TestKnownRows(t *testing.T) {
	for _, x := range []struct {
		lag int
		row [][2]int
	}{
		{1, [][2]int{{10, 5}, {10, 7}, {10, 8}, {10, 9}, {10, 9}, {11, 10}, {10, 10}, {9, 9}, {0, 4}, {0, 2}, {0, 1}, {0, 0}, {0, 0}, {-1, -1}, {0, -1}, {1, 0}, {1, 0}, {2, 1}}},
		{2, [][2]int{{16, 4}, {16, 7}, {16, 9}, {40, 16}, {16, 16}, {-1, 11}, {-1, 8}, {-100, -19}, {-19, -19}, {-18, -19}, {-15, -18}}},
		{3, [][2]int{{-80, -10}, {-80, -19}, {-80, -27}, {0, -24}, {0, -21}, {7, -18}, {-18, -18}, {-19, -19}}},
		{8, [][2]int{{256, 1}, {256, 1}, {257, 2}, {-254, 1}, {-254, 0}, {255, 0}, {-1, -1}, {254, -1}, {255, 0}, {100000, 390}, {-100000, -3}}},
	} {
		f := made(t, x.lag, unset)
		for _, y := range x.row {
			comes(t, f, y[0], y[1], false)
		}
	}
}

// someLevels are levels that any lag's filter can stand at.
func someLevels() []int {
	return []int{0, 1, -1, 2, -2, 100, -100, 257, -257, 65535, -65536, 1 << 20, -1 << 20, 1<<24 - 1, -1 << 24}
}

// P10.1: a difference at the level moves it nowhere, at each lag.
func TestAtLevel(t *testing.T) {
	for lag := range 9 {
		for _, level := range someLevels() {
			f := standing(t, lag, unset, level)
			for range 3 {
				comes(t, f, level, level, false)
			}
		}
	}
}

// P10.1: one above the level moves it nowhere but with a lag of 0; one below it takes it one down, whatever the lag.
func TestOneBesideLevel(t *testing.T) {
	for lag := range 9 {
		up := one(lag == 0)
		for _, level := range someLevels() {
			comes(t, standing(t, lag, unset, level), level+1, level+up, false)
			comes(t, standing(t, lag, unset, level), level-1, level-1, false)
		}
	}
}

// P10.1: each difference that is less than 2^lag above the level moves it nowhere, each so far below it takes it one down.
func TestLessThanLagBesideLevel(t *testing.T) {
	for lag := range 9 {
		for _, level := range someLevels() {
			up, down := standing(t, lag, unset, level), standing(t, lag, unset, level)
			for by := 1; by < 1<<lag; by++ {
				comes(t, up, level+by, level, false)
				comes(t, down, down.Level()-by, level-by, false)
			}
		}
	}
}

// P10.1: just 2^lag above and below the level, one more, twice that, and one less than that.
func TestLagBesideLevel(t *testing.T) {
	for lag := 1; lag < 9; lag++ {
		p := 1 << lag
		for _, level := range someLevels() {
			for _, x := range [][2]int{{p, 1}, {-p, -1}, {p + 1, 1}, {-p - 1, -2}, {2 * p, 2}, {-2 * p, -2}, {2*p - 1, 1}, {1 - 2*p, -2}, {-2*p - 1, -3}, {3*p - 1, 2}, {7 * p, 7}, {-7 * p, -7}} {
				comes(t, standing(t, lag, unset, level), level+x[0], level+x[1], false)
			}
		}
	}
}

// P10.1: differences above and below the level, near and far, at each lag, by the document's words.
func TestBesideLevel(t *testing.T) {
	for lag := range 9 {
		for _, level := range someLevels() {
			for _, by := range []int{3, 10, 255, 256, 257, 1000, 65536, 123456789, 1 << 30, 1 << 31, far - 1<<24} {
				holds(t, standing(t, lag, 1<<24, level), lag, 1<<24, []int{level + by})
				holds(t, standing(t, lag, 1<<24, level), lag, 1<<24, []int{level - by})
			}
		}
	}
}

// P10.1: with a lag of 0 the level is the difference.
func TestLagOfZero(t *testing.T) {
	f := made(t, 0, 10)
	for _, d := range []int{0, 1, -1, 10, 11, 11, -10, -11, 5, 6, 5, 0, most, most + 1, -most - 1, far, -far, far - 1, 1 - far, 0} {
		comes(t, f, d, d, d > 10 || d < -10)
		levels(t, f, d)
	}
}

// P10.1: -2^32, and 2^32, are differences; what is outside these is ErrArg and false, and the level stays, as the next Come tells too.
func TestNoDifference(t *testing.T) {
	for lag := range 9 {
		p := 1 << lag
		for _, level := range []int{0, 1, -1, 100, -100, 1 << 24, -1 << 24} {
			for _, d := range beyond() {
				f := standing(t, lag, 10, level)
				over := level > 10 || level < -10
				refuses(t, f, d)
				refuses(t, f, d)
				comes(t, f, level, level, over)
				refuses(t, f, d)
				comes(t, f, level+p, level+1, level+1 > 10 || level+1 < -10)
				refuses(t, f, d)
				comes(t, f, level+1-p, level, over)
				clears(t, f)
				refuses(t, f, d)
				comes(t, f, -p, -1, false)
			}
		}
	}
}

// P10.1: a first difference, just at an end of these, and one outside: at each lag.
func TestEndsOfDifferences(t *testing.T) {
	for lag := range 9 {
		for _, way := range []int{1, -1} {
			f := made(t, lag, 1<<23)
			refuses(t, f, way*(far+1))
			level := way * (far >> lag)
			comes(t, f, way*far, level, true)
			refuses(t, f, way*(far+1))
			refuses(t, f, -way*(far+1))
			levels(t, f, level)
			holds(t, f, lag, 1<<23, []int{way * far, -way * far, way * (far - 1), -way * (far - 1)})
		}
	}
}

// P10.1: a level just at the bound is not over it, one above it is, on both sides of 0, at each lag.
func TestBound(t *testing.T) {
	for lag := range 9 {
		p := 1 << lag
		for _, bound := range []int{0, 1, 2, 9, 75, 65535, 1<<24 - 1} {
			for _, x := range []struct {
				level int
				over  bool
			}{{bound - 1, bound == 0}, {bound, false}, {bound + 1, true}, {-bound, false}, {1 - bound, bound == 0}, {-bound - 1, true}, {0, false}} {
				f := made(t, lag, bound)
				comes(t, f, x.level*p, x.level, x.over)
				comes(t, f, x.level, x.level, x.over)
			}
		}
	}
}

// P10.1: a level that goes over the bound, stays there, and comes back, on both sides of 0: each Come tells how it is now.
func TestOverAndBack(t *testing.T) {
	for lag := range 9 {
		p := 1 << lag
		for _, way := range []int{1, -1} {
			f := made(t, lag, 5)
			for level := 1; level <= 8; level++ {
				comes(t, f, way*(level-1)+way*p, way*level, level > 5)
			}
			for level := 7; level >= 0; level-- {
				comes(t, f, way*(level+1)-way*p, way*level, level > 5)
			}
		}
	}
}

// P10.1: it is the level that is held against the bound, not the difference, nor how far it moved.
func TestLevelIsBoundNotDifference(t *testing.T) {
	f := made(t, 2, 10)
	comes(t, f, 43, 10, false)
	comes(t, f, 10, 10, false)
	comes(t, f, 14, 11, true)
	comes(t, f, 0, 8, false)
	comes(t, f, -79, -14, true)
	comes(t, f, 10, -8, false)
	comes(t, f, -16, -10, false)
	comes(t, f, -11, -11, true)
	comes(t, f, -11, -11, true)
	comes(t, f, -8, -11, true)
	comes(t, f, -7, -10, false)
}

// P10.1: a bound of 0: any level but 0 is over it.
func TestBoundOfZero(t *testing.T) {
	for lag := range 9 {
		p := 1 << lag
		f := made(t, lag, 0)
		comes(t, f, 0, 0, false)
		if lag > 0 {
			comes(t, f, 1, 0, false)
		}
		comes(t, f, p-1, 0, false)
		comes(t, f, p, 1, true)
		comes(t, f, 1, 1, true)
		comes(t, f, 0, 0, false)
		comes(t, f, -1, -1, true)
		comes(t, f, -1, -1, true)
		comes(t, f, p-1, 0, false)
	}
}

// P10.1: a bound of 2^31 less 1: that level is not over it, one more is, on both sides of 0.
func TestGreatestBound(t *testing.T) {
	f := made(t, 0, most)
	for _, x := range []struct {
		d    int
		over bool
	}{{most, false}, {most + 1, true}, {-most, false}, {-most - 1, true}, {0, false}, {far, true}, {-far, true}, {most - 1, false}} {
		comes(t, f, x.d, x.d, x.over)
	}
	f = made(t, 1, most)
	comes(t, f, far-2, most, false)
	comes(t, f, most+2, most+1, true)
	clears(t, f)
	comes(t, f, 2-far, -most, false)
	comes(t, f, -most-1, -most-1, true)
}

// P10.1: from -2^32 to 2^32 in one difference, and back, at each lag, with the level there, as near as it gets.
func TestFromEndToEnd(t *testing.T) {
	for lag := range 9 {
		p := 1 << lag
		f := made(t, lag, 0)
		settles(t, f, -far, -far)
		comes(t, f, far, -far+2*far/p, lag != 1)
		settles(t, f, far, far-p+1)
		comes(t, f, -far, far-p+1-2*far/p, true)
		settles(t, f, -far, -far)
		comes(t, f, -far, -far, true)
	}
}

// P10.1: from -2^32 to 2^32 and back, one behind the other, at each lag, from 0 on.
func TestEndsInTurn(t *testing.T) {
	for lag := range 9 {
		f := made(t, lag, 75)
		a, b, c := far>>lag, far>>(2*lag), far>>(3*lag)
		first, second, third := -a, b, b-a-c
		if lag == 0 {
			first, second, third = -far, far, -far
		}
		comes(t, f, -far, first, true)
		comes(t, f, far, second, true)
		comes(t, f, -far, third, true)
	}
}

// settles lets a difference come till the level stays, which must be at a chosen one, and each time nearer to it.
func settles(t testing.TB, f *Filter, d, at int) {
	t.Helper()
	for range 20000 {
		from := f.Level()
		if _, e := f.Come(d); e != api.OK {
			t.Fatalf("Come(%d) = %d", d, e)
		}
		got := f.Level()
		if got == from {
			levels(t, f, at)
			return
		}
		if up := got > from; up != (at > from) || up && got > at || !up && got < at {
			t.Fatalf("from %d: behind Come(%d) Level() = %d, on the way to %d", from, d, got, at)
		}
	}
	t.Fatalf("Come(%d): the level does not stay", d)
}

// P10.1, P10.2: a difference that stays: reached from above, and from below to less than 2^lag of it.
func TestDifferenceThatStays(t *testing.T) {
	for lag := range 9 {
		p := 1 << lag
		for _, d := range []int{0, 1, -1, 9, -9, 1000, -1000, most, -most - 1, far - 1, -far + 512} {
			f := made(t, lag, unset)
			settles(t, f, far, far-p+1)
			settles(t, f, d, min(d, far-p+1))
			settles(t, f, -far, -far)
			settles(t, f, d, d-p+1)
			settles(t, f, d, d-p+1)
		}
	}
}

// P10.1: a difference that stays, from a new filter: from below it stays short of it, and over the bound only behind it.
func TestStaysShort(t *testing.T) {
	for _, x := range []struct{ lag, d, at int }{{0, 75, 75}, {1, 75, 74}, {2, 75, 72}, {3, 75, 68}, {8, 300, 45}, {8, 255, 0}, {8, 256, 1}, {1, -75, -75}, {3, -75, -75}, {8, -1, -1}, {8, -300, -300}} {
		apart := max(x.at, -x.at)
		f := made(t, x.lag, apart)
		settles(t, f, x.d, x.at)
		comes(t, f, x.d, x.at, false)
		if apart > 0 {
			f = made(t, x.lag, apart-1)
			settles(t, f, x.d, x.at)
			comes(t, f, x.d, x.at, true)
		}
	}
}

// P10.2: the level is between what it was, and the difference, at each lag, from each of some levels to any difference near it and far.
func TestBetweenNear(t *testing.T) {
	for lag := range 9 {
		for _, level := range someLevels() {
			for by := -600; by <= 600; by++ {
				between(t, standing(t, lag, unset, level), level+by)
			}
			for _, d := range []int{0, level, far, -far, far - 1, 1 - far, most, -most - 1} {
				between(t, standing(t, lag, unset, level), d)
			}
		}
	}
}

// P10.2: rows of any differences: the level is between, each time, and never more from 0 than they are.
func TestBetweenInRows(t *testing.T) {
	for seed := range 90 {
		draw := drawer(seed)
		wide := 1 << (1 + draw(33))
		f := made(t, seed%9, unset)
		lo, hi := 0, 0
		for range 500 {
			d := min(wide, far) - draw(2*min(wide, far)+1)
			lo, hi = min(lo, d), max(hi, d)
			between(t, f, d)
			if got := f.Level(); got < lo || got > hi {
				t.Fatalf("Level() = %d of differences from %d to %d", got, lo, hi)
			}
		}
	}
}

// P10.2: differences that are never more from 0 than the bound never take the level over it, nor do those on one side take it to the other.
func TestNeverOver(t *testing.T) {
	for seed := range 90 {
		draw := drawer(seed)
		bound := draw(1 << (1 + draw(31)))
		f := made(t, seed%9, bound)
		for range 500 {
			d := []int{bound, -bound, bound - draw(2*bound+1)}[draw(3)]
			if over, e := f.Come(d); over || e != api.OK {
				t.Fatalf("Come(%d) = %t, %d with the bound %d", d, over, e, bound)
			}
		}
		for _, way := range []int{1, -1} {
			clears(t, f)
			for range 200 {
				if f.Come(way * draw(bound+1)); way*f.Level() < 0 {
					t.Fatalf("Level() = %d on the way %d", f.Level(), way)
				}
			}
		}
	}
}

// P10.1: Clear of a new filter, and behind differences: its level is 0, and what Come tells is as of a new one.
func TestClear(t *testing.T) {
	for lag := range 9 {
		p := 1 << lag
		f := made(t, lag, 3)
		clears(t, f)
		clears(t, f)
		for _, d := range []int{4 * p, -4 * p, 1, -1, far, -far} {
			f.Come(d)
			f.Come(d)
			clears(t, f)
			comes(t, f, 0, 0, false)
			comes(t, f, 3*p, 3, false)
			clears(t, f)
			comes(t, f, 3*p, 3, false)
			comes(t, f, 3+p, 4, true)
			clears(t, f)
			comes(t, f, 0, 0, false)
			comes(t, f, -4*p, -4, true)
			clears(t, f)
			clears(t, f)
			comes(t, f, -3*p, -3, false)
			clears(t, f)
		}
	}
}

// P10.1: Clear leaves the lag and the bound.
func TestClearLeavesLagAndBound(t *testing.T) {
	for seed := range 45 {
		draw := drawer(seed)
		lag, bound := seed%9, draw(100)
		f := made(t, lag, bound)
		for range 20 {
			var ds []int
			for range draw(20) {
				ds = append(ds, draw(200<<lag)-100<<lag)
			}
			holds(t, f, lag, bound, ds)
			clears(t, f)
		}
	}
}

// P10.1: Level asks alone: asked ever so often it is the same, and the next Come too.
func TestLevelAsksAlone(t *testing.T) {
	f := made(t, 3, 10)
	for _, x := range []struct {
		d, level int
		over     bool
	}{{80, 10, false}, {80, 18, true}, {0, 15, true}, {-1, 13, true}, {-1, 11, true}, {-1, 9, false}} {
		comes(t, f, x.d, x.level, x.over)
		for range 3 {
			levels(t, f, x.level)
		}
	}
}

// P2: two filters beside each other, alike or not, do not touch each other.
func TestTwoFilters(t *testing.T) {
	for _, x := range []struct{ lag, bound, level int }{{2, 10, 4}, {0, 0, 16}, {8, most, 0}, {4, 1, 1}} {
		a, b := made(t, 2, 10), made(t, x.lag, x.bound)
		comes(t, a, 44, 11, true)
		levels(t, b, 0)
		comes(t, b, 16, x.level, x.level > x.bound)
		levels(t, a, 11)
		comes(t, a, 7, 10, false)
		levels(t, b, x.level)
		clears(t, a)
		levels(t, b, x.level)
		comes(t, a, -44, -11, true)
		clears(t, b)
		levels(t, a, -11)
		refuses(t, b, far+1)
		comes(t, b, 0, 0, false)
		comes(t, a, -11, -11, true)
		levels(t, made(t, 2, 10), 0)
		levels(t, a, -11)
	}
}

// P1, P10.1: on a nil filter ErrArg and false, 0, nothing, whatever comes; New of what may not be gives one.
func TestNilFilter(t *testing.T) {
	wrongLag, _ := New(-1, 0)
	wrongBound, _ := New(0, -1)
	for _, f := range []*Filter{nil, wrongLag, wrongBound} {
		for _, d := range append(beyond(), 0, 1, -1, 5, most, far, -far) {
			refuses(t, f, d)
			clears(t, f)
			levels(t, f, 0)
		}
	}
}

// P10.1, P10.2: all rows of three differences of a small grid, at the lags from 0 to 3, by the document's words.
func TestAllShortRows(t *testing.T) {
	for lag := range 4 {
		for bound := range 4 {
			for a := -12; a <= 12; a++ {
				for b := -12; b <= 12; b++ {
					f := made(t, lag, bound)
					holds(t, f, lag, bound, []int{a, b})
					for c := -12; c <= 12; c++ {
						clears(t, f)
						holds(t, f, lag, bound, []int{a, b, c})
					}
				}
			}
		}
	}
}

// P10.1: long rows of any differences, that stay, jump, and go on slowly, with what is none among them, by the document's words.
func TestAnyRows(t *testing.T) {
	for seed := range 180 {
		draw := drawer(seed)
		lag, wide := seed%9, 1<<(1+draw(32))
		bound := draw(min(wide, most))
		f := made(t, lag, bound)
		at := 0
		for range 400 {
			switch draw(6) {
			case 0:
				at = wide - draw(2*wide+1)
			case 1:
				at = min(far, at+draw(5))
			case 2:
				at = max(-far, at-draw(5))
			case 3:
				at = []int{bound, -bound, bound + 1, -bound - 1, f.Level(), 0}[draw(6)]
			}
			if draw(9) == 0 {
				refuses(t, f, beyond()[draw(len(beyond()))])
			}
			if draw(60) == 0 {
				clears(t, f)
			}
			holds(t, f, lag, bound, []int{at})
		}
	}
}

// P2: the same row is told alike by each filter of the same lag and bound.
func TestSameRowSameAnswers(t *testing.T) {
	for seed := range 45 {
		a, b := made(t, seed%9, 20), made(t, seed%9, 20)
		draw := drawer(seed)
		var ds []int
		for range 200 {
			ds = append(ds, draw(40001)-20000)
		}
		var told []bool
		for _, d := range ds {
			over, _ := a.Come(d)
			told = append(told, over)
		}
		for i, d := range ds {
			if over, e := b.Come(d); over != told[i] || e != api.OK {
				t.Fatalf("at %d: %t, %d", i, over, e)
			}
		}
		levels(t, b, a.Level())
	}
}
