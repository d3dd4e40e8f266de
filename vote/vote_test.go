package vote

import (
	"math"
	"math/big"
	"slices"
	"testing"
)

// The signatures that other layers call.
var (
	_ func(r Rule) bool                                   = Right
	_ func(r Rule, values, weights []int) (n int, _ bool) = Vote
	_                                                     = struct{ Lo, Hi, Clip int }(Rule{})
)

// The ends of ranges, and of values, written out so that a wrong constant of the package does not hide itself.
const (
	least    = -2147483648
	most     = 2147483647
	farthest = 4294967296
)

// wide is the widest range, with the greatest clip.
func wide() Rule { return Rule{Lo: least, Hi: most, Clip: most} }

// ends are numbers that are none of a rule's, some of which have the lower bits of one that is.
func ends() []int {
	return []int{
		most + 1, most + 2, 1<<32 - 1, 1 << 32, 1<<32 + 1, 1<<32 + 5, 1 << 33, 1 << 40, 1<<40 + 1, 1 << 62, math.MaxInt, math.MaxInt - 1,
		least - 1, least - 2, -1<<32 + 1, -1 << 32, -1<<32 - 1, -1<<32 + 5, -1 << 33, -1 << 40, -1<<40 - 1, -1 << 62, math.MinInt, math.MinInt + 1, math.MinInt + 5,
	}
}

// noValues are numbers that are no values, some of which have the lower bits of one that is.
func noValues() []int {
	return []int{
		farthest + 1, farthest + 2, farthest + 5, 1 << 33, 1<<33 + 5, 1<<33 + 7, 1 << 40, 1<<40 + 1, 1<<40 + 5, 1 << 62, math.MaxInt, math.MaxInt - 1,
		-farthest - 1, -farthest - 2, -farthest - 5, -1 << 33, -1<<33 - 5, -1<<33 + 5, -1 << 40, -1<<40 - 1, -1<<40 - 5, -1 << 62, math.MinInt, math.MinInt + 1, math.MinInt + 5,
	}
}

// noWeights are numbers that are no weights, some of which have the lower bits of one that is.
func noWeights() []int {
	return append(ends(), 0, 17, -1, 18, -2, -15, -16, -17, 31, 32, 33, 64, 256, 257, -255, 1<<16+1, most, least)
}

// wrongRules are rules that may not be.
func wrongRules() []Rule {
	out := []Rule{
		{Lo: 1}, {Hi: -1}, {Lo: 6, Hi: 5, Clip: 9}, {Lo: -5, Hi: -6, Clip: 9}, {Lo: 5, Hi: -5, Clip: 10}, {Lo: most, Hi: most - 1}, {Lo: least + 1, Hi: least}, {Lo: most, Hi: least, Clip: most},
		{Clip: -1}, {Lo: -100, Hi: 100, Clip: -1}, {Lo: -100, Hi: 100, Clip: -10}, {Lo: least, Hi: most, Clip: least}, {Lo: least, Hi: most, Clip: -most},
	}
	for _, n := range ends() {
		out = append(out, Rule{Lo: n, Hi: most, Clip: 10}, Rule{Lo: least, Hi: n, Clip: 10}, Rule{Lo: -100, Hi: 100, Clip: n}, Rule{Lo: n, Hi: n, Clip: 10}, Rule{Lo: n, Hi: n, Clip: n}, Rule{Lo: n, Hi: n + 1, Clip: 10})
	}
	return out
}

// rightRules are rules that may be.
func rightRules() []Rule {
	var out []Rule
	for _, clip := range []int{0, 1, 10, 1 << 16, 1 << 30, most - 1, most} {
		for _, x := range [][2]int{{least, most}, {0, 0}, {-100, 100}, {5, 6}, {-6, -5}, {5, 5}, {-5, -5}, {least, least}, {most, most}, {least, least + 1}, {most - 1, most}, {least, 0}, {0, most}, {least + 1, most - 1}} {
			out = append(out, Rule{Lo: x[0], Hi: x[1], Clip: clip})
		}
	}
	return out
}

// votes holds a vote, and that the lists, and what lies behind them in their memory, are as they were.
func votes(t testing.TB, r Rule, values, weights []int, want int) {
	t.Helper()
	got, ok := asked(t, r, values, weights)
	if got != want || !ok {
		t.Fatalf("Vote(%v, %v, %v) = %d, %t, not %d", r, values, weights, got, ok, want)
	}
}

// refuses holds that there is no vote.
func refuses(t testing.TB, r Rule, values, weights []int) {
	t.Helper()
	if got, ok := asked(t, r, values, weights); got != 0 || ok {
		t.Fatalf("Vote(%v, %v, %v) = %d, %t", r, values, weights, got, ok)
	}
}

func asked(t testing.TB, r Rule, values, weights []int) (int, bool) {
	t.Helper()
	ownValues, ownWeights := append(slices.Clone(values), 77, -99), append(slices.Clone(weights), 3, 5)
	got, ok := Vote(r, ownValues[:len(values)], ownWeights[:len(weights)])
	if !slices.Equal(ownValues, append(slices.Clone(values), 77, -99)) || !slices.Equal(ownWeights, append(slices.Clone(weights), 3, 5)) {
		t.Fatalf("Vote(%v, %v, %v) wrote: %v, %v", r, values, weights, ownValues, ownWeights)
	}
	return got, ok
}

// voted is the vote, by the document's words, with numbers of any size.
func voted(r Rule, values, weights []int) int {
	mid := big.NewInt(int64(middle(values)))
	clip := big.NewInt(int64(r.Clip))
	from, to := new(big.Int).Sub(mid, clip), new(big.Int).Add(mid, clip)
	sum, all := new(big.Int), new(big.Int)
	for i, n := range values {
		weight := big.NewInt(int64(weights[i]))
		sum.Add(sum, weight.Mul(weight, between(big.NewInt(int64(n)), from, to)))
		all.Add(all, big.NewInt(int64(weights[i])))
	}
	// Div rounds down where what it divides by is above 0.
	return int(between(sum.Div(sum, all), big.NewInt(int64(r.Lo)), big.NewInt(int64(r.Hi))).Int64())
}

func between(n, lo, hi *big.Int) *big.Int {
	if n.Cmp(lo) < 0 {
		return lo
	}
	if n.Cmp(hi) > 0 {
		return hi
	}
	return n
}

// middle is the mid of values, by the document's words.
func middle(values []int) int {
	own := slices.Sorted(slices.Values(values))
	switch len(own) {
	case 1:
		return own[0]
	case 2:
		return half(own[0] + own[1])
	case 3:
		return own[1]
	}
	return half(own[1] + own[2])
}

// half is the greatest number whose double is not above.
func half(n int) int {
	if n < 0 {
		return -((1 - n) / 2)
	}
	return n / 2
}

// holds holds a vote against the document's words, and against what is promised of it.
func holds(t testing.TB, r Rule, values, weights []int) {
	t.Helper()
	votes(t, r, values, weights, voted(r, values, weights))
	near(t, r, values, weights)
}

// near holds P12.2.
func near(t testing.TB, r Rule, values, weights []int) {
	t.Helper()
	got, ok := Vote(r, values, weights)
	if !ok || got < r.Lo || got > r.Hi {
		t.Fatalf("Vote(%v, %v, %v) = %d, %t: outside of the range", r, values, weights, got, ok)
	}
	mid := middle(values)
	if mid < r.Lo || mid > r.Hi {
		return
	}
	if got < mid-r.Clip || got > mid+r.Clip {
		t.Fatalf("Vote(%v, %v, %v) = %d: too far from the mid %d", r, values, weights, got, mid)
	}
	if got < slices.Min(values) || got > slices.Max(values) {
		t.Fatalf("Vote(%v, %v, %v) = %d: outside of the values", r, values, weights, got)
	}
}

// drawer gives numbers from 0 on that hang on seed alone.
func drawer(seed int) func(below int) int {
	state := uint64(seed)*2862933555777941757 + 3037000493
	return func(below int) int {
		state = state*6364136223846793005 + 1442695040888963407
		return int(state>>29) % below
	}
}

// alike is a list of one number, so many times.
func alike(count, n int) []int { return slices.Repeat([]int{n}, count) }

// with is a list with another number at a place.
func with(l []int, at, n int) []int {
	own := slices.Clone(l)
	own[at] = n
	return own
}

// turned is a list whose first elements stand at its end.
func turned(l []int, by int) []int { return append(slices.Clone(l[by:]), l[:by]...) }

// orders are all orders of so many places.
func orders(count int) [][]int {
	if count == 0 {
		return [][]int{nil}
	}
	var out [][]int
	for _, shorter := range orders(count - 1) {
		for at := range count {
			out = append(out, slices.Insert(slices.Clone(shorter), at, count-1))
		}
	}
	return out
}

// picked are the elements of a list in an order.
func picked(l, order []int) []int {
	var out []int
	for _, at := range order {
		out = append(out, l[at])
	}
	return out
}

// lists are lists of 1 to 4 values that may be, with weights.
func lists() [][2][]int {
	return [][2][]int{{{5}, {2}}, {{5, -6}, {2, 16}}, {{5, -6, 7}, {2, 1, 3}}, {{5, -6, 7, 9}, {2, 1, 16, 3}}}
}

// P12.1: Right with a Lo and a Hi at the ends of values, each alone and both, and with each clip from 0 to 2^31 less 1.
func TestRight(t *testing.T) {
	for _, r := range rightRules() {
		if !Right(r) {
			t.Errorf("Right(%v)", r)
		}
	}
}

// P12.1: Right with a Lo, a Hi, or a Clip outside, by one, by far, and at the ends of an int; with a Lo above Hi by one, and by far.
func TestRightOfWrongRules(t *testing.T) {
	for _, r := range wrongRules() {
		if Right(r) {
			t.Errorf("Right(%v)", r)
		}
	}
}

// P12.1: Right just at each edge, and one beside it.
func TestRightAtEdges(t *testing.T) {
	for _, x := range []struct {
		r  Rule
		is bool
	}{
		{Rule{}, true}, {wide(), true},
		{Rule{Lo: -2147483648}, true}, {Rule{Lo: -2147483649}, false}, {Rule{Lo: math.MinInt}, false}, {Rule{Lo: math.MaxInt, Hi: math.MaxInt}, false}, {Rule{Lo: 2147483648, Hi: 2147483648}, false}, {Rule{Lo: 2147483647, Hi: 2147483647}, true},
		{Rule{Hi: 2147483647}, true}, {Rule{Hi: 2147483648}, false}, {Rule{Hi: math.MaxInt}, false}, {Rule{Lo: math.MinInt, Hi: math.MinInt}, false}, {Rule{Lo: -2147483649, Hi: -2147483649}, false}, {Rule{Lo: -2147483648, Hi: -2147483648}, true},
		{Rule{Lo: 7, Hi: 7}, true}, {Rule{Lo: 7, Hi: 8}, true}, {Rule{Lo: 8, Hi: 7}, false}, {Rule{Lo: -7, Hi: -7}, true}, {Rule{Lo: -7, Hi: -8}, false}, {Rule{Lo: 2147483647, Hi: -2147483648}, false},
		{Rule{Clip: 0}, true}, {Rule{Clip: 2147483647}, true}, {Rule{Clip: -1}, false}, {Rule{Clip: 2147483648}, false}, {Rule{Clip: math.MinInt}, false}, {Rule{Clip: math.MaxInt}, false},
	} {
		if Right(x.r) != x.is {
			t.Errorf("Right(%v) is not %t", x.r, x.is)
		}
	}
}

// P12.1: a rule that may not be: no vote, of values that have one else.
func TestVoteWithWrongRules(t *testing.T) {
	for _, x := range lists() {
		votes(t, Rule{Lo: 4, Hi: 4, Clip: 10}, x[0], x[1], 4)
		for _, r := range wrongRules() {
			refuses(t, r, x[0], x[1])
		}
	}
}

// P12.1: the document's example, and ordinary votes of 1 to 4 values.
func TestVote(t *testing.T) {
	r := Rule{Lo: -100, Hi: 100, Clip: 10}
	for _, x := range []struct {
		values, weights []int
		want            int
	}{
		{[]int{0, 3, 1000}, []int{1, 1, 2}, 7},
		{[]int{0}, []int{1}, 0}, {[]int{42}, []int{1}, 42}, {[]int{42}, []int{16}, 42}, {[]int{-42}, []int{3}, -42}, {[]int{101}, []int{7}, 100}, {[]int{-101}, []int{7}, -100},
		{[]int{10, 20}, []int{1, 1}, 15}, {[]int{10, 20}, []int{3, 1}, 12}, {[]int{10, 20}, []int{1, 3}, 17}, {[]int{-10, -20}, []int{1, 3}, -18}, {[]int{10, 50}, []int{1, 1}, 30}, {[]int{10, 50}, []int{1, 3}, 35}, {[]int{10, 50}, []int{16, 1}, 21},
		{[]int{10, 11, 12}, []int{1, 1, 1}, 11}, {[]int{10, 11, 12}, []int{1, 1, 2}, 11}, {[]int{10, 11, 12}, []int{1, 1, 3}, 11}, {[]int{10, 11, 12}, []int{1, 1, 16}, 11}, {[]int{10, 20, 12}, []int{1, 2, 1}, 15}, {[]int{12, 90, 10}, []int{1, 1, 1}, 14}, {[]int{12, -90, 10}, []int{1, 1, 1}, 7},
		{[]int{1, 2, 3, 4}, []int{1, 1, 1, 1}, 2}, {[]int{1, 2, 3, 4}, []int{1, 1, 1, 9}, 3}, {[]int{4, 2, 3, 1}, []int{9, 1, 1, 1}, 3}, {[]int{-1, -2, -3, -4}, []int{1, 1, 1, 1}, -3}, {[]int{1, 2, 3, 4000}, []int{1, 1, 1, 1}, 4}, {[]int{1, 2, 3, -4000}, []int{1, 1, 1, 1}, -1}, {[]int{-70, 30, 40, 80}, []int{1, 2, 3, 4}, 38},
	} {
		votes(t, r, x.values, x.weights, x.want)
		holds(t, r, x.values, x.weights)
	}
}

// P12.1: no values, nil and not, with no weights and with some: no vote.
func TestVoteOfNone(t *testing.T) {
	for _, r := range rightRules() {
		for _, none := range [][]int{nil, {}, make([]int, 0, 4), []int{5, 6, 7}[:0]} {
			for _, weights := range [][]int{nil, {}, {1}, {1, 1, 1}, {1, 1, 1, 1, 1}, {0}, []int{5, 6}[:0]} {
				if n, ok := Vote(r, none, weights); n != 0 || ok {
					t.Fatalf("Vote(%v, %v, %v) = %d, %t", r, none, weights, n, ok)
				}
			}
			for _, values := range [][]int{{1}, {1, 2}, {1, 2, 3}, {1, 2, 3, 4}, {1, 2, 3, 4, 5}} {
				if n, ok := Vote(r, values, none); n != 0 || ok {
					t.Fatalf("Vote(%v, %v, %v) = %d, %t", r, values, none, n, ok)
				}
			}
		}
	}
}

// P12.1: 1 to 4 values, with as many weights: a vote; 5 and more, fewer weights, or more: none.
func TestCounts(t *testing.T) {
	for count := range 40 {
		for weights := range 40 {
			values := alike(count, 5)
			if count == weights && count >= 1 && count <= 4 {
				votes(t, wide(), values, alike(weights, 3), 5)
			} else {
				refuses(t, wide(), values, alike(weights, 3))
			}
		}
	}
	for _, count := range []int{100, 1 << 16, 1<<16 + 3} {
		refuses(t, wide(), alike(count, 5), alike(count, 3))
		refuses(t, wide(), alike(3, 5), alike(count, 3))
		refuses(t, wide(), alike(count, 5), alike(3, 3))
	}
}

// P12.1: a value of -2^32, and of 2^32, in each place: a vote; one outside these, and at the ends of an int: none.
func TestEndsOfValues(t *testing.T) {
	for _, x := range lists() {
		for at := range x[0] {
			for _, n := range []int{farthest, farthest - 1, -farthest, 1 - farthest, 1 << 31, -1 << 31, -1<<31 - 1, 0} {
				holds(t, wide(), with(x[0], at, n), x[1])
				holds(t, Rule{Lo: -100, Hi: 100, Clip: 10}, with(x[0], at, n), x[1])
			}
			for _, n := range noValues() {
				refuses(t, wide(), with(x[0], at, n), x[1])
				refuses(t, Rule{Lo: -100, Hi: 100}, with(x[0], at, n), x[1])
			}
		}
		for _, n := range noValues() {
			refuses(t, wide(), alike(len(x[0]), n), x[1])
		}
	}
	r := Rule{Lo: -100, Hi: 100, Clip: 10}
	votes(t, r, []int{4294967296}, []int{1}, 100)
	votes(t, r, []int{-4294967296}, []int{1}, -100)
	votes(t, r, []int{4, 4294967296, 5}, []int{1, 1, 1}, 8)
	votes(t, r, []int{-4294967296, 5, 4}, []int{1, 1, 1}, 1)
	votes(t, r, []int{5, 4, 7, -4294967296}, []int{1, 1, 1, 1}, 2)
	votes(t, r, []int{-4294967296, 4294967296}, []int{1, 1}, 0)
	votes(t, r, []int{-4294967296, 4294967296}, []int{1, 2}, 3)
	votes(t, wide(), []int{-4294967296, 4294967296}, []int{1, 2}, 715827882)
	refuses(t, r, []int{4294967297}, []int{1})
	refuses(t, r, []int{-4294967297}, []int{1})
	refuses(t, r, []int{4, 5, 4294967297}, []int{1, 1, 1})
	refuses(t, r, []int{4, -4294967297, 4, 4}, []int{1, 1, 1, 1})
}

// P12.1: a weight of 1, and of 16, and each between, in each place: a vote; 0, 17, -1, and the ends of an int: none.
func TestEndsOfWeights(t *testing.T) {
	for _, x := range lists() {
		for at := range x[0] {
			for weight := 1; weight <= 16; weight++ {
				holds(t, wide(), x[0], with(x[1], at, weight))
				holds(t, wide(), x[0], with(alike(len(x[0]), 16), at, weight))
			}
			for _, weight := range noWeights() {
				refuses(t, wide(), x[0], with(x[1], at, weight))
				refuses(t, wide(), alike(len(x[0]), 0), with(alike(len(x[0]), 16), at, weight))
			}
		}
		for _, weight := range noWeights() {
			refuses(t, wide(), x[0], alike(len(x[0]), weight))
		}
	}
	// Weights that come to some that may be, and to none at all.
	refuses(t, wide(), []int{1, 2}, []int{17, -1})
	refuses(t, wide(), []int{1, 2}, []int{-1, 1})
	refuses(t, wide(), []int{1, 2, 3}, []int{1, 0, 1})
	refuses(t, wide(), []int{1, 2, 3, 4}, []int{-1, -1, 1, 1})
}

// P12.1: what is wrong at several places at once is answered alike.
func TestSeveralWrong(t *testing.T) {
	for _, r := range append(wrongRules(), wide()) {
		refuses(t, r, nil, []int{1})
		refuses(t, r, []int{farthest + 1}, []int{17})
		refuses(t, r, []int{1, 2, 3, 4, farthest + 1}, []int{0, 1, 1, 1, 17})
		refuses(t, r, []int{math.MinInt, math.MaxInt}, []int{math.MaxInt})
		refuses(t, r, []int{math.MaxInt, math.MaxInt, math.MaxInt, math.MaxInt}, []int{math.MaxInt, math.MaxInt, math.MaxInt, math.MaxInt})
		refuses(t, r, []int{math.MinInt, math.MinInt, math.MinInt}, []int{math.MinInt, math.MinInt, math.MinInt})
	}
}

// P12.1: a mid of two values whose sum is odd, and of four, is rounded down, above 0 and below it; with a clip of 0 it is the vote.
func TestOddMids(t *testing.T) {
	r := Rule{Lo: -100, Hi: 100}
	for _, x := range []struct {
		values []int
		want   int
	}{
		{[]int{4, 7}, 5}, {[]int{7, 4}, 5}, {[]int{0, 1}, 0}, {[]int{1, 0}, 0}, {[]int{-1, 0}, -1}, {[]int{0, -1}, -1}, {[]int{-4, -7}, -6}, {[]int{-8, 5}, -2}, {[]int{8, -5}, 1}, {[]int{4, 8}, 6}, {[]int{-4, -8}, -6},
		{[]int{1, 4, 7, 90}, 5}, {[]int{7, 90, 1, 4}, 5}, {[]int{-1, -4, -7, -90}, -6}, {[]int{-90, 0, -1, 90}, -1}, {[]int{-90, 0, 1, 90}, 0}, {[]int{5, 90, -8, -90}, -2}, {[]int{1, 4, 8, 90}, 6}, {[]int{4, 4, 4, 7}, 4}, {[]int{4, 4, 7, 7}, 5},
		{[]int{farthest, 1 - farthest}, 0}, {[]int{farthest - 1, -farthest}, -1}, {[]int{farthest, 1, -2, -farthest}, -1}, {[]int{farthest, farthest - 1, -farthest, -farthest}, -1}, {[]int{farthest, farthest, 1 - farthest, -farthest}, 0},
	} {
		for weight := 1; weight <= 16; weight++ {
			votes(t, r, x.values, alike(len(x.values), weight), x.want)
			votes(t, r, x.values, with(alike(len(x.values), 1), 0, weight), x.want)
			votes(t, r, x.values, with(alike(len(x.values), 16), len(x.values)-1, weight), x.want)
		}
	}
	// The clip is counted from the floor of half the sum.
	votes(t, Rule{Lo: -100, Hi: 100, Clip: 1}, []int{0, 9}, []int{1, 1}, 4)
	votes(t, Rule{Lo: -100, Hi: 100, Clip: 1}, []int{0, 9}, []int{1, 3}, 4)
	votes(t, Rule{Lo: -100, Hi: 100, Clip: 1}, []int{0, 9}, []int{1, 16}, 4)
	votes(t, Rule{Lo: -100, Hi: 100, Clip: 2}, []int{0, -9}, []int{1, 1}, -5)
	votes(t, Rule{Lo: -100, Hi: 100, Clip: 4}, []int{0, -9}, []int{16, 1}, -2)
	votes(t, Rule{Lo: -100, Hi: 100, Clip: 3}, []int{90, 0, 5, -90}, []int{1, 1, 1, 1}, 2)
	votes(t, Rule{Lo: -100, Hi: 100, Clip: 3}, []int{90, 0, -5, -90}, []int{1, 1, 1, 1}, -3)
}

// P12.1: a value just at the clip from the mid, one nearer and one further, on both sides, in each place.
func TestAtClip(t *testing.T) {
	for _, clip := range []int{1, 2, 10, 1000, 1 << 20, most - 1, most} {
		for _, mid := range []int{0, 5, -5, 1 << 20, -1 << 20} {
			for _, way := range []int{1, -1} {
				for _, x := range []struct{ apart, counts int }{{clip - 1, clip - 1}, {clip, clip}, {clip + 1, clip}, {clip + 2, clip}, {2 * clip, clip}, {farthest - 1<<20, clip}} {
					n, sum := max(-farthest, min(farthest, mid+way*x.apart)), 3*mid+way*x.counts
					for at := range 3 {
						values := with(alike(3, mid), at, n)
						votes(t, Rule{Lo: least, Hi: most, Clip: clip}, values, alike(3, 1), third(sum))
						votes(t, Rule{Lo: least, Hi: most, Clip: clip}, values, alike(3, 16), third(sum))
						holds(t, Rule{Lo: least, Hi: most, Clip: clip}, values, with(alike(3, 1), at, 16))
						holds(t, Rule{Lo: least, Hi: most, Clip: clip}, append(values, mid), []int{1, 2, 3, 4})
					}
				}
			}
		}
	}
	r := Rule{Lo: -100, Hi: 100, Clip: 10}
	votes(t, r, []int{20, 20, 29}, []int{1, 1, 1}, 23)
	votes(t, r, []int{20, 20, 29}, []int{1, 1, 16}, 28)
	votes(t, r, []int{20, 20, 30}, []int{1, 1, 8}, 28)
	votes(t, r, []int{20, 20, 31}, []int{1, 1, 8}, 28)
	votes(t, r, []int{20, 20, 31}, []int{1, 1, 16}, 28)
	votes(t, r, []int{20, 11, 20}, []int{1, 16, 1}, 12)
	votes(t, r, []int{20, 10, 20}, []int{1, 16, 1}, 11)
	votes(t, r, []int{20, 9, 20}, []int{1, 16, 1}, 11)
	// Two at the clip on both sides, and each further on one of these.
	votes(t, r, []int{10, 20, 30}, []int{1, 1, 3}, 24)
	votes(t, r, []int{10, 20, 41}, []int{1, 1, 3}, 24)
	votes(t, r, []int{-11, 20, 30}, []int{1, 1, 3}, 24)
	votes(t, r, []int{-11, 20, 77}, []int{3, 1, 1}, 16)
}

// third is the greatest number of which the triple is not above.
func third(n int) int {
	for n%3 != 0 {
		n--
	}
	return n / 3
}

// P12.1, P12.2: with a clip of 0 the vote is the mid, where that is in the range, whatever the weights.
func TestClipOfZero(t *testing.T) {
	for seed := range 200 {
		draw := drawer(seed)
		count, bound := 1+draw(4), 1<<(1+draw(31))
		values, weights := make([]int, count), make([]int, count)
		for range 20 {
			for i := range count {
				values[i], weights[i] = bound-1-draw(2*bound-1), 1+draw(16)
			}
			votes(t, Rule{Lo: least, Hi: most}, values, weights, middle(values))
		}
	}
	votes(t, Rule{Lo: -100, Hi: 100}, []int{0, 9, 50}, []int{1, 2, 3}, 9)
	votes(t, Rule{Lo: -100, Hi: 100}, []int{0, 101, 500}, []int{16, 1, 1}, 100)
	votes(t, Rule{Lo: -100, Hi: 100}, []int{0, -101, -500}, []int{16, 1, 1}, -100)
}

// P12.1: the greatest clip cuts what is 2^31 from the mid, and nothing nearer.
func TestGreatestClip(t *testing.T) {
	r := wide()
	votes(t, r, []int{0, 0, 2147483646}, []int{1, 1, 16}, 1908874352)
	votes(t, r, []int{0, 0, 2147483647}, []int{1, 1, 16}, 1908874352)
	votes(t, r, []int{0, 0, 2147483647}, []int{1, 1, 1}, 715827882)
	votes(t, r, []int{0, 0, 2147483648}, []int{1, 1, 1}, 715827882)
	votes(t, r, []int{0, 0, 2147483650}, []int{1, 1, 1}, 715827882)
	votes(t, r, []int{0, 0, 4294967296}, []int{1, 1, 1}, 715827882)
	votes(t, r, []int{0, 0, -2147483647}, []int{1, 1, 1}, -715827883)
	votes(t, r, []int{0, 0, -2147483650}, []int{1, 1, 1}, -715827883)
	votes(t, r, []int{0, 0, -4294967296}, []int{1, 1, 1}, -715827883)
	votes(t, r, []int{most, least}, []int{1, 1}, -1)
	votes(t, r, []int{most, least}, []int{16, 1}, 1894838511)
	votes(t, r, []int{most, least}, []int{1, 16}, -1894838514)
	votes(t, r, []int{most, 0, least}, []int{1, 1, 1}, 0)
	votes(t, r, []int{most, -1, least}, []int{1, 1, 1}, -1)
	votes(t, Rule{Lo: least, Hi: most, Clip: most - 1}, []int{0, 0, 2147483647}, []int{1, 1, 1}, 715827882)
	votes(t, Rule{Lo: least, Hi: most, Clip: most - 1}, []int{0, 0, -2147483647}, []int{1, 1, 1}, -715827882)
}

// P12.1: a weighted sum that leaves a rest is divided down, above 0 and below it.
func TestRests(t *testing.T) {
	r := Rule{Lo: -100, Hi: 100, Clip: 50}
	for _, x := range []struct {
		values, weights []int
		up, down        int
	}{
		{[]int{0, 1}, []int{1, 1}, 0, -1}, {[]int{0, 1}, []int{1, 2}, 0, -1}, {[]int{0, 1}, []int{1, 16}, 0, -1}, {[]int{0, 1}, []int{16, 1}, 0, -1}, {[]int{1, 2}, []int{1, 2}, 1, -2}, {[]int{1, 2}, []int{2, 1}, 1, -2},
		{[]int{1, 1, 2}, []int{1, 1, 1}, 1, -2}, {[]int{1, 2, 2}, []int{1, 1, 1}, 1, -2}, {[]int{2, 2, 2}, []int{1, 1, 1}, 2, -2}, {[]int{1, 2, 3}, []int{1, 1, 1}, 2, -2}, {[]int{1, 2, 4}, []int{1, 1, 1}, 2, -3}, {[]int{1, 2, 5}, []int{1, 1, 1}, 2, -3}, {[]int{1, 2, 6}, []int{1, 1, 1}, 3, -3},
		{[]int{0, 0, 0, 1}, []int{1, 1, 1, 1}, 0, -1}, {[]int{0, 0, 0, 1}, []int{16, 16, 16, 1}, 0, -1}, {[]int{0, 0, 0, 1}, []int{1, 1, 1, 16}, 0, -1}, {[]int{5, 6, 7, 8}, []int{1, 1, 1, 1}, 6, -7}, {[]int{5, 6, 7, 8}, []int{1, 2, 3, 4}, 7, -7}, {[]int{5, 6, 7, 8}, []int{4, 3, 2, 1}, 6, -6}, {[]int{5, 6, 7, 9}, []int{1, 2, 3, 4}, 7, -8},
	} {
		var less []int
		for _, n := range x.values {
			less = append(less, -n)
		}
		votes(t, r, x.values, x.weights, x.up)
		votes(t, r, less, x.weights, x.down)
	}
	// Each rest from 0 to 63 of the greatest weights' sum.
	for n := range 65 {
		votes(t, r, []int{20, 20, 20, 20 + n/16 + 1}, []int{16, 16, 16, 16}, 20+(n/16+1)/4)
		votes(t, r, []int{-20, -20, -20, -20 - n}, []int{16, 16, 16, 16}, -20-(min(n, 50)+3)/4)
	}
}

// P12.1: weights that are all alike tell the same, whichever they are; others do not.
func TestWeights(t *testing.T) {
	r := Rule{Lo: -1000, Hi: 1000, Clip: 500}
	for _, values := range [][]int{{7}, {7, 100}, {7, 100, -33}, {7, 100, -33, 250}} {
		want := voted(r, values, alike(len(values), 1))
		for weight := 1; weight <= 16; weight++ {
			votes(t, r, values, alike(len(values), weight), want)
		}
	}
	votes(t, r, []int{7, 100}, []int{1, 1}, 53)
	votes(t, r, []int{7, 100}, []int{1, 2}, 69)
	votes(t, r, []int{7, 100}, []int{2, 1}, 38)
	votes(t, r, []int{7, 100}, []int{2, 4}, 69)
	votes(t, r, []int{7, 100, -33, 250}, []int{1, 2, 3, 4}, 110)
	votes(t, r, []int{7, 100, -33, 250}, []int{4, 3, 2, 1}, 51)
	votes(t, r, []int{7, 100, -33, 250}, []int{1, 1, 16, 1}, -9)
	// Each step of a weight draws the vote on towards its value.
	for at, values := range [][]int{{900, 0, 0}, {0, 900, 0}, {0, 0, 900}} {
		for weight := 1; weight <= 16; weight++ {
			votes(t, r, values, with(alike(3, 1), at, weight), 500*weight/(weight+2))
		}
	}
}

// P12.1: a mid in the range, just at Lo and at Hi, and outside on both sides, by one and by far.
func TestMidAndRange(t *testing.T) {
	r := Rule{Lo: -20, Hi: 30, Clip: 10}
	for _, x := range []struct{ mid, want int }{{0, 0}, {29, 29}, {30, 30}, {31, 30}, {41, 30}, {1000, 30}, {farthest, 30}, {-19, -19}, {-20, -20}, {-21, -20}, {-31, -20}, {-1000, -20}, {-farthest, -20}} {
		for count := 1; count <= 4; count++ {
			votes(t, r, alike(count, x.mid), alike(count, 3), x.want)
		}
	}
	// What is voted is clamped, not the values, nor the mid: these draw it from beyond the range back into it.
	votes(t, r, []int{31, 31, 21}, []int{1, 1, 1}, 27)
	votes(t, r, []int{31, 31, 20}, []int{1, 1, 16}, 22)
	votes(t, r, []int{35, 35, 28}, []int{1, 1, 6}, 29)
	votes(t, r, []int{40, 40, 0}, []int{1, 1, 16}, 30)
	votes(t, r, []int{39, 39, 0}, []int{1, 1, 16}, 30)
	votes(t, r, []int{38, 38, 0}, []int{1, 1, 16}, 29)
	votes(t, r, []int{38, 38, 0}, []int{1, 1, 4}, 30)
	votes(t, r, []int{-21, -21, 0}, []int{1, 1, 1}, -18)
	votes(t, r, []int{-31, -31, 0}, []int{1, 1, 16}, -20)
	votes(t, r, []int{-29, -29, 0}, []int{1, 1, 16}, -20)
	votes(t, r, []int{-28, -28, 0}, []int{1, 1, 16}, -20)
	votes(t, r, []int{-27, -27, 0}, []int{1, 1, 16}, -19)
	votes(t, r, []int{-100, 90}, []int{1, 1}, -5)
	votes(t, r, []int{-10, 90}, []int{1, 1}, 30)
	votes(t, r, []int{-90, 10}, []int{1, 1}, -20)
	votes(t, r, []int{farthest, farthest - 1, -farthest, 0}, []int{16, 1, 1, 1}, 30)
	votes(t, r, []int{-farthest, 1 - farthest, farthest, 0}, []int{16, 1, 1, 1}, -20)
}

// P12.1: a vote that is clamped at Lo, and at Hi, one that just reaches it, and one that goes one beyond, while the mid is in the range.
func TestClampedVotes(t *testing.T) {
	r := Rule{Lo: -20, Hi: 30, Clip: 10}
	for _, x := range []struct {
		values, weights []int
		want            int
	}{
		{[]int{25, 26, 39}, []int{1, 1, 1}, 29}, {[]int{26, 26, 39}, []int{1, 1, 1}, 29}, {[]int{27, 27, 36}, []int{1, 1, 1}, 30}, {[]int{28, 28, 35}, []int{1, 1, 1}, 30}, {[]int{28, 28, 37}, []int{1, 1, 1}, 30}, {[]int{28, 28, 99}, []int{1, 1, 16}, 30}, {[]int{30, 30, 99}, []int{1, 1, 16}, 30}, {[]int{30, 31, 40}, []int{1, 1, 1}, 30},
		{[]int{-15, -16, -29}, []int{1, 1, 1}, -19}, {[]int{-17, -17, -25}, []int{1, 1, 1}, -20}, {[]int{-17, -17, -26}, []int{1, 1, 1}, -20}, {[]int{-17, -17, -27}, []int{1, 1, 1}, -20}, {[]int{-18, -18, -99}, []int{1, 1, 1}, -20}, {[]int{-18, -18, -99}, []int{1, 1, 16}, -20}, {[]int{-20, -20, -99}, []int{1, 1, 16}, -20},
	} {
		votes(t, r, x.values, x.weights, x.want)
		near(t, r, x.values, x.weights)
	}
	for _, n := range []int{0, 7, -7, most, least} {
		for _, values := range [][]int{{n}, {n - 50, n + 90}, {n, n + 9, n + 9}, {n - 9, n - 9, n, n}, {farthest, farthest, farthest}, {-farthest, -farthest}} {
			votes(t, Rule{Lo: n, Hi: n, Clip: 100}, values, alike(len(values), 2), n)
		}
	}
	votes(t, Rule{Lo: least, Hi: most, Clip: 10}, []int{most, most, most + 10}, []int{1, 1, 16}, most)
	votes(t, Rule{Lo: least, Hi: most, Clip: 10}, []int{least, least, least - 10}, []int{1, 1, 16}, least)
	votes(t, Rule{Lo: least, Hi: most, Clip: 10}, []int{most + 5, most + 5, most - 7}, []int{1, 1, 16}, most-4)
	votes(t, Rule{Lo: least, Hi: most, Clip: 10}, []int{least - 5, least - 5, least + 7}, []int{1, 1, 16}, least+3)
}

// P12.1: the greatest and the least values with the greatest weights, and the least ones.
func TestGreatest(t *testing.T) {
	for count := 1; count <= 4; count++ {
		for _, weight := range []int{1, 16} {
			for _, clip := range []int{0, 1, most} {
				votes(t, Rule{Lo: least, Hi: most, Clip: clip}, alike(count, farthest), alike(count, weight), most)
				votes(t, Rule{Lo: least, Hi: most, Clip: clip}, alike(count, -farthest), alike(count, weight), least)
				votes(t, Rule{Lo: least, Hi: most, Clip: clip}, alike(count, most), alike(count, weight), most)
				votes(t, Rule{Lo: least, Hi: most, Clip: clip}, alike(count, least), alike(count, weight), least)
			}
		}
	}
	for _, clip := range []int{0, 1, 1 << 20, most - 1, most} {
		for mask := range 1 << 8 {
			var values, weights []int
			for at := range 4 {
				values = append(values, farthest*(2*(mask>>at&1)-1))
				weights = append(weights, 1+15*(mask>>(4+at)&1))
			}
			for count := 1; count <= 4; count++ {
				holds(t, Rule{Lo: least, Hi: most, Clip: clip}, values[:count], weights[:count])
			}
		}
	}
}

// P12.1: values that are turned with their weights, and in any other order with these, tell the same.
func TestOrderWithWeights(t *testing.T) {
	r := Rule{Lo: -1000, Hi: 1000, Clip: 60}
	for _, x := range []struct{ values, weights []int }{
		{[]int{5}, []int{7}}, {[]int{5, 90}, []int{7, 2}}, {[]int{5, 90, -30}, []int{7, 2, 16}}, {[]int{5, 90, -30, 700}, []int{7, 2, 16, 1}}, {[]int{5, 5, 90, 90}, []int{1, 16, 3, 4}}, {[]int{0, 3, 1000}, []int{1, 1, 2}}, {[]int{farthest, -farthest, 4, 3}, []int{16, 1, 2, 15}},
	} {
		want := voted(r, x.values, x.weights)
		for by := range x.values {
			votes(t, r, turned(x.values, by), turned(x.weights, by), want)
		}
		for _, order := range orders(len(x.values)) {
			votes(t, r, picked(x.values, order), picked(x.weights, order), want)
		}
	}
}

// P12.1: the same values in another order, whose weights stay: each weight is that of the value at its place.
func TestOrderWhoseWeightsStay(t *testing.T) {
	r := Rule{Lo: -1000, Hi: 1000, Clip: 10}
	for _, x := range []struct {
		values []int
		want   int
	}{{[]int{0, 3, 1000}, 7}, {[]int{0, 1000, 3}, 4}, {[]int{3, 0, 1000}, 7}, {[]int{3, 1000, 0}, 4}, {[]int{1000, 0, 3}, 4}, {[]int{1000, 3, 0}, 4}} {
		votes(t, r, x.values, []int{1, 1, 2}, x.want)
	}
	for _, x := range []struct {
		values []int
		want   int
	}{{[]int{0, 10, 20}, 13}, {[]int{20, 10, 0}, 6}, {[]int{10, 20, 0}, 8}, {[]int{10, 0, 20}, 11}, {[]int{0, 20, 10}, 11}, {[]int{20, 0, 10}, 8}} {
		votes(t, r, x.values, []int{1, 2, 3}, x.want)
	}
	for _, order := range orders(4) {
		for _, y := range orders(4) {
			holds(t, r, picked([]int{-7, 0, 4, 33}, order), picked([]int{1, 3, 5, 16}, y))
		}
	}
	// Alike weights: no order tells anything else.
	for _, order := range orders(4) {
		votes(t, r, picked([]int{-7, 0, 4, 33}, order), alike(4, 5), 2)
	}
}

// P12.1, P12.2: equal values, all and some of them: the vote of all equal ones is theirs, whatever the weights and the clip.
func TestEqualValues(t *testing.T) {
	for _, clip := range []int{0, 1, 10, most} {
		r := Rule{Lo: least, Hi: most, Clip: clip}
		for _, n := range []int{0, 1, -1, 7, -7, 1 << 20, -1 << 20, most - 1, most, least, least + 1} {
			for count := 1; count <= 4; count++ {
				for _, weights := range [][]int{alike(4, 1), alike(4, 16), {1, 2, 3, 4}, {16, 1, 7, 1}, {3, 3, 5, 5}} {
					votes(t, r, alike(count, n), weights[:count], n)
					for at := range count {
						for _, other := range []int{n - 1, n + 1, n - 50, n + 50, -n} {
							holds(t, r, with(alike(count, n), at, other), weights[:count])
						}
					}
				}
			}
		}
	}
}

// drawn is a rule, with values in and around its range, and weights.
func drawn(draw func(below int) int) (Rule, []int, []int) {
	bound := 1 << (1 + draw(31))
	a, b := inside(bound-draw(2*bound)), inside(bound-draw(2*bound))
	r := Rule{Lo: min(a, b), Hi: max(a, b), Clip: draw([]int{1, 2, 20, bound, 1 << 31}[draw(5)])}
	count := 1 + draw(4)
	values, weights := make([]int, count), make([]int, count)
	for i := range count {
		weights[i] = []int{1, 16, 1 + draw(16), 1 + draw(16)}[draw(4)]
		switch draw(8) {
		case 0:
			values[i] = farthest - draw(2*farthest+1)
		case 1:
			values[i] = max(-farthest, min(farthest, []int{r.Lo, r.Hi, r.Lo - r.Clip, r.Hi + r.Clip, farthest, -farthest}[draw(6)]))
		case 2:
			values[i] = values[draw(i+1)]
		case 3:
			values[i] = max(-farthest, min(farthest, values[draw(i+1)]+r.Clip+1-draw(3)))
		default:
			values[i] = r.Lo - 3 + draw(r.Hi-r.Lo+7)
		}
	}
	return r, values, weights
}

// inside is the value of a range that is the nearest to a number.
func inside(n int) int { return max(least, min(most, n)) }

// P12.1, P12.2: any rules, values and weights, by the document's words, and near the mid.
func TestAnyVotes(t *testing.T) {
	for seed := range 200 {
		draw := drawer(seed)
		for range 300 {
			r, values, weights := drawn(draw)
			holds(t, r, values, weights)
		}
	}
}

// P12.1, P12.2: all lists of up to three small values with small weights, in a small range, by the document's words; those of four with weights of 1 and 3.
func TestAllSmallVotes(t *testing.T) {
	r := Rule{Lo: -3, Hi: 4, Clip: 2}
	for a := -6; a <= 6; a++ {
		for b := -6; b <= 6; b++ {
			for _, y := range [][]int{{1, 1}, {1, 2}, {2, 1}, {3, 2}} {
				quick(t, r, []int{a, b}, y)
			}
			for c := -6; c <= 6; c++ {
				for _, y := range [][]int{{1, 1, 1}, {1, 2, 3}, {3, 1, 2}, {2, 3, 1}, {1, 16, 1}} {
					quick(t, r, []int{a, b, c}, y)
				}
				for d := -6; d <= 6; d++ {
					quick(t, r, []int{a, b, c, d}, []int{1, 3, 1, 3})
					quick(t, r, []int{a, b, c, d}, []int{1, 1, 1, 1})
				}
			}
		}
	}
}

// quick holds a small vote against the document's words, counted by hand.
func quick(t testing.TB, r Rule, values, weights []int) {
	t.Helper()
	mid, sum, all := middle(values), 0, 0
	for i, n := range values {
		sum += weights[i] * max(mid-r.Clip, min(mid+r.Clip, n))
		all += weights[i]
	}
	// What is added is divided evenly, and taken away again: the grid is small.
	want := max(r.Lo, min(r.Hi, (sum+1000*all)/all-1000))
	if got, ok := Vote(r, values, weights); got != want || !ok {
		t.Fatalf("Vote(%v, %v, %v) = %d, %t, not %d", r, values, weights, got, ok, want)
	}
	near(t, r, values, weights)
}

// P12.2: where the mid is outside of the range the vote is in it; where it is in it, the vote is near the mid, with each clip.
func TestNearMid(t *testing.T) {
	for _, clip := range []int{0, 1, 2, 5, 10, 60, 1000, most} {
		r := Rule{Lo: -40, Hi: 50, Clip: clip}
		for mid := -60; mid <= 60; mid++ {
			for _, apart := range []int{0, 1, 9, 61, 1000, farthest - 60} {
				for _, values := range [][]int{{mid}, {mid - apart, mid + apart}, {mid - apart, mid, mid + apart}, {mid, mid + apart, mid + apart}, {mid - apart, mid - apart, mid}, {mid - apart, mid - 1, mid + 1, mid + apart}} {
					for _, weights := range [][]int{{1, 1, 1, 1}, {1, 16, 1, 1}, {16, 1, 1, 1}, {1, 1, 16, 16}} {
						near(t, r, values, weights[:len(values)])
					}
				}
			}
		}
	}
}

// bounds holds P12.3: the vote is at most the clip outside of two numbers, between which all values but one are.
func bounds(t testing.TB, r Rule, lo, hi int, values, weights []int) {
	t.Helper()
	got, ok := Vote(r, values, weights)
	if !ok || got < lo-r.Clip || got > hi+r.Clip {
		t.Fatalf("Vote(%v, %v, %v) = %d, %t: more than the clip outside of %d to %d", r, values, weights, got, ok, lo, hi)
	}
}

// P12.3: three and four values, of which all but one are between two numbers, one of these in the range, and that one anywhere, in each place, with each weight of it.
func TestBoundedFaults(t *testing.T) {
	faults := []int{0, 15, -15, 31, -31, 45, -45, 1000, -1000, most, least, most + 1, farthest, -farthest}
	for _, clip := range []int{0, 1, 10, 1 << 20} {
		r := Rule{Lo: -30, Hi: 40, Clip: clip}
		for _, x := range [][2]int{{-30, 40}, {0, 0}, {3, 9}, {-9, -3}, {40, 40}, {-30, -30}, {40, 55}, {-55, -30}, {38, 900}, {-900, -28}, {0, farthest}, {-farthest, 0}, {40, farthest}, {-farthest, -30}} {
			for _, healthy := range [][]int{{x[0], x[1]}, {x[1], x[0]}, {x[0], x[0]}, {x[1], x[1]}, {x[0], x[1], (x[0] + x[1]) / 2}, {x[0], x[0], x[1]}, {x[1], x[0], x[1]}} {
				for at := range len(healthy) + 1 {
					for _, fault := range faults {
						values := slices.Insert(slices.Clone(healthy), at, fault)
						for _, weight := range []int{1, 2, 16} {
							weights := with(alike(len(values), 1), at, weight)
							bounds(t, r, x[0], x[1], values, weights)
							holds(t, r, values, weights)
						}
					}
				}
			}
		}
	}
}

// P12.3: any rules, and any of such values, with the one anywhere.
func TestAnyBoundedFaults(t *testing.T) {
	for seed := range 200 {
		draw := drawer(seed)
		for range 200 {
			r, _, _ := drawn(draw)
			in := r.Lo + draw(r.Hi-r.Lo+1)
			lo, hi := in, in
			if span := draw(1 << (1 + draw(31))); draw(2) == 0 {
				lo = max(-farthest, in-span)
			} else {
				hi = min(farthest, in+span)
			}
			count := 3 + draw(2)
			values, weights := make([]int, count), make([]int, count)
			for i := range count {
				values[i], weights[i] = lo+draw(hi-lo+1), 1+draw(16)
			}
			at := draw(count)
			for _, fault := range []int{farthest, -farthest, farthest - draw(2*farthest+1), lo - r.Clip - 1, hi + r.Clip + 1} {
				values[at] = max(-farthest, min(farthest, fault))
				bounds(t, r, lo, hi, values, weights)
				near(t, r, values, weights)
			}
		}
	}
}

// P12.1: the lists that are handed in are as they were, where they are refused too, and where values and weights are one list.
func TestListsStay(t *testing.T) {
	values, weights := []int{900, -900, 3, 1, 77}, []int{1, 16, 3, 2, 88}
	for count := range 6 {
		for _, r := range append(rightRules(), wrongRules()...) {
			Vote(r, values[:count], weights[:count])
			Vote(r, values[:count], weights)
			Vote(r, values, weights[:count])
		}
	}
	if !slices.Equal(values, []int{900, -900, 3, 1, 77}) || !slices.Equal(weights, []int{1, 16, 3, 2, 88}) {
		t.Fatalf("%v, %v", values, weights)
	}
	one := []int{9, 4, 16, 1}
	for count, want := range []int{9, 7, 12, 11} {
		if n, ok := Vote(wide(), one[:count+1], one[:count+1]); n != want || !ok {
			t.Errorf("of %d that are their own weights: %d, %t, not %d", count+1, n, ok, want)
		}
	}
	if !slices.Equal(one, []int{9, 4, 16, 1}) {
		t.Fatalf("%v", one)
	}
}

// P12.1: what lies behind a list's length is not read: neither a value, nor a weight, that there is no place for.
func TestBehindLists(t *testing.T) {
	values, weights := []int{5, 8, farthest + 1, 1, 2}, []int{1, 2, 17, 1, 1}
	for count, want := range map[int]int{1: 5, 2: 7} {
		if n, ok := Vote(wide(), values[:count], weights[:count]); n != want || !ok {
			t.Errorf("of %d: %d, %t, not %d", count, n, ok, want)
		}
	}
	if n, ok := Vote(wide(), values[:2], weights[:1]); n != 0 || ok {
		t.Errorf("with too few weights: %d, %t", n, ok)
	}
	if n, ok := Vote(wide(), values[:1], weights[:2]); n != 0 || ok {
		t.Errorf("with too many weights: %d, %t", n, ok)
	}
}

// P2: what a vote is hangs on its arguments alone, whatever was asked ahead of it.
func TestAskedAgain(t *testing.T) {
	var told []int
	for range 2 {
		draw, at := drawer(7), 0
		for range 500 {
			r, values, weights := drawn(draw)
			n, ok := Vote(r, values, weights)
			if !ok {
				t.Fatalf("Vote(%v, %v, %v)", r, values, weights)
			}
			if at == len(told) {
				told = append(told, n)
			}
			if told[at] != n {
				t.Fatalf("Vote(%v, %v, %v) = %d, and %d", r, values, weights, told[at], n)
			}
			at++
			refuses(t, r, values, nil)
			votes(t, Rule{Lo: -100, Hi: 100, Clip: 10}, []int{0, 3, 1000}, []int{1, 1, 2}, 7)
		}
	}
}

// P1: no call panics, at any rule, values and weights, of any count.
func TestAnythingAtAll(t *testing.T) {
	numbers := append(noWeights(), noValues()...)
	numbers = append(numbers, 1, 2, 3, 16, 100, -100, farthest, -farthest)
	for seed := range 100 {
		draw := drawer(seed)
		one := func() int { return numbers[draw(len(numbers))] }
		for range 300 {
			r := Rule{Lo: one(), Hi: one(), Clip: one()}
			if draw(2) == 0 {
				r = rightRules()[draw(len(rightRules()))]
			}
			values, weights := make([]int, draw(7)), make([]int, draw(7))
			for i := range values {
				values[i] = one()
			}
			for i := range weights {
				weights[i] = one()
			}
			n, ok := Vote(r, values, weights)
			if may := Right(r) && mayBe(values, weights); ok != may || !ok && n != 0 || ok && n != voted(r, values, weights) {
				t.Fatalf("Vote(%v, %v, %v) = %d, %t", r, values, weights, n, ok)
			}
		}
	}
}

// mayBe tells whether there is a vote of values with weights, by the document's words.
func mayBe(values, weights []int) bool {
	value := func(n int) bool { return n >= -4294967296 && n <= 4294967296 }
	weight := func(n int) bool { return n >= 1 && n <= 16 }
	return len(values) >= 1 && len(values) <= 4 && len(weights) == len(values) && every(values, value) && every(weights, weight)
}

func every(l []int, is func(n int) bool) bool {
	return !slices.ContainsFunc(l, func(n int) bool { return !is(n) })
}
