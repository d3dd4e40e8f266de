package parity

import (
	"math"
	"math/big"
	"slices"
	"testing"
)

// The signatures that other layers call.
var (
	_ func(l []int) []int          = Residues
	_ func(l []int, bound int) int = Suspect
)

// The greatest value, and minus the least one, written out so that a wrong constant of the package does not hide itself.
const farthest = 4294967296

// noValues are numbers that are no values, some of which have the lower bits of one that is.
func noValues() []int {
	return []int{
		farthest + 1, farthest + 2, farthest + 5, 1 << 33, 1<<33 + 5, 1<<33 + 7, 1 << 40, 1<<40 + 1, 1<<40 + 5, 1 << 62, math.MaxInt, math.MaxInt - 1,
		-farthest - 1, -farthest - 2, -farthest - 5, -1 << 33, -1<<33 - 5, -1<<33 + 5, -1 << 40, -1<<40 - 1, -1<<40 - 5, -1 << 62, math.MinInt, math.MinInt + 1, math.MinInt + 5,
	}
}

// noBounds are bounds below 0, some of which have the lower bits of one that is not.
func noBounds() []int {
	return []int{-1, -2, -5, -100, -1 << 16, -1<<16 + 5, -1 << 31, -1<<31 - 1, -1 << 32, -1<<32 + 5, -1<<32 + 100, -1 << 33, -1 << 40, -1<<40 - 1, -1<<40 + 9, -1 << 62, math.MinInt, math.MinInt + 1, math.MinInt + 5}
}

// greatBounds are bounds that no residue is beyond.
func greatBounds() []int {
	return []int{2 * farthest, 2*farthest + 1, 1 << 34, 1<<40 - 1, 1 << 40, 1<<40 + 1, 1 << 41, 1 << 62, math.MaxInt, math.MaxInt - 1}
}

// lists are lists of 2 to 4 values, in which none is far from the others.
func lists() [][]int {
	return [][]int{{5, -6}, {5, -6, 7}, {5, -6, 7, 9}}
}

// wrongLists are lists that have no residues.
func wrongLists() [][]int {
	out := [][]int{nil, {}, {0}, {5}, {farthest}, {1, 2, 3, 4, 5}, {1, 1, 1, 1, 900}, {0, 0, 0, 0, 0, 0}, alike(16, 7), append(alike(16, 7), 900), alike(1000, 7)}
	for _, l := range lists() {
		for at := range l {
			for _, n := range noValues() {
				out = append(out, with(l, at, n))
			}
		}
		for _, n := range noValues() {
			out = append(out, alike(len(l), n))
		}
	}
	return out
}

// residues holds residues.
func residues(t testing.TB, l []int, want ...int) {
	t.Helper()
	if got := asked(t, l); !slices.Equal(got, want) {
		t.Fatalf("Residues(%v) = %v, not %v", l, got, want)
	}
}

// asked answers residues, and holds that the list, and what lies behind it in its memory, is as it was, and that the answer is memory of its own.
func asked(t testing.TB, l []int) []int {
	t.Helper()
	own := append(slices.Clone(l), 77, -99, 5, -6)
	got := Residues(own[:len(l)])
	if !slices.Equal(own, append(slices.Clone(l), 77, -99, 5, -6)) {
		t.Fatalf("Residues(%v) wrote: %v", l, own)
	}
	answer := slices.Clone(got)
	clear(own)
	if !slices.Equal(got, answer) {
		t.Fatalf("Residues(%v) hangs on the list: %v, then %v", l, answer, got)
	}
	whole := got[:cap(got)]
	for i := range whole {
		whole[i] = 1234567
	}
	if slices.Contains(own, 1234567) {
		t.Fatalf("what Residues(%v) answers shares memory with the list: %v", l, own)
	}
	return answer
}

// suspects holds a suspect.
func suspects(t testing.TB, l []int, bound, want int) {
	t.Helper()
	own := append(slices.Clone(l), 77, -99, 5, -6)
	got := Suspect(own[:len(l)], bound)
	if got != want {
		t.Fatalf("Suspect(%v, %d) = %d, not %d", l, bound, got, want)
	}
	if !slices.Equal(own, append(slices.Clone(l), 77, -99, 5, -6)) {
		t.Fatalf("Suspect(%v, %d) wrote: %v", l, bound, own)
	}
}

// told are residues, by the document's words, with numbers of any size; nothing of a list that has none.
func told(l []int) []*big.Int {
	if len(l) < 2 || len(l) > 4 {
		return nil
	}
	var out []*big.Int
	for i, n := range l {
		if n < -farthest || n > farthest {
			return nil
		}
		out = append(out, new(big.Int).Sub(big.NewInt(int64(n)), middle(slices.Delete(slices.Clone(l), i, i+1))))
	}
	return out
}

// middle is the mid of one to three numbers, by the document's words.
func middle(l []int) *big.Int {
	own := slices.Sorted(slices.Values(l))
	switch len(own) {
	case 1:
		return big.NewInt(int64(own[0]))
	case 2:
		sum := new(big.Int).Add(big.NewInt(int64(own[0])), big.NewInt(int64(own[1])))
		// Div rounds down where what it divides by is above 0.
		return sum.Div(sum, big.NewInt(2))
	}
	return big.NewInt(int64(own[1]))
}

// alone is the suspect, by the document's words.
func alone(l []int, bound int) int {
	if bound < 0 {
		return -1
	}
	var beyond []int
	for i, n := range told(l) {
		if n.CmpAbs(big.NewInt(int64(bound))) > 0 {
			beyond = append(beyond, i)
		}
	}
	if len(beyond) != 1 {
		return -1
	}
	return beyond[0]
}

// holds holds residues, and the suspect with each of some bounds, against the document's words.
func holds(t testing.TB, l []int, bounds ...int) {
	t.Helper()
	var want []int
	for _, n := range told(l) {
		want = append(want, int(n.Int64()))
	}
	residues(t, l, want...)
	for _, bound := range bounds {
		suspects(t, l, bound, alone(l, bound))
	}
}

// edges are the bounds that a list's residues lie at, with those beside these, and those at the ends.
func edges(l []int) []int {
	out := []int{0, 1, -1, math.MinInt, math.MaxInt}
	for _, n := range told(l) {
		apart := int(n.Abs(n).Int64())
		out = append(out, apart-1, apart, apart+1)
	}
	return out
}

// drawer gives numbers from 0 on that hang on seed alone.
func drawer(seed int) func(below int) int {
	state := uint64(seed)*2862933555777941757 + 3037000493
	return func(below int) int {
		state = state*6364136223846793005 + 1442695040888963407
		return int(state>>29) % below
	}
}

// alike is a list of one number, so many times.
func alike(count, n int) []int { return slices.Repeat([]int{n}, count) }

// with is a list with another number at a place.
func with(l []int, at, n int) []int {
	own := slices.Clone(l)
	own[at] = n
	return own
}

// moved is a list with a number added to each.
func moved(l []int, by int) []int {
	own := slices.Clone(l)
	for i := range own {
		own[i] += by
	}
	return own
}

// less is a list with each number's opposite.
func less(l []int) []int {
	own := slices.Clone(l)
	for i := range own {
		own[i] = -own[i]
	}
	return own
}

// orders are all orders of so many places.
func orders(count int) [][]int {
	if count == 0 {
		return [][]int{nil}
	}
	var out [][]int
	for _, shorter := range orders(count - 1) {
		for at := range count {
			out = append(out, slices.Insert(slices.Clone(shorter), at, count-1))
		}
	}
	return out
}

// picked are the elements of a list in an order.
func picked(l, order []int) []int {
	var out []int
	for _, at := range order {
		out = append(out, l[at])
	}
	return out
}

// P13.1: the residues of 2 to 4 values, in order.
func TestResidues(t *testing.T) {
	for _, x := range []struct{ l, want []int }{
		{[]int{1, 4, 100}, []int{-51, -46, 98}}, {[]int{5, 90, 7, 6}, []int{-2, 84, 1, -1}}, {[]int{3, -5}, []int{8, -8}},
		{[]int{0, 0}, []int{0, 0}}, {[]int{7, 7}, []int{0, 0}}, {[]int{-7, -7}, []int{0, 0}}, {[]int{0, 1}, []int{-1, 1}}, {[]int{1, 0}, []int{1, -1}}, {[]int{10, 90}, []int{-80, 80}},
		{[]int{5, 5, 5}, []int{0, 0, 0}}, {[]int{5, 5, 9}, []int{-2, -2, 4}}, {[]int{10, 20, 30}, []int{-15, 0, 15}}, {[]int{30, 10, 20}, []int{15, -15, 0}}, {[]int{-10, -20, -30}, []int{15, 0, -15}},
		{[]int{4, 4, 4, 4}, []int{0, 0, 0, 0}}, {[]int{1, 2, 3, 4}, []int{-2, -1, 1, 2}}, {[]int{4, 3, 2, 1}, []int{2, 1, -1, -2}}, {[]int{1, 1, 9, 9}, []int{-8, -8, 8, 8}}, {[]int{-90, 1, 2, 3}, []int{-92, -1, 1, 2}}, {[]int{1, 1, 1, 9}, []int{0, 0, 0, 8}},
	} {
		residues(t, x.l, x.want...)
		holds(t, x.l, edges(x.l)...)
	}
}

// P13.1: no value (nil, and without elements), 1, 5 and more values have no residues; 2, 3 and 4 have as many.
func TestCounts(t *testing.T) {
	for _, none := range [][]int{nil, {}, make([]int, 0, 4), []int{5, 6, 7}[:0]} {
		if l := Residues(none); len(l) != 0 {
			t.Errorf("Residues(%v) = %v", none, l)
		}
	}
	for count := range 40 {
		for _, n := range []int{0, 5, -5, farthest, -farthest} {
			l := alike(count, n)
			if count < 2 || count > 4 {
				residues(t, l)
			} else {
				residues(t, l, make([]int, count)...)
			}
			if count > 0 {
				holds(t, with(l, count-1, 3), 0, 1, 2, 3)
				holds(t, with(l, 0, 3), 0, 1, 2, 3)
			}
		}
	}
	for _, count := range []int{100, 1 << 16, 1<<16 + 3, 1<<18 + 2} {
		residues(t, alike(count, 5))
		suspects(t, with(alike(count, 5), 1, 900), 10, -1)
	}
}

// P13.1: a value of -2^32, and of 2^32, in each place, has a residue; with one outside of these, and at the ends of an int, nothing has.
func TestEndsOfValues(t *testing.T) {
	for _, l := range lists() {
		for at := range l {
			for _, n := range []int{farthest, farthest - 1, -farthest, 1 - farthest, 1 << 31, -1 << 31, -1<<31 - 1, 1<<31 - 1, 0} {
				own := with(l, at, n)
				if got := asked(t, own); len(got) != len(l) {
					t.Fatalf("Residues(%v) = %v", own, got)
				}
				holds(t, own, edges(own)...)
				own = with(alike(len(l), -n), at, n)
				holds(t, own, edges(own)...)
			}
			for _, n := range noValues() {
				residues(t, with(l, at, n))
				residues(t, with(alike(len(l), n), at, 5))
			}
		}
		for _, n := range noValues() {
			residues(t, alike(len(l), n))
		}
	}
	residues(t, []int{4294967296, -4294967296}, 8589934592, -8589934592)
	residues(t, []int{-4294967296, 4294967296}, -8589934592, 8589934592)
	residues(t, []int{4294967296, 4294967296}, 0, 0)
	residues(t, []int{4294967296, -4294967296, -4294967296}, 8589934592, -4294967296, -4294967296)
	residues(t, []int{-4294967296, 4294967296, 4294967295}, -8589934591, 4294967297, 4294967295)
	residues(t, []int{4294967296, -4294967296, 4294967296, -4294967296}, 8589934592, -8589934592, 8589934592, -8589934592)
	residues(t, []int{-4294967296, -4294967296, 4294967296, -4294967296}, 0, 0, 8589934592, 0)
	residues(t, []int{4294967297, 1})
	residues(t, []int{1, -4294967297})
	residues(t, []int{1, 4294967297, 1})
	residues(t, []int{1, 1, 1, -4294967297})
	residues(t, []int{math.MinInt, math.MaxInt})
}

// P13.1: others whose mid is half a sum, odd, above and below 0: it is rounded down.
func TestOddMids(t *testing.T) {
	for _, x := range []struct{ l, want []int }{
		{[]int{0, 0, 1}, []int{0, 0, 1}}, {[]int{0, 1, 1}, []int{-1, 1, 1}}, {[]int{0, 0, -1}, []int{1, 1, -1}}, {[]int{0, -1, -1}, []int{1, 0, 0}}, {[]int{1, 0, -1}, []int{2, 0, -1}},
		{[]int{10, 4, 7}, []int{5, -4, 0}}, {[]int{4, 10, 7}, []int{-4, 5, 0}}, {[]int{-10, -4, -7}, []int{-4, 5, 0}}, {[]int{-10, -5, -8}, []int{-3, 4, 0}},
		{[]int{4, 7, 20}, []int{-9, -5, 15}}, {[]int{-4, -7, -20}, []int{10, 5, -14}}, {[]int{-8, 5, 0}, []int{-10, 9, 2}}, {[]int{8, -5, 0}, []int{11, -9, -1}},
		{[]int{4294967296, 1, -4294967296}, []int{6442450944, 1, -6442450944}}, {[]int{4294967295, 0, -4294967296}, []int{6442450943, 1, -6442450943}}, {[]int{-4294967295, 0, 4294967296}, []int{-6442450943, 0, 6442450944}},
	} {
		residues(t, x.l, x.want...)
		holds(t, x.l, edges(x.l)...)
	}
	// Of 2 and of 4 values no others have a mid that is half a sum.
	residues(t, []int{4, 7}, -3, 3)
	residues(t, []int{4, 7, 20, 33}, -16, -13, 13, 26)
	residues(t, []int{-4, -7, -20, -33}, 16, 13, -13, -26)
}

// P13.1: values that are all alike, and of which two are, or three.
func TestAlike(t *testing.T) {
	for _, n := range []int{0, 1, -1, 7, -7, 1 << 31, -1 << 31, farthest, -farthest} {
		for count := 2; count <= 4; count++ {
			residues(t, alike(count, n), make([]int, count)...)
			for _, bound := range []int{0, 1, -1, farthest, math.MaxInt, math.MinInt} {
				suspects(t, alike(count, n), bound, -1)
			}
		}
	}
	for at := range 3 {
		residues(t, with(alike(3, 5), at, 9), with([]int{-2, -2, -2}, at, 4)...)
		residues(t, with(alike(3, 5), at, 8), with([]int{-1, -1, -1}, at, 3)...)
		residues(t, with(alike(3, 5), at, 2), with([]int{2, 2, 2}, at, -3)...)
	}
	for at := range 4 {
		residues(t, with(alike(4, 5), at, 9), with(alike(4, 0), at, 4)...)
		residues(t, with(alike(4, 5), at, -9), with(alike(4, 0), at, -14)...)
		for other := range 4 {
			if other != at {
				residues(t, with(with(alike(4, 5), at, 9), other, 9), with(with(alike(4, -4), at, 4), other, 4)...)
				residues(t, with(with(alike(4, 5), at, 9), other, 1), with(with(alike(4, 0), at, 4), other, -4)...)
			}
		}
	}
}

// P13.1: the same values in each other order have the same residues, each at its value's place, and the same suspect.
func TestOrders(t *testing.T) {
	for _, x := range []struct {
		l, want      []int
		bound, place int
	}{
		{[]int{3, 9}, []int{-6, 6}, 5, -1}, {[]int{3, 9}, []int{-6, 6}, 6, -1},
		{[]int{1, 4, 100}, []int{-51, -46, 98}, 60, 2}, {[]int{1, 40, 41}, []int{-39, 19, 21}, 30, 0}, {[]int{5, 5, 90}, []int{-42, -42, 85}, 50, 2}, {[]int{-7, -7, -7}, []int{0, 0, 0}, 0, -1},
		{[]int{5, 6, 7, 90}, []int{-2, -1, 1, 84}, 10, 3}, {[]int{-90, 1, 2, 3}, []int{-92, -1, 1, 2}, 5, 0}, {[]int{1, 1, 9, 9}, []int{-8, -8, 8, 8}, 7, -1}, {[]int{1, 5, 6, 10}, []int{-5, -1, 1, 5}, 4, -1}, {[]int{5, 5, 5, 90}, []int{0, 0, 0, 85}, 0, 3},
		{[]int{-farthest, 0, 1, farthest}, []int{-farthest - 1, -1, 1, farthest}, farthest, 0},
	} {
		for _, order := range orders(len(x.l)) {
			l := picked(x.l, order)
			residues(t, l, picked(x.want, order)...)
			suspects(t, l, x.bound, slices.Index(order, x.place))
			holds(t, l, edges(l)...)
		}
	}
}

// P13.1: who is suspect: in each place, of 2, 3 and 4 values, on both sides.
func TestSuspect(t *testing.T) {
	for _, x := range []struct {
		l           []int
		bound, want int
	}{
		{[]int{1, 4, 100}, 60, 2}, {[]int{1, 4, 100}, 97, 2}, {[]int{1, 4, 100}, 98, -1}, {[]int{1, 4, 100}, 50, -1}, {[]int{5, 90, 7, 6}, 10, 1}, {[]int{5, 90, 7, 6}, 1, -1}, {[]int{5, 90, 7, 6}, 2, 1}, {[]int{5, 90, 7, 6}, 83, 1}, {[]int{5, 90, 7, 6}, 84, -1}, {[]int{-90, 1, 2, 3}, 5, 0},
		{[]int{3, -5}, 7, -1}, {[]int{3, -5}, 8, -1}, {[]int{3, -5}, 9, -1}, {[]int{0, 0}, 0, -1}, {[]int{4, 4, 4}, 0, -1},
	} {
		suspects(t, x.l, x.bound, x.want)
		suspects(t, moved(x.l, 1000), x.bound, x.want)
	}
	for _, base := range []int{0, 5, -5, 1 << 31, -1 << 31} {
		for _, off := range []int{90, -90, 1 << 31, -1 << 31} {
			for at := range 3 {
				suspects(t, with(alike(3, base), at, base+off), max(off, -off)-1, at)
				suspects(t, with(alike(3, base), at, base+off), max(off, -off), -1)
				suspects(t, with(alike(3, base), at, base+off), max(off, -off)/2, at)
				suspects(t, with(alike(3, base), at, base+off), max(off, -off)/2-1, -1)
			}
			for at := range 4 {
				suspects(t, with(alike(4, base), at, base+off), max(off, -off)-1, at)
				suspects(t, with(alike(4, base), at, base+off), max(off, -off), -1)
				suspects(t, with(alike(4, base), at, base+off), 0, at)
			}
			// Of two values both are as far off: neither is told.
			for at := range 2 {
				for _, bound := range []int{0, 1, max(off, -off) - 1, max(off, -off), max(off, -off) + 1} {
					suspects(t, with(alike(2, base), at, base+off), bound, -1)
				}
			}
		}
	}
}

// P13.1: a bound of 0: just one residue that is not 0 is suspect.
func TestBoundOfZero(t *testing.T) {
	for at := range 4 {
		for _, n := range []int{6, 4, 90, -90, farthest, -farthest} {
			suspects(t, with(alike(4, 5), at, n), 0, at)
			suspects(t, with(with(alike(4, 5), at, n), (at+1)%4, n), 0, -1)
		}
	}
	suspects(t, []int{0, 0, 1}, 0, 2)
	suspects(t, []int{0, 1, 0}, 0, 1)
	suspects(t, []int{1, 0, 0}, 0, 0)
	suspects(t, []int{0, 0, -1}, 0, -1)
	suspects(t, []int{0, -1, -1}, 0, 0)
	suspects(t, []int{-1, 0, -1}, 0, 1)
	suspects(t, []int{0, 0, 2}, 0, -1)
	suspects(t, []int{10, 20, 30}, 0, -1)
	suspects(t, []int{1, 0}, 0, -1)
}

// P13.1: a bound below 0, down to the least int: -1, of values that have a suspect else, and of those that have none.
func TestWrongBounds(t *testing.T) {
	for _, l := range append(lists(), []int{5, 90, 7, 6}, []int{90, 5, 5}, []int{5, 5, 5, 5}, []int{7, 7}, []int{farthest, 0, 0, 0}) {
		for _, bound := range noBounds() {
			suspects(t, l, bound, -1)
		}
	}
	suspects(t, []int{5, 90, 7, 6}, -1, -1)
	suspects(t, []int{5, 90, 7, 6}, math.MinInt, -1)
	suspects(t, []int{5, 5, 5, 90}, -1, -1)
	suspects(t, []int{5, 5, 5, 90}, 0, 3)
}

// P13.1: a bound that is as great as the greatest residue, and greater, up to the greatest int: -1.
func TestGreatBounds(t *testing.T) {
	far := [][]int{{farthest, -farthest}, {-farthest, farthest}, {farthest, -farthest, -farthest}, {-farthest, farthest, farthest}, {farthest, -farthest, -farthest, -farthest}, {-farthest, -farthest, farthest, -farthest}, {5, 90, 7, 6}, {5, 5, 5, 5}}
	for _, l := range far {
		for _, bound := range greatBounds() {
			suspects(t, l, bound, -1)
		}
	}
	for at := range 4 {
		for _, n := range []int{farthest, -farthest} {
			suspects(t, with(alike(4, -n), at, n), 8589934591, at)
			suspects(t, with(alike(4, -n), at, n), 8589934592, -1)
			suspects(t, with(alike(4, -n), at, n), 4294967296, at)
		}
	}
	for at := range 3 {
		for _, n := range []int{farthest, -farthest} {
			suspects(t, with(alike(3, -n), at, n), 8589934591, at)
			suspects(t, with(alike(3, -n), at, n), 8589934592, -1)
			suspects(t, with(alike(3, -n), at, n), 4294967296, at)
			suspects(t, with(alike(3, -n), at, n), 4294967295, -1)
		}
	}
}

// P13.1: a residue just at the bound, one more and one less, on both sides of 0, is beyond it in the second alone.
func TestAtBound(t *testing.T) {
	for _, bound := range []int{0, 1, 2, 10, 1000, 1 << 31, farthest - 1, farthest} {
		for _, way := range []int{1, -1} {
			for at := range 4 {
				l := alike(4, -way*(bound/2))
				suspects(t, with(l, at, l[0]+way*bound), bound, -1)
				suspects(t, with(l, at, l[0]+way*(bound+1)), bound, at)
				suspects(t, with(l, at, l[0]+way*max(bound-1, 0)), bound, -1)
				if at < 3 {
					suspects(t, with(l, at, l[0]+way*bound)[:3], bound, -1)
					holds(t, with(l, at, l[0]+way*(bound+1))[:3], bound)
				}
			}
		}
	}
	// Of 4, 7 and 10 the residues are -4, 0 and 5; of 0, 0 and -9 they are 5, 5 and -9.
	for _, x := range []struct {
		l              []int
		bound, suspect int
	}{
		{[]int{4, 7, 10}, 3, -1}, {[]int{4, 7, 10}, 4, 2}, {[]int{4, 7, 10}, 5, -1}, {[]int{10, 7, 4}, 4, 0}, {[]int{-4, -7, -10}, 4, 0}, {[]int{-4, -7, -10}, 5, -1}, {[]int{-4, -7, -10}, 3, -1},
		{[]int{0, 0, -9}, 5, 2}, {[]int{0, 0, -9}, 4, -1}, {[]int{0, 0, -9}, 8, 2}, {[]int{0, 0, -9}, 9, -1}, {[]int{0, 0, 9}, 4, 2}, {[]int{0, 0, 9}, 3, -1}, {[]int{0, 0, 9}, 8, 2}, {[]int{0, 0, 9}, 9, -1},
	} {
		suspects(t, x.l, x.bound, x.suspect)
		holds(t, x.l, x.bound)
	}
}

// P13.1: none, one, two, three and all values beyond the bound: just one is told.
func TestHowManyBeyond(t *testing.T) {
	for _, x := range []struct {
		l                   []int
		bound, beyond, want int
	}{
		{[]int{3, 9}, 6, 0, -1}, {[]int{3, 9}, 5, 2, -1},
		{[]int{10, 20, 30}, 15, 0, -1}, {[]int{10, 20, 30}, 14, 2, -1}, {[]int{10, 20, 30}, 0, 2, -1}, {[]int{10, 20, 90}, 74, 1, 2}, {[]int{10, 20, 90}, 44, 2, -1}, {[]int{10, 20, 90}, 45, 1, 2}, {[]int{10, 20, 90}, 29, 3, -1},
		{[]int{1, 2, 3, 4}, 2, 0, -1}, {[]int{1, 2, 3, 4}, 1, 2, -1}, {[]int{1, 2, 3, 4}, 0, 4, -1}, {[]int{1, 2, 3, 9}, 2, 1, 3}, {[]int{1, 2, 3, 9}, 1, 2, -1}, {[]int{1, 1, 9, 9}, 7, 4, -1}, {[]int{1, 1, 9, 9}, 8, 0, -1}, {[]int{9, 5, 5, 1}, 3, 2, -1}, {[]int{1, 2, 3, 4000}, 0, 4, -1}, {[]int{1, 4, 6, 9}, 4, 2, -1}, {[]int{-20, 1, 5, 9}, 7, 2, -1}, {[]int{-20, 1, 5, 9}, 8, 1, 0}, {[]int{-20, 1, 5, 9}, 3, 4, -1}, {[]int{0, 0, 0, 0}, 0, 0, -1}, {[]int{0, 0, 1, 90}, 0, 4, -1}, {[]int{0, 0, 1, 90}, 1, 1, 3},
	} {
		count := 0
		for _, n := range told(x.l) {
			if n.CmpAbs(big.NewInt(int64(x.bound))) > 0 {
				count++
			}
		}
		if count != x.beyond {
			t.Fatalf("of %v are %d beyond %d, not %d", x.l, count, x.bound, x.beyond)
		}
		for _, order := range orders(len(x.l)) {
			suspects(t, picked(x.l, order), x.bound, slices.Index(order, x.want))
		}
	}
}

// P13.1: of lists that have no residues none is suspect, with any bound.
func TestSuspectOfWrongLists(t *testing.T) {
	for _, l := range wrongLists() {
		residues(t, l)
		for _, bound := range slices.Concat(noBounds(), greatBounds(), []int{0, 1, 2, 10, 1000, farthest}) {
			suspects(t, l, bound, -1)
		}
	}
	for _, bound := range []int{0, 10, -1, math.MaxInt, math.MinInt} {
		for _, none := range [][]int{nil, {}, []int{5, 90, 7, 6}[:0], []int{90, 5, 5, 5}[:1]} {
			if n := Suspect(none, bound); n != -1 {
				t.Fatalf("Suspect(%v, %d) = %d", none, bound, n)
			}
		}
	}
}

// P13.1: all lists of 2, 3 and 4 values from -5 to 5, with each bound from -1 to 11, as the document's words tell.
func TestAllShort(t *testing.T) {
	bounds := []int{-1, 0, 1, 2, 3, 4, 5, 6, 7, 8, 9, 10, 11}
	for a := -5; a <= 5; a++ {
		for b := -5; b <= 5; b++ {
			holds(t, []int{a, b}, bounds...)
			for c := -5; c <= 5; c++ {
				holds(t, []int{a, b, c}, bounds...)
			}
		}
	}
	for n := range 7 * 7 * 7 * 7 {
		holds(t, []int{n%7 - 3, n/7%7 - 3, n/49%7 - 3, n/343 - 3}, bounds...)
	}
}

// P13.1: drawn lists, with the bounds at their residues and beside them, as the document's words tell.
func TestDrawn(t *testing.T) {
	for seed := range 2000 {
		draw := drawer(seed)
		count, reach := 2+draw(3), 1<<(1+draw(32))
		l := make([]int, count)
		for i := range l {
			l[i] = reach - draw(2*reach+1)
		}
		holds(t, l, edges(l)...)
		holds(t, with(l, draw(count), farthest-draw(2*farthest+1)), draw(reach), draw(farthest), draw(2*farthest))
		holds(t, with(l, draw(count), noValues()[draw(len(noValues()))]), draw(reach), 0)
	}
}

// threes are threes of values that are at most a bound apart.
func threes(bound int) [][]int {
	half := bound / 2
	return [][]int{{0, 0, 0}, {0, 0, bound}, {0, bound, bound}, {0, half, bound}, {-bound, 0, 0}, {-half, 0, bound - half}, {-bound, -bound, -half}}
}

// P13.2: three of four values at most the bound apart, and the fourth one just the bound outside all of them, one more, and as far as can be, on both sides, in each place.
func TestOneOfFour(t *testing.T) {
	for _, bound := range []int{0, 1, 2, 3, 10, 75, 1000, 1 << 16, 1<<30 - 1, 1 << 30} {
		for _, base := range []int{0, 7, -7, 1 << 30, -1 << 30} {
			for _, three := range threes(bound) {
				three = moved(three, base)
				least, most := slices.Min(three), slices.Max(three)
				for _, order := range orders(3) {
					for at := range 4 {
						four := func(n int) []int { return slices.Insert(picked(three, order), at, n) }
						for _, n := range []int{most + bound + 1, most + bound + 2, farthest - 1, farthest, least - bound - 1, least - bound - 2, 1 - farthest, -farthest} {
							suspects(t, four(n), bound, at)
						}
						for _, n := range []int{most + bound, most + bound/2, most, least, least - bound/2, least - bound} {
							holds(t, four(n), bound)
						}
					}
				}
			}
		}
	}
}

// P13.2: the fourth one that is just the bound outside all three is suspect where the middle one of these is further from it, and not where it is not.
func TestJustTheBoundOutside(t *testing.T) {
	for at := range 4 {
		suspects(t, slices.Insert([]int{5, 5, 5}, at, 15), 10, -1)
		suspects(t, slices.Insert([]int{5, 5, 5}, at, 16), 10, at)
		suspects(t, slices.Insert([]int{5, 5, 5}, at, -5), 10, -1)
		suspects(t, slices.Insert([]int{5, 5, 5}, at, -6), 10, at)
		suspects(t, slices.Insert([]int{0, 10, 10}, at, 20), 10, -1)
		suspects(t, slices.Insert([]int{0, 10, 10}, at, 21), 10, at)
		suspects(t, slices.Insert([]int{0, 10, 10}, at, -10), 10, at)
		suspects(t, slices.Insert([]int{0, 10, 10}, at, -11), 10, at)
		suspects(t, slices.Insert([]int{0, 0, 10}, at, 20), 10, at)
		suspects(t, slices.Insert([]int{0, 0, 10}, at, 10), 10, -1)
		suspects(t, slices.Insert([]int{0, 0, 10}, at, 11), 10, at)
		suspects(t, slices.Insert([]int{0, 5, 10}, at, 15), 10, -1)
		suspects(t, slices.Insert([]int{0, 5, 10}, at, 16), 10, at)
		suspects(t, slices.Insert([]int{0, 5, 10}, at, -5), 10, -1)
		suspects(t, slices.Insert([]int{0, 5, 10}, at, -6), 10, at)
	}
}

// P13.2: four values that are all at most the bound apart, and just so far: none is suspect.
func TestAllNear(t *testing.T) {
	for _, bound := range []int{0, 1, 2, 3, 10, 75, 1000, 1 << 31, farthest - 1, farthest, 2*farthest - 1, 2 * farthest} {
		for _, from := range []int{-farthest, 1 - farthest, -bound / 2, farthest - bound} {
			if from < -farthest || from+bound > farthest {
				continue
			}
			places := []int{from, from + bound/3, from + bound/2, from + bound - bound/3, from + bound}
			for n := range 625 {
				suspects(t, []int{places[n%5], places[n/5%5], places[n/25%5], places[n/125]}, bound, -1)
			}
		}
	}
}

// P13.2: drawn fours, of which three are at most the bound apart, and the fourth one is further than that outside, or all four are near.
func TestDrawnFours(t *testing.T) {
	for seed := range 3000 {
		draw := drawer(seed)
		bound := draw(1 << draw(31))
		base := 1<<30 - draw(1<<31)
		l := make([]int, 4)
		for i := range l {
			l[i] = base + draw(bound+1)
		}
		suspects(t, l, bound, -1)
		at := draw(4)
		others := slices.Delete(slices.Clone(l), at, at+1)
		room := farthest - slices.Max(others) - bound
		suspects(t, with(l, at, slices.Max(others)+bound+1+draw(room)), bound, at)
		room = farthest + slices.Min(others) - bound
		suspects(t, with(l, at, slices.Min(others)-bound-1-draw(room)), bound, at)
	}
}

// P13.1: what is moved by a number has the same residues; what is turned round, of 2 and of 4 values, has the opposite ones.
func TestMovedAndTurned(t *testing.T) {
	for seed := range 300 {
		draw := drawer(seed)
		l := make([]int, 2+draw(3))
		for i := range l {
			l[i] = 1000 - draw(2001)
		}
		was := asked(t, l)
		for _, by := range []int{1, -1, 7, 1 << 31, -1 << 31, farthest - 1000, 1000 - farthest} {
			residues(t, moved(l, by), was...)
		}
		if len(l) != 3 {
			residues(t, less(l), less(was)...)
		}
	}
}

// P2: what was asked before, of whatever list, tells nothing of what is asked then; an answer that is kept stays as it is.
func TestAskedAgain(t *testing.T) {
	kept := Residues([]int{5, 90, 7, 6})
	for _, l := range append(wrongLists(), []int{1, 2}, []int{9, 9, 9}, []int{farthest, -farthest, 3, 4}) {
		Residues(l)
		Suspect(l, 3)
		residues(t, []int{5, 90, 7, 6}, -2, 84, 1, -1)
		suspects(t, []int{5, 90, 7, 6}, 10, 1)
	}
	if !slices.Equal(kept, []int{-2, 84, 1, -1}) {
		t.Fatalf("an answer changed: %v", kept)
	}
	other := Residues([]int{5, 90, 7, 6})
	clear(other)
	if !slices.Equal(kept, []int{-2, 84, 1, -1}) {
		t.Fatalf("two answers share memory: %v", kept)
	}
}

// Rule 4: what lies behind the list's length is not read: whatever stands there, the answer is the same.
func TestBehindTheList(t *testing.T) {
	for _, behind := range []int{0, 5, 90, farthest, farthest + 1, math.MaxInt, math.MinInt} {
		room := []int{5, 90, 7, behind, behind}
		for count, want := range [][]int{nil, nil, {-85, 85}, {-43, 84, -40}} {
			if got := Residues(room[:count]); !slices.Equal(got, want) {
				t.Fatalf("Residues(%v), with %d behind it, = %v", room[:count], behind, got)
			}
		}
		if n := Suspect(room[:3], 50); n != 1 {
			t.Fatalf("Suspect with %d behind it = %d", behind, n)
		}
	}
}
