package order

import (
	"math"
	"math/big"
	"slices"
	"testing"
)

// edge is 2^40, written out so that a wrong constant of the package does not hide itself.
const edge = 1099511627776

// The signatures that other layers call.
var (
	_ func(l []int) []int        = Sort
	_ func(l []int) (int, bool)  = Mid
	_ func(l []int, i int) []int = Without
	_ func(l []int) int          = Spread
)

// beyond holds numbers that are not small.
func beyond() []int {
	return []int{edge + 1, -edge - 1, edge + 2, 2 * edge, -2 * edge, math.MaxInt, math.MinInt, math.MinInt + 1}
}

// grid holds ordinary numbers, the edges, and what is beyond them.
func grid() []int {
	return []int{math.MinInt, -edge - 1, -edge, 1 - edge, -7, -2, -1, 0, 1, 4, edge - 1, edge, edge + 1, math.MaxInt}
}

// small holds those of the grid that are small.
func small() []int {
	return slices.DeleteFunc(grid(), func(n int) bool { return !isSmall(n) })
}

func isSmall(n int) bool { return -1099511627776 <= n && n <= 1099511627776 }

// lists calls with every list of n of the numbers, in every order, equal ones too.
func lists(numbers []int, n int, call func(l []int)) {
	l := make([]int, n)
	var fill func(i int)
	fill = func(i int) {
		if i == n {
			call(slices.Clone(l))
			return
		}
		for _, x := range numbers {
			l[i] = x
			fill(i + 1)
		}
	}
	fill(0)
}

// orders calls with a list in each of its orders.
func orders(l []int, call func(l []int)) {
	var fill func(done, rest []int)
	fill = func(done, rest []int) {
		if len(rest) == 0 {
			call(slices.Clone(done))
			return
		}
		for i := range rest {
			fill(append(slices.Clone(done), rest[i]), slices.Delete(slices.Clone(rest), i, i+1))
		}
	}
	fill(nil, l)
}

// falling is n numbers, the least of them -n/2, from the greatest to the least.
func falling(n int) []int {
	l := make([]int, n)
	for i := range l {
		l[i] = n - n/2 - 1 - i
	}
	return l
}

// scrambled is n numbers that hang on seed alone, with equal ones among them.
func scrambled(n, seed int) []int {
	l := make([]int, n)
	state := uint64(seed)*2862933555777941757 + 3037000493
	for i := range l {
		state = state*6364136223846793005 + 1442695040888963407
		l[i] = int(state>>33)%11 - 5
	}
	return l
}

// midOf is what the chapter's words say, by numbers of any size.
func midOf(l []int) (int, bool) {
	if len(l) == 0 || len(l) > 4 || slices.ContainsFunc(l, func(n int) bool { return !isSmall(n) }) {
		return 0, false
	}
	s := slices.Sorted(slices.Values(l))
	switch len(s) {
	case 1:
		return s[0], true
	case 2:
		return halfSum(s[0], s[1]), true
	case 3:
		return s[1], true
	}
	return halfSum(s[1], s[2]), true
}

// halfSum leans on Euclid's division, which rounds down where the divisor is above 0.
func halfSum(a, b int) int {
	sum := new(big.Int).Add(big.NewInt(int64(a)), big.NewInt(int64(b)))
	return int(sum.Div(sum, big.NewInt(2)).Int64())
}

func sameMid(t *testing.T, l []int, want int, ok bool) {
	t.Helper()
	if got, has := Mid(l); got != want || has != ok {
		t.Errorf("Mid(%v) = %d, %t, not %d, %t", l, got, has, want, ok)
	}
}

// P2.1: Sort.
func TestSort(t *testing.T) {
	for _, x := range []struct{ l, want []int }{
		{nil, nil}, {[]int{}, nil}, {[]int{7}, []int{7}}, {[]int{2, 1}, []int{1, 2}}, {[]int{1, 2}, []int{1, 2}}, {[]int{3, 3}, []int{3, 3}},
		{[]int{9, 1, 4}, []int{1, 4, 9}}, {[]int{9, 1, 4, 100}, []int{1, 4, 9, 100}}, {[]int{3, 1, 3, 2, -9}, []int{-9, 1, 2, 3, 3}},
		{[]int{0, 0, 0, -1, 0}, []int{-1, 0, 0, 0, 0}}, {[]int{5, 4, 5, 4, 5, 4}, []int{4, 4, 4, 5, 5, 5}},
		{[]int{edge, -edge}, []int{-edge, edge}}, {[]int{edge, 0, -edge, edge}, []int{-edge, 0, edge, edge}}, {[]int{edge}, []int{edge}}, {[]int{-edge}, []int{-edge}},
		{falling(16), []int{-8, -7, -6, -5, -4, -3, -2, -1, 0, 1, 2, 3, 4, 5, 6, 7}},
	} {
		if got := Sort(x.l); !slices.Equal(got, x.want) {
			t.Errorf("Sort(%v) = %v, not %v", x.l, got, x.want)
		}
	}
}

// P2.1: Mid.
func TestMid(t *testing.T) {
	for _, x := range []struct {
		l    []int
		want int
		ok   bool
	}{
		{nil, 0, false}, {[]int{}, 0, false}, {[]int{7}, 7, true}, {[]int{-7}, -7, true}, {[]int{0}, 0, true},
		{[]int{5, 8}, 6, true}, {[]int{8, 5}, 6, true}, {[]int{5, 9}, 7, true}, {[]int{5, -8}, -2, true}, {[]int{-8, 5}, -2, true}, {[]int{-1, 0}, -1, true}, {[]int{0, 1}, 0, true}, {[]int{-1, -2}, -2, true}, {[]int{-3, -5}, -4, true}, {[]int{4, 4}, 4, true}, {[]int{-1, 1}, 0, true},
		{[]int{9, 1, 4}, 4, true}, {[]int{1, 4, 9}, 4, true}, {[]int{-9, -1, -4}, -4, true}, {[]int{3, 3, 8}, 3, true}, {[]int{8, 3, 8}, 8, true}, {[]int{-5, -5, -5}, -5, true},
		{[]int{9, 1, 4, 100}, 6, true}, {[]int{-9, -1, -4, -100}, -7, true}, {[]int{0, -1, 50, -50}, -1, true}, {[]int{-3, -3, -3, -3}, -3, true}, {[]int{1, 1, 2, 2}, 1, true}, {[]int{-1, -1, -2, -2}, -2, true},
		{[]int{1, 2, 3, 4, 5}, 0, false}, {[]int{3, 3, 3, 3, 3}, 0, false}, {falling(16), 0, false}, {falling(17), 0, false}, {falling(1000), 0, false},
		{[]int{edge}, edge, true}, {[]int{-edge}, -edge, true}, {[]int{edge, edge}, edge, true}, {[]int{-edge, -edge}, -edge, true}, {[]int{edge, -edge}, 0, true}, {[]int{edge, edge - 1}, edge - 1, true}, {[]int{-edge, 1 - edge}, -edge, true},
		{[]int{edge, -edge, edge}, edge, true}, {[]int{edge, edge, edge, edge}, edge, true}, {[]int{-edge, -edge, -edge, 1 - edge}, -edge, true}, {[]int{-edge, edge, edge - 1, -edge}, -1, true},
		{[]int{edge + 1}, 0, false}, {[]int{-edge - 1}, 0, false}, {[]int{edge, edge + 1}, 0, false}, {[]int{-edge - 1, -edge}, 0, false}, {[]int{1, edge + 1, 2}, 0, false}, {[]int{1, 2, 3, -edge - 1}, 0, false},
	} {
		sameMid(t, x.l, x.want, x.ok)
	}
}

// P2.1: Without.
func TestWithout(t *testing.T) {
	for _, x := range []struct {
		l    []int
		i    int
		want []int
	}{
		{[]int{7, 8, 9}, 0, []int{8, 9}}, {[]int{7, 8, 9}, 1, []int{7, 9}}, {[]int{7, 8, 9}, 2, []int{7, 8}}, {[]int{7, 8, 9}, 3, []int{7, 8, 9}}, {[]int{7, 8, 9}, -1, []int{7, 8, 9}},
		{[]int{9, 7, 8}, 1, []int{9, 8}}, {[]int{9, 7, 8}, 5, []int{9, 7, 8}}, {[]int{4, 4, 4}, 1, []int{4, 4}}, {[]int{4, 5, 4}, 0, []int{5, 4}},
		{[]int{7}, 0, nil}, {[]int{7}, 1, []int{7}}, {[]int{7}, -1, []int{7}}, {nil, 0, nil}, {nil, -1, nil}, {[]int{}, 0, nil}, {[]int{}, 1, nil},
		{[]int{7, 8}, math.MaxInt, []int{7, 8}}, {[]int{7, 8}, math.MinInt, []int{7, 8}}, {[]int{7, 8}, edge + 1, []int{7, 8}}, {[]int{7, 8}, -edge - 1, []int{7, 8}},
		{[]int{edge, -edge}, 0, []int{-edge}}, {[]int{edge, -edge}, 1, []int{edge}}, {[]int{edge, -edge}, 2, []int{edge, -edge}},
		{[]int{edge + 1, 5}, 0, nil}, {[]int{5, -edge - 1}, 1, nil}, {[]int{edge + 1}, 5, nil}, {[]int{5, edge + 1}, -1, nil},
	} {
		if got := Without(x.l, x.i); !slices.Equal(got, x.want) {
			t.Errorf("Without(%v, %d) = %v, not %v", x.l, x.i, got, x.want)
		}
	}
}

// P2.1: Spread.
func TestSpread(t *testing.T) {
	for _, x := range []struct {
		l    []int
		want int
	}{
		{nil, 0}, {[]int{}, 0}, {[]int{4}, 0}, {[]int{-4}, 0}, {[]int{3, 3}, 0}, {[]int{5, 8}, 3}, {[]int{8, 5}, 3}, {[]int{-5, -8}, 3},
		{[]int{5, -2, 1}, 7}, {[]int{1, 5, -2}, 7}, {[]int{1, 9, -3, 4, 9}, 12}, {falling(16), 15}, {make([]int, 16), 0},
		{[]int{edge}, 0}, {[]int{-edge}, 0}, {[]int{edge, 0}, edge}, {[]int{0, -edge}, edge}, {[]int{edge, -edge}, 2 * edge}, {[]int{0, -edge, 7, edge}, 2 * edge},
		{[]int{edge + 1, 0}, 0}, {[]int{0, -edge - 1}, 0}, {[]int{1, edge + 1, 2}, 0}, {[]int{math.MinInt, math.MaxInt}, 0}, {falling(17), 0},
	} {
		if got := Spread(x.l); got != x.want {
			t.Errorf("Spread(%v) = %d, not %d", x.l, got, x.want)
		}
	}
}

// P2.1: of lists of more than 16 nothing is told; of 16, and of each length below, all is.
func TestLengths(t *testing.T) {
	for _, n := range []int{0, 1, 2, 3, 4, 5, 15, 16} {
		l := falling(n)
		rising := slices.Clone(l)
		slices.Reverse(rising)
		if got := Sort(l); !slices.Equal(got, rising) {
			t.Errorf("Sort(%v) = %v", l, got)
		}
		if got, want := Spread(l), max(n-1, 0); got != want {
			t.Errorf("Spread(%v) = %d, not %d", l, got, want)
		}
		want, ok := midOf(l)
		sameMid(t, l, want, ok)
		for _, i := range []int{-1, n, n + 1} {
			if got := Without(l, i); !slices.Equal(got, l) {
				t.Errorf("Without(%v, %d) = %v", l, i, got)
			}
		}
		for i := range n {
			if got, want := Without(l, i), slices.Concat(l[:i], l[i+1:]); !slices.Equal(got, want) {
				t.Errorf("Without(%v, %d) = %v, not %v", l, i, got, want)
			}
		}
	}
	for _, n := range []int{17, 18, 32, 1000} {
		nothingOf(t, falling(n))
		nothingOf(t, make([]int, n))
	}
}

// nothingOf asks for all that may be told of a list, at all places of it and outside.
func nothingOf(t *testing.T, l []int) {
	t.Helper()
	if got := Sort(l); len(got) != 0 {
		t.Errorf("Sort(%v) = %v", l, got)
	}
	sameMid(t, l, 0, false)
	if got := Spread(l); got != 0 {
		t.Errorf("Spread(%v) = %d", l, got)
	}
	for i := -1; i <= len(l); i++ {
		if got := Without(l, i); len(got) != 0 {
			t.Errorf("Without(%v, %d) = %v", l, i, got)
		}
	}
}

// P2.1: one number that is not small, at any place of a list of any length, and nothing is told; also by Without, at its place.
func TestOneBeyondAmongOthers(t *testing.T) {
	for _, far := range beyond() {
		for n := 1; n <= 16; n++ {
			for i := range n {
				l := falling(n)
				l[i] = far
				nothingOf(t, l)
			}
		}
	}
}

// P2.2: what is sorted rises, and has each number as often: all orders of up to 7 numbers, with equal ones and the edges among them.
func TestSortedInAllOrders(t *testing.T) {
	for _, l := range [][]int{nil, {-1}, {-1, 4}, {4, 4}, {-edge, 0, edge}, {1, 1, 2, 3}, {-2, -2, 0, 5, 5}, {0, 1, 2, 3, 4, 5}, {-edge, -3, -3, 0, 0, 0, edge}} {
		orders(l, func(now []int) {
			if got := Sort(now); !slices.Equal(got, l) {
				t.Fatalf("Sort(%v) = %v", now, got)
			}
		})
	}
}

// P2.2: long lists, whatever stands in them.
func TestSortedAndAsOften(t *testing.T) {
	for seed := range 400 {
		l := scrambled(seed%17, seed)
		got := Sort(l)
		if !slices.IsSorted(got) || len(got) != len(l) {
			t.Fatalf("Sort(%v) = %v", l, got)
		}
		often := map[int]int{}
		for i := range l {
			often[l[i]]++
			often[got[i]]--
		}
		for n, rest := range often {
			if rest != 0 {
				t.Fatalf("Sort(%v) = %v: %d is there %d times too few", l, got, n, rest)
			}
		}
		if want := slices.Sorted(slices.Values(l)); !slices.Equal(got, want) {
			t.Fatalf("Sort(%v) = %v, not %v", l, got, want)
		}
	}
}

// P2.1, P2.3: the mid, held against numbers of any size, of all lists of the grid up to 4, those that are not small among them; it is between the least and the greatest.
func TestMidOfAllLists(t *testing.T) {
	for n := 0; n <= 4; n++ {
		lists(grid(), n, func(l []int) {
			want, ok := midOf(l)
			got, has := Mid(l)
			if got != want || has != ok {
				t.Fatalf("Mid(%v) = %d, %t, not %d, %t", l, got, has, want, ok)
			}
			if has && (got < slices.Min(l) || got > slices.Max(l)) {
				t.Fatalf("Mid(%v) = %d is not between", l, got)
			}
		})
	}
}

// P2.3: the mid does not hang on the order.
func TestMidInAllOrders(t *testing.T) {
	for n := 1; n <= 4; n++ {
		lists([]int{-edge, -7, -2, 0, 1, edge}, n, func(l []int) {
			want, _ := Mid(l)
			orders(l, func(now []int) { sameMid(t, now, want, true) })
		})
	}
}

// P2.3: of three, and of four, one alone, at any place and however far off, leaves the mid between the others.
func TestOneFarOffLeavesTheMid(t *testing.T) {
	for n := 2; n <= 3; n++ {
		lists(small(), n, func(others []int) {
			lo, hi := slices.Min(others), slices.Max(others)
			for _, far := range small() {
				for i := 0; i <= n; i++ {
					l := slices.Insert(slices.Clone(others), i, far)
					if got, ok := Mid(l); !ok || got < lo || got > hi {
						t.Fatalf("Mid(%v) = %d, %t, though the others are from %d to %d", l, got, ok, lo, hi)
					}
				}
			}
		})
	}
}

// P2.1: Spread of all lists of the grid up to 3.
func TestSpreadOfAllLists(t *testing.T) {
	for n := 0; n <= 3; n++ {
		lists(grid(), n, func(l []int) {
			want := 0
			if n > 0 && !slices.ContainsFunc(l, func(x int) bool { return !isSmall(x) }) {
				want = slices.Max(l) - slices.Min(l)
			}
			if got := Spread(l); got != want {
				t.Fatalf("Spread(%v) = %d, not %d", l, got, want)
			}
		})
	}
}

// Rule 4: what is handed in stays as it was, and what lies behind a list's length is neither read nor written.
func TestListsStayAsTheyWere(t *testing.T) {
	for n := range 18 {
		memory := append(falling(n), edge+1, -3, 99, -edge-1)
		before := slices.Clone(memory)
		l := memory[:n]
		Mid(l)
		Spread(l)
		Sort(l)
		for i := -1; i <= n; i++ {
			Without(l, i)
		}
		if !slices.Equal(memory, before) {
			t.Errorf("%v was written into: %v", before, memory)
		}
		if n <= 16 && len(Sort(l)) != n {
			t.Errorf("Sort(%v) looked behind the list's length", l)
		}
	}
}

// Rule 4: an answer is new memory, to its last cell: writing into one of the two leaves the other.
func TestAnswersShareNoMemory(t *testing.T) {
	for n := 1; n <= 16; n++ {
		calls := []func(l []int) []int{Sort}
		for i := -1; i <= n; i++ {
			calls = append(calls, func(l []int) []int { return Without(l, i) })
		}
		for c, call := range calls {
			l := falling(n)
			slices.Reverse(l) // in order already: a Sort that moves nothing copies too
			before := slices.Clone(l)
			first, second := call(l), call(l)
			kept := slices.Clone(second)
			for i := range first[:cap(first)] {
				first[:cap(first)][i] = 77
			}
			if !slices.Equal(l, before) || !slices.Equal(second, kept) {
				t.Errorf("call %d of %v shares memory", c, before)
			}
			clear(l)
			if !slices.Equal(second, kept) {
				t.Errorf("call %d of %v shares memory with what it was given", c, before)
			}
		}
	}
}

// answers calls everything, list by list.
func answers(all [][]int) map[[6]int][]int {
	got := map[[6]int][]int{}
	for _, l := range all {
		key := [6]int{0, len(l)}
		copy(key[2:], l)
		mid, ok := Mid(l)
		got[key] = slices.Concat([]int{mid, Spread(l)}, Sort(l), Without(l, 0))
		if ok {
			got[key] = append(got[key], 1)
		}
	}
	return got
}

// P2: calls ahead change no answer: the same calls in another order answer the same.
func TestAnswersHangOnArgumentsAlone(t *testing.T) {
	var forth [][]int
	for n := range 4 {
		lists(grid(), n, func(l []int) { forth = append(forth, l) })
	}
	back := slices.Clone(forth)
	slices.Reverse(back)
	first, second := answers(forth), answers(back)
	if len(first) != len(forth) || len(first) != len(second) {
		t.Fatalf("%d answers, then %d, of %d lists", len(first), len(second), len(forth))
	}
	for key, got := range first {
		if !slices.Equal(second[key], got) {
			t.Errorf("%v: %v, then %v", key, got, second[key])
		}
	}
}
