package fix

import (
	"math"
	"math/big"
	"slices"
	"testing"
)

// edge is 2^40, written out so that a wrong constant of the package does not hide itself.
const edge = 1099511627776

// The signatures that other layers call.
var (
	_ func(n, lo, hi int) int   = Clamp
	_ func(n, by int) int       = Floor
	_ func(n, by int) int       = Shift
	_ func(a, b int) int        = Apart
	_ func(n, to, by int) int   = Near
	_ func(l []bool) int        = Bits
	_ func(mask, i int) bool    = Has
	_ func(mask int) (bits int) = Count
)

// grid holds ordinary numbers, the edges, and what is just beyond and far beyond them.
func grid() []int {
	return []int{
		math.MinInt, math.MinInt + 1, -2*edge - 1, -2 * edge, -edge - 2, -edge - 1, -edge, -edge + 1, -edge / 2,
		-65536, -41, -40, -17, -16, -7, -3, -2, -1, 0, 1, 2, 3, 7, 15, 16, 17, 39, 40, 41, 42, 63, 64, 65535, 65536,
		edge / 2, edge - 1, edge, edge + 1, edge + 2, 2 * edge, 2*edge + 1, math.MaxInt - 1, math.MaxInt,
	}
}

func allSmall(numbers ...int) bool {
	for _, n := range numbers {
		if n < -1099511627776 || n > 1099511627776 {
			return false
		}
	}
	return true
}

// P1.1: Clamp.
func TestClamp(t *testing.T) {
	for _, x := range []struct{ n, lo, hi, want int }{
		{2, 0, 3, 2}, {5, 0, 3, 3}, {-5, 0, 3, 0}, {0, 0, 3, 0}, {3, 0, 3, 3}, {-1, 0, 3, 0}, {4, 0, 3, 3},
		{-9, -7, -2, -7}, {-1, -7, -2, -2}, {-4, -7, -2, -4}, {8, 4, 4, 4}, {4, 4, 4, 4}, {1, 4, 4, 4},
		{5, 7, 3, 7}, {9, 7, 3, 7}, {1, 7, 3, 7}, {3, 7, 3, 7}, {7, 7, 3, 7}, {4, 4, 3, 4}, {5, edge, -edge, edge},
		{edge, -edge, edge, edge}, {-edge, -edge, edge, -edge}, {edge, 1, 2, 2}, {-edge, 1, 2, 1}, {5, 6, edge, 6}, {5, -edge, 4, 4},
		{edge + 1, 1, 2, 0}, {-edge - 1, 1, 2, 0}, {5, edge + 1, 7, 0}, {5, -edge - 1, 4, 0}, {5, 6, edge + 1, 0}, {5, 6, -edge - 1, 0},
		{math.MinInt, 1, 2, 0}, {math.MaxInt, 1, 2, 0}, {1, math.MinInt, 2, 0}, {1, 1, math.MaxInt, 0}, {1, math.MaxInt, math.MinInt, 0},
	} {
		if got := Clamp(x.n, x.lo, x.hi); got != x.want {
			t.Errorf("Clamp(%d, %d, %d) = %d, not %d", x.n, x.lo, x.hi, got, x.want)
		}
	}
}

// P1.1: Floor.
func TestFloor(t *testing.T) {
	for _, x := range []struct{ n, by, want int }{
		{7, 2, 3}, {8, 2, 4}, {-7, 2, -4}, {-8, 2, -4}, {-9, 2, -5}, {1, 5, 0}, {-1, 5, -1}, {-5, 5, -1}, {-6, 5, -2}, {0, 5, 0}, {-7, 1, -7}, {7, 1, 7},
		{7, 0, 0}, {7, -1, 0}, {7, -2, 0}, {-7, -2, 0}, {-7, 0, 0}, {7, -edge, 0}, {0, 0, 0},
		{edge, 1, edge}, {-edge, 1, -edge}, {edge, edge, 1}, {-edge, edge, -1}, {edge - 1, edge, 0}, {-1, edge, -1}, {1, edge, 0}, {-edge, edge - 1, -2},
		{edge + 1, 2, 0}, {-edge - 1, 2, 0}, {7, edge + 1, 0}, {-7, edge + 1, 0}, {7, -edge - 1, 0},
		{math.MinInt, -1, 0}, {math.MinInt, 1, 0}, {math.MaxInt, 1, 0}, {-7, math.MaxInt, 0}, {-7, math.MinInt, 0},
	} {
		if got := Floor(x.n, x.by); got != x.want {
			t.Errorf("Floor(%d, %d) = %d, not %d", x.n, x.by, got, x.want)
		}
	}
}

// P1.1: Shift.
func TestShift(t *testing.T) {
	for _, x := range []struct{ n, by, want int }{
		{9, 0, 9}, {-9, 0, -9}, {9, 1, 4}, {-9, 1, -5}, {-8, 1, -4}, {8, 3, 1}, {7, 3, 0}, {-7, 3, -1}, {0, 5, 0},
		{edge, 0, edge}, {-edge, 0, -edge}, {edge, 40, 1}, {edge - 1, 40, 0}, {-edge, 40, -1}, {-1, 40, -1}, {1, 40, 0}, {edge, 39, 2}, {-edge, 39, -2},
		{9, -1, 0}, {-9, -1, 0}, {9, 41, 0}, {-9, 41, 0}, {edge, 41, 0}, {-9, 63, 0}, {-9, 64, 0}, {-9, edge, 0}, {-9, -edge, 0},
		{edge + 1, 0, 0}, {-edge - 1, 0, 0}, {edge + 1, 1, 0}, {-edge - 1, 1, 0}, {-9, edge + 1, 0}, {-9, -edge - 1, 0},
		{math.MinInt, 1, 0}, {math.MaxInt, 1, 0}, {-9, math.MaxInt, 0}, {-9, math.MinInt, 0},
	} {
		if got := Shift(x.n, x.by); got != x.want {
			t.Errorf("Shift(%d, %d) = %d, not %d", x.n, x.by, got, x.want)
		}
	}
}

// P1.1: Apart.
func TestApart(t *testing.T) {
	for _, x := range []struct{ a, b, want int }{
		{-3, 4, 7}, {4, -3, 7}, {3, 4, 1}, {4, 3, 1}, {-3, -4, 1}, {5, 5, 0}, {0, 0, 0}, {0, -6, 6},
		{edge, 0, edge}, {0, -edge, edge}, {-edge, edge, 2 * edge}, {edge, -edge, 2 * edge}, {edge, edge, 0},
		{edge + 1, 0, 0}, {0, edge + 1, 0}, {-edge - 1, 0, 0}, {0, -edge - 1, 0}, {edge + 1, -edge - 1, 0},
		{math.MinInt, 0, 0}, {0, math.MinInt, 0}, {math.MinInt, math.MaxInt, 0}, {math.MaxInt, 1, 0}, {1, math.MaxInt, 0},
	} {
		if got := Apart(x.a, x.b); got != x.want {
			t.Errorf("Apart(%d, %d) = %d, not %d", x.a, x.b, got, x.want)
		}
	}
}

// P1.1: Near.
func TestNear(t *testing.T) {
	for _, x := range []struct{ n, to, by, want int }{
		{0, 9, 4, 4}, {0, -9, 4, -4}, {0, 3, 4, 3}, {0, -3, 4, -3}, {0, 4, 4, 4}, {0, -4, 4, -4}, {0, 5, 4, 4}, {0, -5, 4, -4}, {6, 6, 4, 6}, {-10, -3, 2, -8}, {10, 3, 2, 8},
		{5, 9, 0, 5}, {5, -9, 0, 5}, {5, 9, -1, 5}, {5, -9, -1, 5}, {5, 9, -edge, 5}, {5, 5, -1, 5},
		{-edge, edge, edge, 0}, {edge, -edge, edge, 0}, {edge, edge - 1, edge, edge - 1}, {-edge, 1 - edge, edge, 1 - edge}, {edge, -edge, 1, edge - 1}, {1, edge, edge, edge}, {-1, -edge, edge, -edge}, {edge, edge, edge, edge}, {edge, 7, -1, edge},
		{edge + 1, 9, 4, 0}, {-edge - 1, 9, 4, 0}, {5, edge + 1, 4, 0}, {5, -edge - 1, 4, 0}, {5, 9, edge + 1, 0}, {5, 9, -edge - 1, 0}, {edge + 1, 9, -1, 0}, {5, edge + 1, -1, 0},
		{math.MinInt, 9, 4, 0}, {math.MaxInt, 9, 4, 0}, {5, math.MaxInt, 4, 0}, {5, math.MinInt, 4, 0}, {5, 9, math.MaxInt, 0}, {5, 9, math.MinInt, 0},
	} {
		if got := Near(x.n, x.to, x.by); got != x.want {
			t.Errorf("Near(%d, %d, %d) = %d, not %d", x.n, x.to, x.by, got, x.want)
		}
	}
}

func trues(n int) []bool {
	l := make([]bool, n)
	for i := range l {
		l[i] = true
	}
	return l
}

// P1.1: Bits.
func TestBits(t *testing.T) {
	last := make([]bool, 16)
	last[15] = true
	for _, x := range []struct {
		l    []bool
		want int
	}{
		{nil, 0}, {[]bool{}, 0}, {[]bool{false}, 0}, {[]bool{true}, 1}, {[]bool{false, true}, 2}, {[]bool{true, false, true}, 5}, {[]bool{true, true, false, false}, 3},
		{last, 32768}, {trues(15), 32767}, {trues(16), 65535}, {make([]bool, 16), 0},
		{trues(17), 0}, {append(trues(16), false), 0}, {append([]bool{true}, make([]bool, 16)...), 0}, {trues(64), 0}, {trues(1000), 0},
	} {
		if got := Bits(x.l); got != x.want {
			t.Errorf("Bits(%v) = %d, not %d", x.l, got, x.want)
		}
	}
}

// Rule 4: what is handed in is not written into, and what lies behind a list's length is not read.
func TestBitsLeavesTheList(t *testing.T) {
	memory := trues(20)
	memory[1] = false
	before := slices.Clone(memory)
	if got := Bits(memory[:3]); got != 5 {
		t.Errorf("Bits of the first three = %d, not 5", got)
	}
	if got := Bits(memory[:0]); got != 0 {
		t.Errorf("Bits of none = %d, not 0", got)
	}
	Bits(memory)
	if !slices.Equal(memory, before) {
		t.Error("Bits wrote into its list")
	}
}

// P1.1: Has.
func TestHas(t *testing.T) {
	for _, x := range []struct {
		mask, i int
		want    bool
	}{
		{10, 0, false}, {10, 1, true}, {10, 2, false}, {10, 3, true}, {10, 4, false}, {1, 0, true},
		{0, 0, false}, {0, 15, false}, {65535, 0, true}, {65535, 15, true}, {32768, 15, true}, {32767, 15, false}, {32768, 14, false},
		{65535, 16, false}, {65535, -1, false}, {65535, 17, false}, {1, 64, false},
		{65536, 16, false}, {65536, 0, false}, {65537, 0, false}, {131071, 15, false}, {-1, 0, false}, {-1, 15, false}, {-1, -1, false}, {-65535, 0, false},
		{edge + 1, 0, false}, {math.MaxInt, 0, false}, {math.MinInt, 15, false}, {65535, math.MaxInt, false}, {65535, math.MinInt, false},
	} {
		if got := Has(x.mask, x.i); got != x.want {
			t.Errorf("Has(%d, %d) = %t, not %t", x.mask, x.i, got, x.want)
		}
	}
}

// P1.1: Count.
func TestCount(t *testing.T) {
	for _, x := range []struct{ mask, want int }{
		{0, 0}, {1, 1}, {2, 1}, {3, 2}, {10, 2}, {32768, 1}, {32767, 15}, {65534, 15}, {65535, 16},
		{65536, 0}, {65537, 0}, {131071, 0}, {-1, 0}, {-65535, 0}, {edge + 1, 0}, {edge - 1, 0}, {math.MaxInt, 0}, {math.MinInt, 0},
	} {
		if got := Count(x.mask); got != x.want {
			t.Errorf("Count(%d) = %d, not %d", x.mask, got, x.want)
		}
	}
}

// floorOf divides by numbers of any size, which round down where the divisor is above 0.
func floorOf(n, by *big.Int) int {
	q, rest := new(big.Int).QuoRem(n, by, new(big.Int))
	if rest.Sign() < 0 {
		q.Sub(q, big.NewInt(1))
	}
	return int(q.Int64())
}

// P1.2: Floor and Shift, held against divisions of numbers of any size, at all pairs of the grid.
func TestFloorsHoldAgainstBigNumbers(t *testing.T) {
	for _, n := range grid() {
		for _, by := range grid() {
			floor, shift := 0, 0
			if allSmall(n, by) && by >= 1 {
				floor = floorOf(big.NewInt(int64(n)), big.NewInt(int64(by)))
			}
			if allSmall(n) && 0 <= by && by <= 40 {
				shift = floorOf(big.NewInt(int64(n)), new(big.Int).Lsh(big.NewInt(1), uint(by)))
			}
			if got := Floor(n, by); got != floor {
				t.Errorf("Floor(%d, %d) = %d, not %d", n, by, got, floor)
			}
			if got := Shift(n, by); got != shift {
				t.Errorf("Shift(%d, %d) = %d, not %d", n, by, got, shift)
			}
		}
	}
}

// P1.2: what is floored, times what it was divided by, is not above, and nearer than that; a shift is such a division.
func TestFloorsAreNotAboveAndNear(t *testing.T) {
	for n := -300; n <= 300; n++ {
		for by := 1; by <= 70; by++ {
			if rest := n - Floor(n, by)*by; rest < 0 || rest >= by {
				t.Fatalf("Floor(%d, %d) leaves %d", n, by, rest)
			}
		}
	}
	for _, n := range grid() {
		if !allSmall(n) {
			continue
		}
		for by := 0; by <= 40; by++ {
			power := 1 << by
			if rest := n - Shift(n, by)*power; rest < 0 || rest >= power {
				t.Errorf("Shift(%d, %d) leaves %d", n, by, rest)
			}
			if Shift(n, by) != Floor(n, power) {
				t.Errorf("Shift(%d, %d) is %d, Floor by %d is %d", n, by, Shift(n, by), power, Floor(n, power))
			}
		}
	}
}

// P1.3: what is clamped is between, and is the number itself if that is between.
func TestClampedIsBetween(t *testing.T) {
	for _, n := range grid() {
		for _, lo := range grid() {
			for _, hi := range grid() {
				got := Clamp(n, lo, hi)
				var right bool
				switch {
				case !allSmall(n, lo, hi):
					right = got == 0
				case lo > hi:
					right = got == lo
				case lo <= n && n <= hi:
					right = got == n
				default:
					right = lo <= got && got <= hi && (got == lo) == (n < lo || lo == hi) && (got == hi) == (n > hi || lo == hi)
				}
				if !right {
					t.Errorf("Clamp(%d, %d, %d) = %d", n, lo, hi, got)
				}
			}
		}
	}
}

// P1.3: what is moved is between where it was and where to, and as near as it may come.
func TestMovedIsBetween(t *testing.T) {
	for _, n := range grid() {
		for _, to := range grid() {
			for _, by := range grid() {
				got := Near(n, to, by)
				var right bool
				switch {
				case !allSmall(n, to, by):
					right = got == 0
				case by < 0:
					right = got == n
				default:
					far := max(n, to) - min(n, to)
					moved := max(n, got) - min(n, got)
					right = min(n, to) <= got && got <= max(n, to) && moved == min(far, by)
				}
				if !right {
					t.Errorf("Near(%d, %d, %d) = %d", n, to, by, got)
				}
			}
		}
	}
}

// P1.1: Apart, and that it is the same both ways, at all pairs of the grid.
func TestApartBothWays(t *testing.T) {
	for _, a := range grid() {
		for _, b := range grid() {
			want := 0
			if allSmall(a, b) {
				want = max(a, b) - min(a, b)
			}
			if got := Apart(a, b); got != want || got != Apart(b, a) {
				t.Errorf("Apart(%d, %d) = %d, not %d", a, b, got, want)
			}
		}
	}
}

// P1.3: masks are what their bits are: every mask goes to its bits and comes back.
func TestMasksAreTheirBits(t *testing.T) {
	for mask := range 65536 {
		l := make([]bool, 16)
		rest, count := mask, 0
		for i := range l {
			l[i] = rest%2 == 1
			if l[i] {
				count++
			}
			if Has(mask, i) != l[i] {
				t.Fatalf("Has(%d, %d) = %t", mask, i, !l[i])
			}
			rest /= 2
		}
		if got := Bits(l); got != mask {
			t.Fatalf("Bits of the bits of %d = %d", mask, got)
		}
		if got := Count(mask); got != count {
			t.Fatalf("Count(%d) = %d, not %d", mask, got, count)
		}
	}
}

// P1.1: a list shorter than 16 is a mask too, of its own elements alone.
func TestBitsOfShortLists(t *testing.T) {
	for n := range 17 {
		if got, want := Bits(trues(n)), 1<<n-1; got != want {
			t.Errorf("Bits of %d trues = %d, not %d", n, got, want)
		}
		for i := range n {
			l := make([]bool, n)
			l[i] = true
			if got := Bits(l); got != 1<<i {
				t.Errorf("Bits of %d with the one at %d = %d", n, i, got)
			}
		}
	}
}

// P1: Has and Count at all of the grid, those that are no masks and no bits among them.
func TestMasksAtAllArguments(t *testing.T) {
	for _, mask := range grid() {
		is := 0 <= mask && mask <= 65535
		if !is && Count(mask) != 0 {
			t.Errorf("Count(%d) = %d", mask, Count(mask))
		}
		for _, i := range grid() {
			if (!is || i < 0 || i > 15) && Has(mask, i) {
				t.Errorf("Has(%d, %d)", mask, i)
			}
		}
	}
}

// answers calls everything once, with arguments from the grid.
func answers(numbers []int) map[[4]int]int {
	all := map[[4]int]int{}
	for _, a := range numbers {
		all[[4]int{0, a}] = Count(a)
		for _, b := range numbers {
			all[[4]int{1, a, b}] = Floor(a, b)
			all[[4]int{2, a, b}] = Shift(a, b)
			all[[4]int{3, a, b}] = Apart(a, b)
			all[[4]int{4, a, b}] = Bits([]bool{Has(a, b)})
			for _, c := range numbers {
				all[[4]int{5, a, b, c}] = Clamp(a, b, c)
				all[[4]int{6, a, b, c}] = Near(a, b, c)
			}
		}
	}
	return all
}

// P2: calls ahead change no answer: the same calls in another order answer the same.
func TestAnswersHangOnArgumentsAlone(t *testing.T) {
	forth := grid()
	back := slices.Clone(forth)
	slices.Reverse(back)
	first, second := answers(forth), answers(back)
	if len(first) != len(second) {
		t.Fatalf("%d answers, then %d", len(first), len(second))
	}
	for call, got := range first {
		if second[call] != got {
			t.Errorf("%v: %d, then %d", call, got, second[call])
		}
	}
}
