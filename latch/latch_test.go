package latch

import (
	"math"
	"slices"
	"testing"

	"rudder/api"
)

// The signatures that other layers call.
var (
	_ func(r Rule) bool                                           = Right
	_ func(r Rule, s State) bool                                  = Fine
	_ func(r Rule, s State, tripped bool) (State, int, api.Errno) = Next
	_ func(r Rule, l []bool) (State, []int, api.Errno)            = Run
	_ struct{ Latch, Clean, Budget int }                          = Rule{}
	_ struct {
		Latched, Out         bool
		Strikes, Clean, Back int
	} = State{}
)

// The limits, and what happens in a cycle, written out so that a wrong constant of the package does not hide itself.
const (
	mostLatch  = 100
	mostClean  = 1000
	mostBudget = 10

	calm  = 0
	lost  = 1
	back  = 2
	ended = 3
)

// farOff are numbers that are none of a rule's, nor of a state's: many have the lower bits of one.
func farOff() []int {
	l := []int{math.MinInt, math.MinInt + 1, math.MinInt + 2, math.MaxInt, math.MaxInt - 1, -1, -2, -3, -100, -1000, 1001, 1002, 2000}
	for _, above := range []int{1 << 10, 1 << 15, 1 << 16, 1 << 31, 1 << 32, 1 << 33, 1 << 40, 1 << 62} {
		for _, n := range []int{0, 1, 2, 5} {
			l = append(l, above+n, -above+n, -above-n-1)
		}
	}
	return l
}

// rules are some that may be: small ones, and those at the ends.
func rules() []Rule {
	var l []Rule
	for _, strikes := range []int{1, 2, 3, 7, 99, mostLatch} {
		for _, clean := range []int{1, 2, 4, 999, mostClean} {
			for _, budget := range []int{0, 1, 2, 9, mostBudget} {
				l = append(l, Rule{strikes, clean, budget})
			}
		}
	}
	return l
}

// smallRules are all those of small numbers.
func smallRules() []Rule {
	var l []Rule
	for strikes := 1; strikes <= 3; strikes++ {
		for clean := 1; clean <= 3; clean++ {
			for budget := range 3 {
				l = append(l, Rule{strikes, clean, budget})
			}
		}
	}
	return l
}

// wrongRules are some that may not be, each by one number or by more.
func wrongRules() []Rule {
	l := []Rule{{}, {0, 1, 0}, {1, 0, 0}, {1, 1, -1}, {101, 1, 0}, {1, 1001, 0}, {1, 1, 11}, {-1, 1, 0}, {1, -1, 0}, {101, 1000, 10}, {100, 1001, 10}, {100, 1000, 11}, {0, 0, -1}, {101, 1001, 11}, {1000, 100, 10}, {10, 1000, 100}, {math.MinInt, math.MinInt, math.MinInt}, {math.MaxInt, math.MaxInt, math.MaxInt}}
	for _, n := range farOff() {
		l = append(l, Rule{n, 2, 1}, Rule{2, n, 1}, Rule{2, 2, n}, Rule{n, n, n})
	}
	return slices.DeleteFunc(l, rightOf)
}

// rightOf tells whether a rule may be, by the document's words.
func rightOf(r Rule) bool {
	return r.Latch >= 1 && r.Latch <= mostLatch && r.Clean >= 1 && r.Clean <= mostClean && r.Budget >= 0 && r.Budget <= mostBudget
}

// fineOf tells whether a state may be by a rule that may be, by the document's words.
func fineOf(r Rule, s State) bool {
	if s.Back < 0 || s.Back > r.Budget {
		return false
	}
	switch {
	case s.Out:
		return s.Latched && s.Strikes == r.Latch && s.Clean == 0 && s.Back == r.Budget
	case s.Latched:
		return s.Strikes == r.Latch && s.Clean >= 0 && s.Clean < r.Clean && s.Back < r.Budget
	}
	return s.Strikes >= 0 && s.Strikes < r.Latch && s.Clean == 0
}

// alike is a list of one bool, so many times.
func alike(n int, b bool) []bool { return slices.Repeat([]bool{b}, n) }

// trips and calms are cycles that all tripped, and that all did not.
func trips(n int) []bool { return alike(n, true) }
func calms(n int) []bool { return alike(n, false) }

// round are cycles behind which it came back once more.
func round(r Rule) []bool { return slices.Concat(trips(r.Latch), calms(r.Clean)) }

// rounds are cycles behind which it came back so many times more.
func rounds(r Rule, n int) []bool { return slices.Repeat(round(r), n) }

// reach are cycles behind which it is in a state, from the beginning on.
func reach(r Rule, s State) []bool {
	switch {
	case s.Out:
		return slices.Concat(rounds(r, s.Back), trips(r.Latch))
	case s.Latched:
		return slices.Concat(rounds(r, s.Back), trips(r.Latch), calms(s.Clean))
	}
	return slices.Concat(rounds(r, s.Back), trips(s.Strikes))
}

// states are those that a latch can have by a rule: all of a small one, and those at the ends of a great one.
func states(r Rule) []State {
	var l []State
	for _, b := range ends(0, r.Budget) {
		for _, n := range ends(0, r.Latch-1) {
			l = append(l, State{Strikes: n, Back: b})
		}
		if b == r.Budget {
			l = append(l, State{Latched: true, Out: true, Strikes: r.Latch, Back: b})
			continue
		}
		for _, n := range ends(0, r.Clean-1) {
			l = append(l, State{Latched: true, Strikes: r.Latch, Clean: n, Back: b})
		}
	}
	return l
}

// ends are the numbers of a range that is short, else the three at each end of it.
func ends(lo, hi int) []int {
	var l []int
	for n := lo; n <= hi; n++ {
		if n < lo+3 || n > hi-3 {
			l = append(l, n)
		}
	}
	return l
}

// row is how many of the last elements are a bool.
func row(l []bool, b bool) int {
	n := 0
	for n < len(l) && l[len(l)-1-n] == b {
		n++
	}
	return n
}

// firstRow is the place at which so many in a row are a bool for the first time, from a place on, or -1.
func firstRow(l []bool, from, size int, b bool) int {
	for i := from + size - 1; i < len(l); i++ {
		if !slices.Contains(l[i-size+1:i+1], !b) {
			return i
		}
	}
	return -1
}

// told is what a whole list does, by the rows in it: what P15.2 to P15.4 say.
func told(r Rule, l []bool) (State, []int) {
	what := make([]int, len(l))
	from := 0
	for n := 0; ; n++ {
		gone := firstRow(l, from, r.Latch, true)
		if gone < 0 {
			return State{Strikes: row(l[from:], true), Back: n}, what
		}
		if n == r.Budget {
			what[gone] = ended
			return State{Latched: true, Out: true, Strikes: r.Latch, Back: n}, what
		}
		what[gone] = lost
		home := firstRow(l, gone+1, r.Clean, false)
		if home < 0 {
			return State{Latched: true, Strikes: r.Latch, Clean: row(l[gone+1:], false), Back: n}, what
		}
		what[home] = back
		from = home + 1
	}
}

// runs holds Run of a list, with several ones behind it in its memory, against a state and what happened, and that the list, and what lies behind it, is as it was.
func runs(t testing.TB, r Rule, l []bool, want State, what []int) {
	t.Helper()
	for _, behind := range [][]bool{nil, {true, true, true}, {false, true, false}} {
		own := slices.Concat(l, behind)
		s, got, e := Run(r, own[:len(l)])
		if s != want || !slices.Equal(got, what) || e != api.OK {
			t.Fatalf("Run(%v, %s) = %v, %v, %d, not %v, %v", r, short(l), s, got, e, want, what)
		}
		if !slices.Equal(own, slices.Concat(l, behind)) {
			t.Fatalf("Run(%v, %s) wrote", r, short(l))
		}
	}
}

// ranAsTold holds Run of a list against the rows in it.
func ranAsTold(t testing.TB, r Rule, l []bool) {
	t.Helper()
	s, what := told(r, l)
	runs(t, r, l, s, what)
}

// stepped holds that Run answers, cycle by cycle, what Next does from the beginning on.
func stepped(t testing.TB, r Rule, l []bool) {
	t.Helper()
	end, what, e := Run(r, l)
	if e != api.OK || len(what) != len(l) {
		t.Fatalf("Run(%v, %s) = %d elements, %d", r, short(l), len(what), e)
	}
	var s State
	for i, tripped := range l {
		n, got, e := Next(r, s, tripped)
		if got != what[i] || e != api.OK {
			t.Fatalf("Next(%v, %v, %t) = %v, %d, %d; Run answers %d at %d of %s", r, s, tripped, n, got, e, what[i], i, short(l))
		}
		s = n
	}
	if s != end {
		t.Fatalf("Run(%v, %s) = %v, not %v", r, short(l), end, s)
	}
}

// nexts holds one cycle of a state against what it does.
func nexts(t testing.TB, r Rule, s State, tripped bool, want State, what int) {
	t.Helper()
	if n, got, e := Next(r, s, tripped); n != want || got != what || e != api.OK {
		t.Errorf("Next(%v, %v, %t) = %v, %d, %d, not %v, %d", r, s, tripped, n, got, e, want, what)
	}
}

// refused holds that states may not be by a rule, and have no next one.
func refused(t testing.TB, r Rule, l ...State) {
	t.Helper()
	for _, s := range l {
		if Fine(r, s) {
			t.Errorf("Fine(%v, %v)", r, s)
		}
		for _, tripped := range []bool{false, true} {
			if n, what, e := Next(r, s, tripped); n != (State{}) || what != 0 || e != api.ErrArg {
				t.Errorf("Next(%v, %v, %t) = %v, %d, %d", r, s, tripped, n, what, e)
			}
		}
	}
}

// short is a list as a test tells it.
func short(l []bool) string {
	out := ""
	for i, tripped := range l {
		switch {
		case i == 60:
			return out + " .."
		case tripped:
			out += "x"
		default:
			out += "."
		}
	}
	return out + "|"
}

// read is the list that a text tells: x is tripped.
func read(s string) []bool {
	l := make([]bool, len(s))
	for i := range s {
		l[i] = s[i] == 'x'
	}
	return l
}

// drawer draws numbers below others, the same ones for the same seed.
func drawer(seed int) func(below int) int {
	state := uint64(seed)*2862933555777941757 + 3037000493
	return func(below int) int {
		state = state*6364136223846793005 + 1442695040888963407
		return int(state>>29) % below
	}
}

// drawn is a list of rows, most of which are near to what a rule asks for.
func drawn(r Rule, draw func(int) int) []bool {
	var l []bool
	for range draw(12) {
		l = append(l, trips(max(0, r.Latch-2+draw(4)))...)
		l = append(l, calms(max(0, r.Clean-2+draw(4)))...)
		if draw(3) == 0 {
			l = append(l, trips(draw(3))...)
			l = append(l, calms(draw(3))...)
		}
	}
	return l
}

// P15.1: Right at both ends of Latch, Clean and Budget, and between.
func TestRight(t *testing.T) {
	for _, r := range rules() {
		if !Right(r) {
			t.Errorf("Right(%v) is false", r)
		}
	}
	for n := 1; n <= mostLatch; n++ {
		if !Right(Rule{n, 5, 2}) {
			t.Errorf("Right with a Latch of %d is false", n)
		}
	}
	for n := 1; n <= mostClean; n++ {
		if !Right(Rule{5, n, 2}) {
			t.Errorf("Right with a Clean of %d is false", n)
		}
	}
	for n := range mostBudget + 1 {
		if !Right(Rule{5, 5, n}) {
			t.Errorf("Right with a Budget of %d is false", n)
		}
	}
	if !Right(Rule{Latch: 1, Clean: 1}) || !Right(Rule{100, 1000, 10}) {
		t.Error("Right of the least or of the greatest rule is false")
	}
}

// P15.1: Right with one outside each of Latch, Clean and Budget, further outside, and at the ends of an int.
func TestRightOfWrongRules(t *testing.T) {
	for _, r := range wrongRules() {
		if Right(r) {
			t.Errorf("Right(%v)", r)
		}
	}
	for _, r := range rules() {
		for _, n := range append(farOff(), 0, -1, 101) {
			if n < 1 || n > mostLatch {
				wrongly(t, Rule{n, r.Clean, r.Budget})
			}
		}
		for _, n := range append(farOff(), 0, -1, 1001) {
			if n < 1 || n > mostClean {
				wrongly(t, Rule{r.Latch, n, r.Budget})
			}
		}
		for _, n := range append(farOff(), -1, 11) {
			if n < 0 || n > mostBudget {
				wrongly(t, Rule{r.Latch, r.Clean, n})
			}
		}
	}
	for n := -1100; n <= 1100; n++ {
		for _, r := range []Rule{{n, 5, 2}, {5, n, 2}, {5, 5, n}} {
			if Right(r) != rightOf(r) {
				t.Errorf("Right(%v) = %t", r, Right(r))
			}
		}
	}
}

// wrongly holds that a rule may not be, that no state may be by it, and that there is no run by it.
func wrongly(t testing.TB, r Rule) {
	t.Helper()
	if Right(r) {
		t.Errorf("Right(%v)", r)
	}
	refused(t, r, State{})
	for _, l := range [][]bool{nil, {}, {true}, {false}, {true, true, false}} {
		if s, what, e := Run(r, l); s != (State{}) || len(what) != 0 || e != api.ErrArg {
			t.Errorf("Run(%v, %s) = %v, %v, %d", r, short(l), s, what, e)
		}
	}
}

// P15.1: Fine of each state that a latch can have, by some rules; a run leads to each.
func TestFine(t *testing.T) {
	for _, r := range append(rules(), smallRules()...) {
		for _, s := range states(r) {
			if !Fine(r, s) {
				t.Errorf("Fine(%v, %v) is false", r, s)
			}
		}
	}
	for _, r := range append(smallRules(), Rule{5, 4, 3}, Rule{1, 1, 10}, Rule{100, 2, 2}, Rule{2, 1000, 2}, Rule{100, 1000, 10}) {
		for _, s := range states(r) {
			if got, _, e := Run(r, reach(r, s)); got != s || e != api.OK {
				t.Errorf("Run(%v) up to %v leads to %v, %d", r, s, got, e)
			}
		}
	}
}

// P15.1: Fine of all states of small numbers, by all rules of these: just those that a latch can have.
func TestFineOfSmallStates(t *testing.T) {
	for _, r := range smallRules() {
		for strikes := -2; strikes <= 5; strikes++ {
			for clean := -2; clean <= 5; clean++ {
				for came := -2; came <= 4; came++ {
					for kind := range 4 {
						s := State{Latched: kind%2 == 1, Out: kind > 1, Strikes: strikes, Clean: clean, Back: came}
						if Fine(r, s) != fineOf(r, s) {
							t.Errorf("Fine(%v, %v) = %t", r, s, Fine(r, s))
						}
						if fineOf(r, s) != slices.Contains(states(r), s) {
							t.Errorf("%v, %v: a run leads there, or may not", r, s)
						}
					}
				}
			}
		}
	}
}

// P15.1: in: Strikes and Back at each end, one outside, and at the ends of an int; Clean is 0 alone.
func TestFineIn(t *testing.T) {
	for _, r := range rules() {
		for _, s := range []State{{}, {Strikes: r.Latch - 1}, {Back: r.Budget}, {Strikes: r.Latch - 1, Back: r.Budget}} {
			if !Fine(r, s) {
				t.Errorf("Fine(%v, %v) is false", r, s)
			}
		}
		refused(t, r, State{Strikes: -1}, State{Strikes: r.Latch}, State{Strikes: r.Latch + 1}, State{Back: -1}, State{Back: r.Budget + 1}, State{Back: r.Budget + 2},
			State{Clean: 1}, State{Clean: -1}, State{Clean: r.Clean}, State{Clean: r.Clean + 1}, State{Strikes: r.Latch, Clean: r.Clean}, State{Strikes: -1, Clean: -1, Back: -1})
		if r.Clean > 1 {
			refused(t, r, State{Clean: r.Clean - 1}, State{Strikes: r.Latch - 1, Clean: 1, Back: r.Budget})
		}
		for _, n := range farOff() {
			refused(t, r, State{Strikes: n, Clean: n, Back: n}, State{Clean: n, Back: r.Budget})
			if n < 0 || n >= r.Latch {
				refused(t, r, State{Strikes: n})
			}
			if n < 0 || n > r.Budget {
				refused(t, r, State{Back: n}, State{Strikes: r.Latch - 1, Back: n})
			}
		}
	}
	refused(t, Rule{100, 1000, 10}, State{Clean: math.MaxInt}, State{Clean: math.MinInt}, State{Strikes: math.MinInt}, State{Strikes: math.MaxInt}, State{Back: math.MinInt}, State{Back: math.MaxInt})
}

// P15.1: latched: Strikes are Latch alone; Clean and Back at each end, one outside, and at the ends of an int.
func TestFineLatched(t *testing.T) {
	for _, r := range rules() {
		most := r.Budget - 1
		own := func(strikes, clean, came int) State {
			return State{Latched: true, Strikes: strikes, Clean: clean, Back: came}
		}
		if r.Budget == 0 {
			// Without a budget it is out at once.
			refused(t, r, own(r.Latch, 0, 0), own(r.Latch, r.Clean-1, 0), own(r.Latch, 0, -1))
			continue
		}
		for _, s := range []State{own(r.Latch, 0, 0), own(r.Latch, r.Clean-1, 0), own(r.Latch, 0, most), own(r.Latch, r.Clean-1, most)} {
			if !Fine(r, s) {
				t.Errorf("Fine(%v, %v) is false", r, s)
			}
		}
		refused(t, r, own(0, 0, 0), own(r.Latch-1, 0, 0), own(r.Latch+1, 0, 0), own(-1, 0, 0), own(-r.Latch, 0, 0), own(r.Latch, -1, 0), own(r.Latch, r.Clean, 0), own(r.Latch, r.Clean+1, most),
			own(r.Latch, 0, -1), own(r.Latch, 0, r.Budget), own(r.Latch, r.Clean-1, r.Budget), own(r.Latch, 0, r.Budget+1), own(r.Latch-1, r.Clean-1, most), own(r.Latch, r.Clean, r.Budget))
		for _, n := range farOff() {
			refused(t, r, own(n, n, n))
			if n != r.Latch {
				refused(t, r, own(n, 0, 0))
			}
			if n < 0 || n >= r.Clean {
				refused(t, r, own(r.Latch, n, 0), own(r.Latch, n, most))
			}
			if n < 0 || n >= r.Budget {
				refused(t, r, own(r.Latch, 0, n), own(r.Latch, r.Clean-1, n))
			}
		}
	}
}

// P15.1: out: Strikes are Latch, Clean is 0, and Back is Budget, each of them alone; one outside, and the ends of an int.
func TestFineOut(t *testing.T) {
	for _, r := range rules() {
		own := func(strikes, clean, came int) State {
			return State{Latched: true, Out: true, Strikes: strikes, Clean: clean, Back: came}
		}
		if !Fine(r, own(r.Latch, 0, r.Budget)) {
			t.Errorf("Fine(%v, out) is false", r)
		}
		refused(t, r, own(0, 0, r.Budget), own(r.Latch-1, 0, r.Budget), own(r.Latch+1, 0, r.Budget), own(-1, 0, r.Budget), own(r.Latch, 1, r.Budget), own(r.Latch, -1, r.Budget), own(r.Latch, r.Clean, r.Budget),
			own(r.Latch, 0, r.Budget-1), own(r.Latch, 0, r.Budget+1), own(r.Latch, 0, -1), own(r.Latch, 0, 11))
		for b := range r.Budget {
			refused(t, r, own(r.Latch, 0, b))
		}
		if r.Clean > 1 {
			refused(t, r, own(r.Latch, r.Clean-1, r.Budget))
		}
		for _, n := range farOff() {
			refused(t, r, own(n, n, n), own(r.Latch, n, r.Budget+1))
			if n != r.Latch {
				refused(t, r, own(n, 0, r.Budget))
			}
			if n != 0 {
				refused(t, r, own(r.Latch, n, r.Budget))
			}
			if n != r.Budget {
				refused(t, r, own(r.Latch, 0, n))
			}
		}
	}
}

// P15.1: what is out, and not latched, may not be, whatever else it has.
func TestFineOutAndNotLatched(t *testing.T) {
	for _, r := range rules() {
		refused(t, r, State{Out: true}, State{Out: true, Strikes: r.Latch, Back: r.Budget}, State{Out: true, Strikes: r.Latch - 1, Back: r.Budget}, State{Out: true, Back: r.Budget})
		for _, s := range states(r) {
			s.Latched, s.Out = false, true
			refused(t, r, s)
		}
	}
}

// P15.1: no state may be, nor has a next one, by a rule that may not be.
func TestStatesByWrongRules(t *testing.T) {
	for _, r := range wrongRules() {
		refused(t, r, State{}, State{Strikes: 1}, State{Latched: true, Strikes: r.Latch}, State{Latched: true, Out: true, Strikes: r.Latch, Back: r.Budget}, State{Back: r.Budget}, State{Strikes: r.Latch - 1}, State{Out: true}, State{Latched: true}, State{Strikes: -1, Clean: -1, Back: -1})
		for _, right := range []Rule{{1, 1, 0}, {2, 2, 1}, {100, 1000, 10}} {
			refused(t, r, states(right)...)
		}
		wrongly(t, r)
	}
	refused(t, Rule{101, 5, 2}, State{Strikes: 100}, State{Latched: true, Strikes: 101}, State{Strikes: 3})
	refused(t, Rule{5, 1001, 2}, State{Latched: true, Strikes: 5, Clean: 1000}, State{Latched: true, Strikes: 5})
	refused(t, Rule{5, 5, 11}, State{Back: 11}, State{Latched: true, Out: true, Strikes: 5, Back: 11}, State{Latched: true, Strikes: 5, Back: 10})
	refused(t, Rule{0, 5, 2}, State{Latched: true}, State{Latched: true, Out: true, Back: 2})
	refused(t, Rule{5, 5, -1}, State{Latched: true, Out: true, Strikes: 5, Back: -1})
}

// P15.1: Next of a state that is in, with Back at 0, one below Budget, and at Budget, at each number of strikes.
func TestNextIn(t *testing.T) {
	for _, r := range append(rules(), smallRules()...) {
		for _, b := range ends(0, r.Budget) {
			for _, n := range ends(0, r.Latch-1) {
				s := State{Strikes: n, Back: b}
				nexts(t, r, s, false, State{Back: b}, calm)
				switch {
				case n < r.Latch-1:
					nexts(t, r, s, true, State{Strikes: n + 1, Back: b}, calm)
				case b < r.Budget:
					nexts(t, r, s, true, State{Latched: true, Strikes: r.Latch, Back: b}, lost)
				default:
					nexts(t, r, s, true, State{Latched: true, Out: true, Strikes: r.Latch, Back: b}, ended)
				}
			}
		}
	}
	r := Rule{3, 2, 2}
	nexts(t, r, State{}, true, State{Strikes: 1}, 0)
	nexts(t, r, State{}, false, State{}, 0)
	nexts(t, r, State{Strikes: 1}, true, State{Strikes: 2}, 0)
	nexts(t, r, State{Strikes: 2}, false, State{}, 0)
	nexts(t, r, State{Strikes: 2}, true, State{Latched: true, Strikes: 3}, 1)
	nexts(t, r, State{Strikes: 2, Back: 1}, true, State{Latched: true, Strikes: 3, Back: 1}, 1)
	nexts(t, r, State{Strikes: 2, Back: 2}, true, State{Latched: true, Out: true, Strikes: 3, Back: 2}, 3)
	nexts(t, r, State{Strikes: 2, Back: 2}, false, State{Back: 2}, 0)
}

// P15.1: Next of a state that is latched, with Back at 0, and one below Budget, at each number of clean cycles.
func TestNextLatched(t *testing.T) {
	for _, r := range append(rules(), smallRules()...) {
		for _, b := range ends(0, r.Budget-1) {
			for _, n := range ends(0, r.Clean-1) {
				s := State{Latched: true, Strikes: r.Latch, Clean: n, Back: b}
				nexts(t, r, s, true, State{Latched: true, Strikes: r.Latch, Back: b}, calm)
				if n < r.Clean-1 {
					nexts(t, r, s, false, State{Latched: true, Strikes: r.Latch, Clean: n + 1, Back: b}, calm)
				} else {
					nexts(t, r, s, false, State{Back: b + 1}, back)
				}
			}
		}
	}
	r := Rule{2, 3, 2}
	nexts(t, r, State{Latched: true, Strikes: 2}, false, State{Latched: true, Strikes: 2, Clean: 1}, 0)
	nexts(t, r, State{Latched: true, Strikes: 2}, true, State{Latched: true, Strikes: 2}, 0)
	nexts(t, r, State{Latched: true, Strikes: 2, Clean: 2}, true, State{Latched: true, Strikes: 2}, 0)
	nexts(t, r, State{Latched: true, Strikes: 2, Clean: 2}, false, State{Back: 1}, 2)
	nexts(t, r, State{Latched: true, Strikes: 2, Clean: 2, Back: 1}, false, State{Back: 2}, 2)
}

// P15.1, P15.3: Next of a state that is out is that state, and nothing happened.
func TestNextOut(t *testing.T) {
	for _, r := range append(rules(), smallRules()...) {
		s := State{Latched: true, Out: true, Strikes: r.Latch, Back: r.Budget}
		nexts(t, r, s, true, s, calm)
		nexts(t, r, s, false, s, calm)
	}
}

// P15.1: with a Latch of 1, a Clean of 1, and a Budget of 0, each and all of them.
func TestNextWithLeastRules(t *testing.T) {
	nexts(t, Rule{1, 1, 0}, State{}, true, State{Latched: true, Out: true, Strikes: 1}, 3)
	nexts(t, Rule{1, 1, 0}, State{}, false, State{}, 0)
	nexts(t, Rule{1, 1, 1}, State{}, true, State{Latched: true, Strikes: 1}, 1)
	nexts(t, Rule{1, 1, 1}, State{Latched: true, Strikes: 1}, true, State{Latched: true, Strikes: 1}, 0)
	nexts(t, Rule{1, 1, 1}, State{Latched: true, Strikes: 1}, false, State{Back: 1}, 2)
	nexts(t, Rule{1, 1, 1}, State{Back: 1}, true, State{Latched: true, Out: true, Strikes: 1, Back: 1}, 3)
	nexts(t, Rule{1, 1, 1}, State{Back: 1}, false, State{Back: 1}, 0)
	nexts(t, Rule{1, 3, 1}, State{Latched: true, Strikes: 1, Clean: 1}, false, State{Latched: true, Strikes: 1, Clean: 2}, 0)
	nexts(t, Rule{3, 1, 1}, State{Latched: true, Strikes: 3}, false, State{Back: 1}, 2)
	nexts(t, Rule{3, 3, 0}, State{Strikes: 1}, true, State{Strikes: 2}, 0)
	nexts(t, Rule{3, 3, 0}, State{Strikes: 2}, true, State{Latched: true, Out: true, Strikes: 3}, 3)
	refused(t, Rule{1, 1, 0}, State{Strikes: 1}, State{Latched: true, Strikes: 1}, State{Back: 1}, State{Latched: true, Strikes: 1, Clean: 1}, State{Latched: true, Out: true, Strikes: 1, Back: 1})
	refused(t, Rule{1, 1, 1}, State{Strikes: 1}, State{Latched: true, Strikes: 1, Clean: 1}, State{Latched: true, Strikes: 1, Back: 1}, State{Latched: true, Out: true, Strikes: 1})
}

// P15.1: a fine state's next one is fine, tripped or not; there is none else.
func TestNextIsFine(t *testing.T) {
	for _, r := range append(rules(), smallRules()...) {
		for _, s := range states(r) {
			for _, tripped := range []bool{false, true} {
				if n, _, e := Next(r, s, tripped); !Fine(r, n) || !fineOf(r, n) || e != api.OK {
					t.Errorf("Next(%v, %v, %t) = %v, %d", r, s, tripped, n, e)
				}
			}
		}
	}
	for seed := range 20000 {
		draw := drawer(seed)
		r := Rule{draw(7), draw(7), draw(5) - 1}
		s := State{Latched: draw(2) == 0, Out: draw(3) == 0, Strikes: draw(8) - 1, Clean: max(0, draw(12)-6), Back: draw(5) - 1}
		if rightOf(r) && fineOf(r, s) {
			if n, _, e := Next(r, s, draw(2) == 0); !fineOf(r, n) || e != api.OK || !Fine(r, s) {
				t.Errorf("Next(%v, %v) = %v, %d", r, s, n, e)
			}
		} else {
			refused(t, r, s)
		}
	}
}

// P15.1: Run of no cycle, a nil list and one without elements, is the beginning.
func TestRunOfNone(t *testing.T) {
	for _, r := range append(rules(), smallRules()...) {
		for _, l := range [][]bool{nil, {}, trips(5)[:0], make([]bool, 0, 4)} {
			runs(t, r, l, State{}, nil)
		}
	}
}

// P15.1: Run of one cycle, and of two.
func TestRunOfOne(t *testing.T) {
	for _, r := range append(rules(), smallRules()...) {
		runs(t, r, read("."), State{}, []int{calm})
		switch {
		case r.Latch > 1:
			runs(t, r, read("x"), State{Strikes: 1}, []int{calm})
		case r.Budget > 0:
			runs(t, r, read("x"), State{Latched: true, Strikes: 1}, []int{lost})
		default:
			runs(t, r, read("x"), State{Latched: true, Out: true, Strikes: 1}, []int{ended})
		}
		for _, s := range []string{"..", ".x", "x.", "xx"} {
			ranAsTold(t, r, read(s))
		}
	}
}

// P15.1: the document's example, and ordinary runs.
func TestRun(t *testing.T) {
	for _, x := range []struct {
		r    Rule
		l    string
		want State
		what []int
	}{
		{Rule{2, 2, 1}, "xx..xx", State{Latched: true, Out: true, Strikes: 2, Back: 1}, []int{0, 1, 0, 2, 0, 3}},
		{Rule{2, 2, 1}, "x.xx.x..xx..x", State{Latched: true, Out: true, Strikes: 2, Back: 1}, []int{0, 0, 0, 1, 0, 0, 0, 2, 0, 3, 0, 0, 0}},
		{Rule{1, 1, 0}, ".x.", State{Latched: true, Out: true, Strikes: 1}, []int{0, 3, 0}},
		{Rule{1, 1, 2}, "x.x.x", State{Latched: true, Out: true, Strikes: 1, Back: 2}, []int{1, 2, 1, 2, 3}},
		{Rule{3, 1, 2}, "xx.xxx.xx", State{Strikes: 2, Back: 1}, []int{0, 0, 0, 0, 0, 1, 2, 0, 0}},
		{Rule{1, 3, 2}, "x..x...x..", State{Latched: true, Strikes: 1, Clean: 2, Back: 1}, []int{1, 0, 0, 0, 0, 0, 2, 1, 0, 0}},
		{Rule{2, 1, 1}, "xxxx.x.x.", State{Back: 1}, []int{0, 1, 0, 0, 2, 0, 0, 0, 0}},
		{Rule{2, 3, 3}, "xx.x.x.xx", State{Latched: true, Strikes: 2}, []int{0, 1, 0, 0, 0, 0, 0, 0, 0}},
	} {
		runs(t, x.r, read(x.l), x.want, x.what)
		stepped(t, x.r, read(x.l))
	}
}

// P15.1 to P15.4: all short lists, by all rules of small numbers, and that Next answers the same.
func TestAllShortRuns(t *testing.T) {
	for _, r := range append(smallRules(), Rule{4, 2, 1}, Rule{2, 5, 1}, Rule{1, 1, 10}) {
		for size := range 12 {
			for n := range 1 << size {
				l := make([]bool, size)
				for i := range l {
					l[i] = n>>i%2 == 1
				}
				want, what := told(r, l)
				if s, got, e := Run(r, l); s != want || !slices.Equal(got, what) || e != api.OK {
					t.Fatalf("Run(%v, %s) = %v, %v, %d, not %v, %v", r, short(l), s, got, e, want, what)
				}
				stepped(t, r, l)
			}
		}
	}
}

// P15.1 to P15.4: drawn lists, of rows that are near to what a rule asks for, and of any cycles, and that Next answers the same.
func TestDrawnRuns(t *testing.T) {
	for seed := range 4000 {
		draw := drawer(seed)
		r := Rule{1 + draw(6), 1 + draw(6), draw(5)}
		l := drawn(r, draw)
		ranAsTold(t, r, l)
		stepped(t, r, l)
		l = make([]bool, draw(200))
		share := 1 + draw(9)
		for i := range l {
			l[i] = draw(10) < share
		}
		ranAsTold(t, r, l)
		stepped(t, r, l)
	}
	for seed := range 40 {
		draw := drawer(seed)
		r := Rule{mostLatch - draw(3), 1 + draw(mostClean), mostBudget - draw(4)}
		l := slices.Concat(drawn(r, draw), drawn(r, draw))
		ranAsTold(t, r, l)
		stepped(t, r, l)
	}
}

// P15.1, P15.2: many cycles by the greatest rule, up to its being out and behind that.
func TestRunOfMany(t *testing.T) {
	r := Rule{100, 1000, 10}
	l := slices.Concat(rounds(r, 10), trips(100), calms(2000), trips(300))
	want := make([]int, len(l))
	for n := range 10 {
		want[n*1100+99], want[n*1100+1099] = lost, back
	}
	want[11099] = ended
	runs(t, r, l, State{Latched: true, Out: true, Strikes: 100, Back: 10}, want)
	ranAsTold(t, r, l)
	stepped(t, r, l)
	runs(t, r, l[:11099], State{Strikes: 99, Back: 10}, want[:11099])
	runs(t, r, l[:9900], State{Back: 9}, want[:9900])
	runs(t, r, l[:9899], State{Latched: true, Strikes: 100, Clean: 999, Back: 8}, want[:9899])
	runs(t, r, calms(200000), State{}, make([]int, 200000))
}

// P15.1: there is no run by a rule that may not be, whatever the list.
func TestRunByWrongRules(t *testing.T) {
	for _, r := range wrongRules() {
		for _, l := range [][]bool{nil, {}, trips(1), calms(1), trips(200), calms(2000), read("xx..xx..xx")} {
			own := slices.Clone(l)
			if s, what, e := Run(r, own); s != (State{}) || len(what) != 0 || e != api.ErrArg {
				t.Errorf("Run(%v, %s) = %v, %v, %d", r, short(l), s, what, e)
			}
			if !slices.Equal(own, l) {
				t.Errorf("Run(%v, %s) wrote", r, short(l))
			}
		}
	}
}

// P15.2: tripped cycles in a row, one fewer than Latch, just so many, and more: from the beginning on, behind cycles that are not tripped, behind one strike less, and behind its coming back.
func TestTrippedInARow(t *testing.T) {
	for _, r := range []Rule{{1, 1, 2}, {1, 5, 3}, {2, 2, 2}, {3, 1, 2}, {5, 4, 3}, {99, 3, 2}, {100, 2, 3}, {100, 20, 10}} {
		for _, before := range [][]bool{nil, calms(1), calms(2000), slices.Concat(trips(r.Latch-1), calms(1)), slices.Concat(trips(r.Latch-1), calms(1), trips(r.Latch-1), calms(3)), round(r), rounds(r, 2), slices.Concat(round(r), trips(r.Latch-1), calms(1)), slices.Concat(round(r), calms(7))} {
			s, what := told(r, before)
			came := s.Back
			none := slices.Concat(what, make([]int, r.Latch-1))
			runs(t, r, slices.Concat(before, trips(r.Latch-1)), State{Strikes: r.Latch - 1, Back: came}, none)
			runs(t, r, slices.Concat(before, trips(r.Latch-1), calms(1)), State{Back: came}, append(slices.Clone(none), calm))
			gone, kind := State{Latched: true, Strikes: r.Latch, Back: came}, lost
			if came == r.Budget {
				gone.Out, kind = true, ended
			}
			at := append(slices.Clone(none), kind)
			runs(t, r, slices.Concat(before, trips(r.Latch)), gone, at)
			for _, more := range []int{1, 2, r.Latch, 3 * r.Latch} {
				runs(t, r, slices.Concat(before, trips(r.Latch+more)), gone, append(slices.Clone(at), make([]int, more)...))
			}
		}
	}
}

// P15.2: tripped cycles that are not in a row never latch it, however many they are.
func TestTrippedNotInARow(t *testing.T) {
	for _, r := range []Rule{{2, 2, 1}, {3, 1, 0}, {5, 7, 2}, {100, 1000, 10}} {
		l := slices.Repeat(slices.Concat(trips(r.Latch-1), calms(1)), 300)
		runs(t, r, l, State{}, make([]int, len(l)))
		l = append(l, trips(r.Latch-1)...)
		runs(t, r, l, State{Strikes: r.Latch - 1}, make([]int, len(l)))
		stepped(t, r, l)
	}
}

// P15.2: cycles that are not tripped while it is latched, one fewer than Clean, just so many, and more, with a tripped one between them and without.
func TestCleanInARow(t *testing.T) {
	for _, r := range []Rule{{1, 1, 2}, {5, 1, 3}, {2, 2, 2}, {1, 3, 2}, {4, 5, 3}, {3, 999, 3}, {2, 1000, 3}, {20, 100, 10}} {
		for _, before := range [][]bool{nil, calms(3), round(r)} {
			for _, between := range [][]bool{nil, trips(1), trips(r.Latch + 2), slices.Concat(calms(r.Clean-1), trips(1)), slices.Concat(trips(1), calms(r.Clean-1), trips(1)), slices.Repeat(slices.Concat(calms(r.Clean-1), trips(2)), 5)} {
				l := slices.Concat(before, trips(r.Latch), between)
				s, what := told(r, l)
				if !s.Latched || s.Out || s.Clean != 0 {
					t.Fatalf("%v, %s: %v is not latched anew", r, short(l), s)
				}
				what = append(what, make([]int, r.Clean-1)...)
				runs(t, r, slices.Concat(l, calms(r.Clean-1)), State{Latched: true, Strikes: r.Latch, Clean: r.Clean - 1, Back: s.Back}, what)
				runs(t, r, slices.Concat(l, calms(r.Clean-1), trips(1)), State{Latched: true, Strikes: r.Latch, Back: s.Back}, append(slices.Clone(what), calm))
				what = append(what, back)
				runs(t, r, slices.Concat(l, calms(r.Clean)), State{Back: s.Back + 1}, what)
				for _, more := range []int{1, r.Clean, 3 * r.Clean} {
					runs(t, r, slices.Concat(l, calms(r.Clean+more)), State{Back: s.Back + 1}, append(slices.Clone(what), make([]int, more)...))
				}
			}
		}
	}
}

// P15.2: a latched one that trips now and then never comes back.
func TestCleanNotInARow(t *testing.T) {
	for _, r := range []Rule{{1, 2, 1}, {3, 3, 2}, {2, 1000, 10}} {
		l := slices.Concat(trips(r.Latch), slices.Repeat(slices.Concat(calms(r.Clean-1), trips(1)), 100))
		what := make([]int, len(l))
		what[r.Latch-1] = lost
		runs(t, r, l, State{Latched: true, Strikes: r.Latch}, what)
	}
	// With a Clean of 1 tripped cycles alone keep it latched.
	l := trips(500)
	what := make([]int, len(l))
	what[1] = lost
	runs(t, Rule{2, 1, 1}, l, State{Latched: true, Strikes: 2}, what)
}

// P15.2: it comes back Budget times and no more, with each budget.
func TestBudget(t *testing.T) {
	for budget := range mostBudget + 1 {
		for _, r := range []Rule{{1, 1, budget}, {2, 3, budget}, {4, 2, budget}} {
			for n := range budget + 1 {
				l := rounds(r, n)
				ranAsTold(t, r, l)
				if s, what, _ := Run(r, l); s != (State{Back: n}) || many(what, lost) != n || many(what, back) != n || many(what, ended) != 0 {
					t.Errorf("Run(%v) of %d rounds = %v, %v", r, n, s, what)
				}
			}
			for _, n := range []int{budget + 1, budget + 2, budget + 20} {
				s, what, _ := Run(r, rounds(r, n))
				if s != (State{Latched: true, Out: true, Strikes: r.Latch, Back: budget}) || many(what, lost) != budget || many(what, back) != budget || many(what, ended) != 1 {
					t.Errorf("Run(%v) of %d rounds = %v, %v", r, n, s, what)
				}
			}
		}
	}
}

// many is how often a number is in a list.
func many(l []int, n int) int {
	count := 0
	for _, x := range l {
		if x == n {
			count++
		}
	}
	return count
}

// P15.2: in any run what happened goes in turn: latched, back, and so on, and out at the end alone; each just behind so many in a row, never more often than the budget.
func TestHappenedInTurn(t *testing.T) {
	for seed := range 3000 {
		draw := drawer(seed)
		r := Rule{1 + draw(4), 1 + draw(4), draw(6)}
		l := slices.Concat(drawn(r, draw), drawn(r, draw))
		s, what, e := Run(r, l)
		if e != api.OK || len(what) != len(l) || many(what, back) > r.Budget || s.Back != many(what, back) || s.Out != (many(what, ended) == 1) || s.Latched != (s.Out || many(what, lost) > s.Back) {
			t.Fatalf("Run(%v, %s) = %v, %v, %d", r, short(l), s, what, e)
		}
		last := back
		for i, n := range what {
			switch n {
			case calm:
				continue
			case back:
				if last != lost || row(l[:i+1], false) < r.Clean {
					t.Fatalf("Run(%v, %s): back at %d", r, short(l), i)
				}
			case lost, ended:
				if last != back || row(l[:i+1], true) < r.Latch || (n == ended) != (many(what[:i], back) == r.Budget) {
					t.Fatalf("Run(%v, %s): %d at %d", r, short(l), n, i)
				}
			default:
				t.Fatalf("Run(%v, %s): %d at %d", r, short(l), n, i)
			}
			last = n
		}
	}
}

// P15.3: who is out, stays out, whatever comes, cycle by cycle and in a run.
func TestForGood(t *testing.T) {
	for _, r := range append(rules(), smallRules()...) {
		end := State{Latched: true, Out: true, Strikes: r.Latch, Back: r.Budget}
		draw := drawer(r.Latch*7 + r.Clean*3 + r.Budget)
		s := end
		for n := range 2500 {
			next, what, e := Next(r, s, n >= 1200 && draw(3) == 0)
			if next != end || what != 0 || e != api.OK {
				t.Fatalf("Next(%v, %v) = %v, %d, %d", r, s, next, what, e)
			}
			s = next
		}
	}
	for _, r := range append(smallRules(), Rule{100, 3, 1}, Rule{2, 1000, 1}, Rule{1, 1, 10}) {
		ahead := reach(r, State{Latched: true, Out: true, Strikes: r.Latch, Back: r.Budget})
		_, what := told(r, ahead)
		for _, more := range [][]bool{trips(1), calms(1), calms(r.Clean), calms(3 * r.Clean), trips(3 * r.Latch), rounds(r, 5), slices.Concat(calms(5000), trips(500)), drawn(r, drawer(3))} {
			runs(t, r, slices.Concat(ahead, more), State{Latched: true, Out: true, Strikes: r.Latch, Back: r.Budget}, slices.Concat(what, make([]int, len(more))))
		}
	}
}

// P15.4: without a tripped cycle it is in, with 0 strikes, however many cycles there are.
func TestUnharmed(t *testing.T) {
	for _, r := range append(rules(), smallRules()...) {
		for _, n := range []int{1, 2, r.Clean - 1, r.Clean, r.Clean + 1, r.Latch - 1, r.Latch, r.Latch + 1, 2500} {
			runs(t, r, calms(n), State{}, make([]int, n))
		}
		var s State
		for range 1100 {
			next, what, e := Next(r, s, false)
			if next != (State{}) || what != 0 || e != api.OK {
				t.Fatalf("Next(%v, %v, false) = %v, %d, %d", r, s, next, what, e)
			}
			s = next
		}
	}
}

// P15.4: one that came back is in, with 0 strikes, while nothing trips it.
func TestUnharmedBehindBack(t *testing.T) {
	for _, r := range smallRules() {
		for n := range r.Budget + 1 {
			l := rounds(r, n)
			_, what := told(r, l)
			runs(t, r, slices.Concat(l, calms(2000)), State{Back: n}, slices.Concat(what, make([]int, 2000)))
		}
	}
}

// Rule 4: what Run answers is new memory, in each call: what is written into it changes no other answer, and the list that was handed in may change behind it.
func TestNewMemory(t *testing.T) {
	r := Rule{2, 2, 1}
	l := read("xx..xx.")
	want := []int{0, 1, 0, 2, 0, 3, 0}
	_, first, _ := Run(r, l)
	_, second, _ := Run(r, l)
	for i := range first {
		first[i] = 9
	}
	if !slices.Equal(second, want) {
		t.Errorf("two answers share memory: %v", second)
	}
	clear(l)
	if !slices.Equal(second, want) {
		t.Errorf("an answer and a list share memory: %v", second)
	}
	runs(t, r, l, State{}, make([]int, 7))
	runs(t, r, read("xx..xx."), State{Latched: true, Out: true, Strikes: 2, Back: 1}, want)
	_, none, _ := Run(r, nil)
	_, other, _ := Run(r, []bool{})
	none, other = append(none, 5), append(other, 6)
	if none[0] != 5 || other[0] != 6 {
		t.Error("answers without elements share memory")
	}
}

// Rule 4: what lies behind a list's length in its memory is not read: it happens in no cycle.
func TestBehindTheList(t *testing.T) {
	own := read("xx..xx..xx")
	r := Rule{2, 2, 1}
	for size := range len(own) + 1 {
		want, what := told(r, own[:size])
		s, got, e := Run(r, own[:size])
		if s != want || !slices.Equal(got, what) || e != api.OK {
			t.Errorf("Run of the first %d = %v, %v, %d", size, s, got, e)
		}
	}
	if !slices.Equal(own, read("xx..xx..xx")) {
		t.Errorf("Run wrote: %s", short(own))
	}
}

// P2: what was asked before, right or wrong, tells nothing of what is asked then: each run is from the beginning on.
func TestAskedAgain(t *testing.T) {
	r := Rule{2, 2, 1}
	for _, before := range []func(){
		func() { Right(Rule{}) }, func() { Right(Rule{100, 1000, 10}) }, func() { Fine(r, State{Out: true}) }, func() { Fine(Rule{}, State{}) },
		func() { Next(r, State{Strikes: 1}, true) }, func() { Next(r, State{Strikes: 2}, true) }, func() { Next(Rule{}, State{}, true) }, func() { Next(r, State{Latched: true, Strikes: 2, Clean: 1}, false) },
		func() { Run(r, trips(9)) }, func() { Run(r, read("xx..xx")) }, func() { Run(Rule{}, trips(2)) }, func() { Run(Rule{1, 1, 0}, trips(1)) },
	} {
		before()
		if !Right(r) || Right(Rule{}) || !Fine(r, State{Strikes: 1, Back: 1}) || Fine(r, State{Out: true}) {
			t.Fatal("Right or Fine tells otherwise when it is asked again")
		}
		nexts(t, r, State{Strikes: 1}, true, State{Latched: true, Strikes: 2}, lost)
		refused(t, r, State{Strikes: 2})
		runs(t, r, read("xx.x"), State{Latched: true, Strikes: 2}, []int{0, 1, 0, 0})
	}
}

// P2: a state is a value: a copy of it goes on alone.
func TestCopiesGoOnAlone(t *testing.T) {
	r := Rule{2, 2, 1}
	s, _, _ := Run(r, read("xx."))
	kept := s
	for range 2 {
		nexts(t, r, s, false, State{Back: 1}, back)
		nexts(t, r, s, true, State{Latched: true, Strikes: 2}, calm)
	}
	if s != kept {
		t.Errorf("a state that was handed in is %v, not %v", s, kept)
	}
}

// P2: calls that run beside each other answer as they do alone.
func TestBeside(t *testing.T) {
	done := make(chan bool)
	for from := range 8 {
		go func() {
			ok := true
			for n := range 300 {
				draw := drawer(n + from*7)
				r := Rule{1 + draw(4), 1 + draw(4), draw(3)}
				l := drawn(r, draw)
				want, what := told(r, l)
				s, got, e := Run(r, l)
				ok = ok && s == want && slices.Equal(got, what) && e == api.OK && Fine(r, s) && Right(r)
			}
			done <- ok
		}()
	}
	for range 8 {
		if !<-done {
			t.Error("calls beside each other answer otherwise")
		}
	}
}
