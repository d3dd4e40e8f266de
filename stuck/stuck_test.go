package stuck

import (
	"math"
	"slices"
	"testing"

	"rudder/api"
)

// The signatures that other layers call.
var (
	_ func(window, bound int) (*Room, api.Errno) = New
	_ func(r *Room, n int) api.Errno             = (*Room).Vote
	_ func(r *Room) []int                        = (*Room).Votes
	_ func(r *Room) bool                         = (*Room).Moved
	_ func(r *Room) *Watch                       = (*Room).Watch
	_ func(w *Watch, n int) (bool, api.Errno)    = (*Watch).Come
	_ func(w *Watch)                             = (*Watch).Miss
	_ func(w *Watch) int                         = (*Watch).Run
)

const (
	least = -2147483648
	most  = 2147483647
)

// beyond are numbers that are no values, some of which have a value's lower bits.
func beyond() []int {
	return []int{
		least - 1, most + 1, least - 2, most + 2, 1 << 32, -1 << 32, 1<<32 + 5, -1<<32 + 5, 1 << 40, 1<<40 + 1, -1 << 40, -1<<40 - 1, 1 << 62,
		math.MinInt, math.MinInt + 1, math.MinInt + 5, math.MaxInt, math.MaxInt - 1,
	}
}

// made is a new room, which has no votes and has not moved.
func made(t testing.TB, window, bound int) *Room {
	t.Helper()
	r, e := New(window, bound)
	if r == nil || e != api.OK {
		t.Fatalf("New(%d, %d) = %v, %d", window, bound, r, e)
	}
	stands(t, r, nil, false)
	return r
}

func refusesNew(t testing.TB, window, bound int) {
	t.Helper()
	if r, e := New(window, bound); r != nil || e != api.ErrArg {
		t.Fatalf("New(%d, %d) = %v, %d", window, bound, r, e)
	}
}

// stands holds what a room has: its votes, and whether they moved.
func stands(t testing.TB, r *Room, votes []int, moved bool) {
	t.Helper()
	if got := r.Votes(); !slices.Equal(got, votes) {
		t.Fatalf("Votes() = %d, not %d", got, votes)
	}
	if got := r.Moved(); got != moved {
		t.Fatalf("Moved() = %t with the votes %d", got, votes)
	}
}

func votes(t testing.TB, r *Room, all ...int) {
	t.Helper()
	for _, n := range all {
		if e := r.Vote(n); e != api.OK {
			t.Fatalf("Vote(%d) = %d", n, e)
		}
	}
}

// refusesVote holds that what is no vote is answered with ErrArg, and changes nothing.
func refusesVote(t testing.TB, r *Room, n int) {
	t.Helper()
	before, moved := r.Votes(), r.Moved()
	if e := r.Vote(n); e != api.ErrArg {
		t.Fatalf("Vote(%d) = %d", n, e)
	}
	stands(t, r, before, moved)
}

// watched is a new watch of a room, whose run is 0.
func watched(t testing.TB, r *Room) *Watch {
	t.Helper()
	w := r.Watch()
	if w == nil {
		t.Fatal("Watch() = nil")
	}
	runs(t, w, 0)
	return w
}

func runs(t testing.TB, w *Watch, want int) {
	t.Helper()
	if got := w.Run(); got != want {
		t.Fatalf("Run() = %d, not %d", got, want)
	}
}

// comes holds whether a value is frozen, and its run.
func comes(t testing.TB, w *Watch, n int, frozen bool, run int) {
	t.Helper()
	if got, e := w.Come(n); got != frozen || e != api.OK {
		t.Fatalf("Come(%d) = %t, %d, not %t", n, got, e, frozen)
	}
	runs(t, w, run)
}

// refuses holds that what is no value is answered with ErrArg, and changes nothing.
func refuses(t testing.TB, w *Watch, n int) {
	t.Helper()
	run := w.Run()
	if got, e := w.Come(n); got || e != api.ErrArg {
		t.Fatalf("Come(%d) = %t, %d", n, got, e)
	}
	runs(t, w, run)
}

func misses(t testing.TB, w *Watch) {
	t.Helper()
	w.Miss()
	runs(t, w, 0)
}

// drawer gives numbers from 0 on that hang on seed alone.
func drawer(seed int) func(below int) int {
	state := uint64(seed)*2862933555777941757 + 3037000493
	return func(below int) int {
		state = state*6364136223846793005 + 1442695040888963407
		return int(state>>31) % below
	}
}

// lastOf are the last elements of a list, or all if they are fewer.
func lastOf(l []int, count int) []int { return l[max(0, len(l)-count):] }

// apart tells by the document's words whether as many votes as the window less one are more than the bound apart.
func apart(window, bound int, votes []int) bool {
	return len(votes) == window-1 && slices.Max(votes)-slices.Min(votes) > bound
}

// turn is a cycle: a value, or none, and the vote behind it.
type turn struct {
	miss    bool
	n, vote int
}

// frozenBy tells by the words of P9.2 whether the value of the last cycle of some is frozen.
func frozenBy(window, bound int, turns []turn) bool {
	if len(turns) < window {
		return false
	}
	row := turns[len(turns)-window:]
	var votes []int
	for i, x := range row {
		if x.miss || x.n != row[0].n {
			return false
		}
		if i < window-1 {
			votes = append(votes, x.vote)
		}
	}
	return apart(window, bound, votes)
}

// runBy is by the document's words how many times the last value of some cycles came in a row, at most the window.
func runBy(window int, turns []turn) int {
	run := 0
	for i := len(turns) - 1; i >= 0 && run < window; i-- {
		if turns[i].miss || turns[i].n != turns[len(turns)-1].n {
			break
		}
		run++
	}
	return run
}

// holds lets cycles come, each of which is held against the document's words.
func holds(t testing.TB, window, bound int, turns []turn) {
	t.Helper()
	r := made(t, window, bound)
	w := watched(t, r)
	for i, x := range turns {
		if x.miss {
			misses(t, w)
		} else {
			comes(t, w, x.n, frozenBy(window, bound, turns[:i+1]), runBy(window, turns[:i+1]))
		}
		votes(t, r, x.vote)
	}
}

// P9.1: New with a window from 2 to 16, and a bound at its ends: a room without votes.
func TestNew(t *testing.T) {
	for window := 2; window <= 16; window++ {
		for _, bound := range []int{0, 1, 5, 1 << 16, most - 1, most} {
			r := made(t, window, bound)
			votes(t, r, 7)
			stands(t, r, []int{7}, false)
		}
	}
}

// P9.1: New with a window of 1, 17, 0, -1, and far outside, whatever the bound: ErrArg, and no room.
func TestNewWithWindowOutside(t *testing.T) {
	for _, window := range append(beyond(), 1, 17, 0, -1, -2, 18, 32, -16, 1<<32+2, 1<<32+16, least, most) {
		for _, bound := range []int{0, 1, 5, most, -1, most + 1, math.MinInt, math.MaxInt} {
			refusesNew(t, window, bound)
		}
	}
}

// P9.1: New with a bound of -1, one above the greatest one, and far outside, whatever the window: ErrArg, and no room.
func TestNewWithBoundOutside(t *testing.T) {
	for _, bound := range append(beyond(), -1, -2, least) {
		for window := -1; window <= 18; window++ {
			refusesNew(t, window, bound)
		}
	}
}

// P9.1: Votes of each window: of none, of some, of as many as can be, and behind many times so many, the oldest one first.
func TestVotes(t *testing.T) {
	for window := 2; window <= 16; window++ {
		r := made(t, window, most)
		var all []int
		for i := range 9*window + 3 {
			n := 1000*i - 7*i*i + 13
			votes(t, r, n)
			all = append(all, n)
			stands(t, r, lastOf(all, window-1), false)
		}
	}
}

// P9.1: there is one vote behind one, one fewer than can be behind so many, just as many as can be, and no more behind one more.
func TestCountOfVotes(t *testing.T) {
	for window := 2; window <= 16; window++ {
		r := made(t, window, 0)
		for i := range 3 * window {
			votes(t, r, 5)
			if got, want := len(r.Votes()), min(i+1, window-1); got != want {
				t.Fatalf("window %d, behind %d votes: %d", window, i+1, got)
			}
		}
	}
}

// P9.1: votes that are alike, or 0, are votes: each of them has a place.
func TestVotesAlike(t *testing.T) {
	r := made(t, 5, 0)
	votes(t, r, 0, 0)
	stands(t, r, []int{0, 0}, false)
	votes(t, r, 3, 3)
	stands(t, r, []int{0, 0, 3, 3}, true)
	votes(t, r, 0)
	stands(t, r, []int{0, 3, 3, 0}, true)
	votes(t, r, 3, 3)
	stands(t, r, []int{3, 0, 3, 3}, true)
	votes(t, r, 3)
	stands(t, r, []int{0, 3, 3, 3}, true)
	votes(t, r, 3)
	stands(t, r, []int{3, 3, 3, 3}, false)
}

// P9.1, P2: who writes into what Votes handed out, or appends to it, changes nothing in the room, nor in another answer.
func TestVotesAreNew(t *testing.T) {
	for _, count := range []int{1, 2, 3, 4, 9} {
		r := made(t, 4, 5)
		var all []int
		for i := range count {
			votes(t, r, 10+i)
			all = append(all, 10+i)
		}
		want := lastOf(all, 3)
		first, second := r.Votes(), r.Votes()
		for i := range first {
			first[i] = 99999
		}
		_ = append(first[:0], 7777, 7777, 7777)
		if !slices.Equal(second, want) {
			t.Fatalf("another answer: %d, not %d", second, want)
		}
		stands(t, r, want, false)
		votes(t, r, 11)
		if !slices.Equal(second, want) {
			t.Fatalf("an answer behind a vote: %d, not %d", second, want)
		}
	}
}

// P9.1: Vote of -2^31, and of 2^31 less 1: they are votes.
func TestVoteAtItsEnds(t *testing.T) {
	for _, n := range []int{least, most, least + 1, most - 1} {
		r := made(t, 3, 0)
		votes(t, r, n)
		stands(t, r, []int{n}, false)
		votes(t, r, n)
		stands(t, r, []int{n, n}, false)
		votes(t, r, 0)
		stands(t, r, []int{n, 0}, true)
	}
}

// P9.1: Vote of what is none: ErrArg, and the votes, and what the next one lets go, stay.
func TestNoVote(t *testing.T) {
	for _, n := range beyond() {
		for window := 2; window <= 16; window += 7 {
			r := made(t, window, 3)
			var all []int
			for i := range 3 * window {
				refusesVote(t, r, n)
				refusesVote(t, r, n)
				votes(t, r, 4*i)
				all = append(all, 4*i)
				kept := lastOf(all, window-1)
				stands(t, r, kept, apart(window, 3, kept))
			}
		}
	}
}

// P9.1: a spread just at the bound, one less and one above it, up and down, the greatest one anywhere among the votes.
func TestMovedAtBound(t *testing.T) {
	for window := 3; window <= 16; window++ {
		for _, bound := range []int{0, 1, 5, 1000, 1 << 30, most - 1} {
			for _, x := range []struct {
				spread int
				moved  bool
			}{{bound - 1, false}, {bound, false}, {bound + 1, true}} {
				for at := range window - 1 {
					for _, way := range []int{1, -1} {
						if x.spread < 0 {
							continue
						}
						r := made(t, window, bound)
						all := make([]int, window-1)
						all[at] = way * x.spread
						votes(t, r, all...)
						stands(t, r, all, x.moved)
					}
				}
			}
		}
	}
}

// P9.1: with fewer votes than the window less one nothing has moved, however far apart they are.
func TestMovedWithTooFewVotes(t *testing.T) {
	for window := 2; window <= 16; window++ {
		for _, bound := range []int{0, 5, most} {
			r := made(t, window, bound)
			var all []int
			for i := range window - 2 {
				n := least
				if i%2 == 1 {
					n = most
				}
				votes(t, r, n)
				all = append(all, n)
				stands(t, r, all, false)
			}
			votes(t, r, 0)
			// The least one and 0 are farther apart than the greatest bound.
			stands(t, r, append(all, 0), window > 2)
		}
	}
}

// P9.1: the oldest vote that goes leaves the others alone to tell: what it alone made far apart is so no more.
func TestMovedWhenOldestGoes(t *testing.T) {
	for window := 3; window <= 16; window++ {
		for _, far := range []int{6, -6, most, least} {
			r := made(t, window, 5)
			votes(t, r, far)
			for range window - 2 {
				votes(t, r, 0)
			}
			if !r.Moved() {
				t.Fatalf("window %d: %d", window, r.Votes())
			}
			votes(t, r, 0)
			stands(t, r, make([]int, window-1), false)
			votes(t, r, far)
			// The new one is the last to go: so long they are far apart.
			for range window - 2 {
				if !r.Moved() {
					t.Fatalf("window %d: %d", window, r.Votes())
				}
				votes(t, r, 0)
			}
			if !r.Moved() {
				t.Fatalf("window %d: %d", window, r.Votes())
			}
			votes(t, r, 0)
			stands(t, r, make([]int, window-1), false)
		}
	}
}

// P9.1: votes that are as far apart as can be are so, with the greatest bound too.
func TestFarthestApart(t *testing.T) {
	for _, bound := range []int{0, 5, most - 1, most} {
		for window := 3; window <= 16; window++ {
			r := made(t, window, bound)
			w := watched(t, r)
			for i := range 3 * window {
				comes(t, w, 1, i >= window-1, min(i+1, window))
				votes(t, r, []int{least, most}[i%2])
				if got := r.Moved(); got != (i >= window-2) {
					t.Fatalf("window %d, behind %d votes: %t", window, i+1, got)
				}
			}
		}
	}
	r := made(t, 3, most)
	votes(t, r, 0, most)
	stands(t, r, []int{0, most}, false)
	votes(t, r, -1)
	stands(t, r, []int{most, -1}, true)
	votes(t, r, least)
	stands(t, r, []int{-1, least}, false)
	votes(t, r, 0)
	stands(t, r, []int{least, 0}, true)
}

// P9.1, P9.2: a window of 2 has one vote, which never moves: nothing is frozen.
func TestWindowOfTwo(t *testing.T) {
	for _, bound := range []int{0, 1, most} {
		r := made(t, 2, bound)
		w := watched(t, r)
		for i, n := range []int{0, 5, -5, least, most, 0, most, least, 1} {
			comes(t, w, 3, false, min(i+1, 2))
			votes(t, r, n)
			stands(t, r, []int{n}, false)
		}
	}
}

// P9.1: Run of a new watch, behind a value, the same one, another one, Miss, and a value that came ahead of it and comes again.
func TestRun(t *testing.T) {
	for _, n := range []int{0, 5, -5, least, most} {
		other := n/2 + 1
		w := watched(t, made(t, 4, 0))
		comes(t, w, n, false, 1)
		comes(t, w, n, false, 2)
		comes(t, w, other, false, 1)
		comes(t, w, other, false, 2)
		comes(t, w, n, false, 1)
		comes(t, w, other, false, 1)
		comes(t, w, n, false, 1)
		comes(t, w, n, false, 2)
		misses(t, w)
		comes(t, w, n, false, 1)
		comes(t, w, n, false, 2)
		misses(t, w)
		misses(t, w)
		comes(t, w, other, false, 1)
		comes(t, w, n, false, 1)
		for range 3 {
			runs(t, w, 1)
		}
	}
}

// P9.1: Miss ahead of any value: the run is 0, and the first value's is 1, of 0 too.
func TestMissAheadOfAnyValue(t *testing.T) {
	for _, n := range []int{0, 1, -1, least, most} {
		for times := range 4 {
			w := watched(t, made(t, 3, 0))
			for range times {
				misses(t, w)
			}
			comes(t, w, n, false, 1)
			comes(t, w, n, false, 2)
		}
	}
}

// P9.1: a first value of 0 has not come before: its run is 1, and it is frozen no earlier than another one.
func TestFirstValueOfZero(t *testing.T) {
	for window := 3; window <= 16; window++ {
		r := made(t, window, 0)
		for i := range window - 1 {
			votes(t, r, i)
		}
		w := watched(t, r)
		for i := range window - 1 {
			comes(t, w, 0, false, i+1)
		}
		comes(t, w, 0, true, window)
		misses(t, w)
		for i := range window - 1 {
			comes(t, w, 0, false, i+1)
		}
		comes(t, w, 0, true, window)
	}
}

// P9.1: the run rises to the window and stays there; another value lets it fall to 1.
func TestRunStaysAtWindow(t *testing.T) {
	for window := 2; window <= 16; window++ {
		w := watched(t, made(t, window, 0))
		for i := range 5 * window {
			comes(t, w, 9, false, min(i+1, window))
		}
		comes(t, w, 8, false, 1)
		comes(t, w, 9, false, 1)
		for i := range window {
			comes(t, w, 9, false, min(i+2, window))
		}
		misses(t, w)
		comes(t, w, 9, false, 1)
	}
}

// P9.1, P9.2: a value is frozen with a run of just the window, not of one less, and not while the votes stand still.
func TestFrozen(t *testing.T) {
	for window := 3; window <= 16; window++ {
		for _, x := range []struct {
			last  int
			moved bool
		}{{5, false}, {6, true}, {-5, false}, {-6, true}, {0, false}, {most, true}} {
			r := made(t, window, 5)
			w := watched(t, r)
			for i := range window - 2 {
				comes(t, w, 7, false, i+1)
				votes(t, r, 0)
			}
			comes(t, w, 7, false, window-1)
			votes(t, r, x.last)
			comes(t, w, 7, x.moved, window)
			comes(t, w, 7, x.moved, window)
			comes(t, w, 8, false, 1)
			for i := range window - 2 {
				comes(t, w, 8, false, i+2)
			}
			comes(t, w, 8, x.moved, window)
		}
	}
}

// P9.2: one that is frozen is so no more when the votes stand still, and is again when they move.
func TestFrozenNoMore(t *testing.T) {
	for window := 3; window <= 16; window++ {
		r := made(t, window, 5)
		w := watched(t, r)
		for i := range window - 1 {
			comes(t, w, 7, false, i+1)
			votes(t, r, 6*(i%2))
		}
		comes(t, w, 7, true, window)
		for left := window - 2; left >= -window; left-- {
			votes(t, r, 3)
			// Of 0 and 6, which go one by one, as long as two are left there is one of each.
			comes(t, w, 7, left >= 2, window)
		}
		stands(t, r, slices.Repeat([]int{3}, window-1), false)
		votes(t, r, 8)
		comes(t, w, 7, false, window)
		votes(t, r, 9)
		// A window of 3 has let go the last 3.
		comes(t, w, 7, window > 3, window)
		votes(t, r, 2)
		comes(t, w, 7, true, window)
		comes(t, w, 6, false, 1)
	}
}

// P9.2: the vote of the last cycle, which comes behind its value, counts for the next value alone.
func TestVoteOfLastCycle(t *testing.T) {
	r := made(t, 3, 5)
	w := watched(t, r)
	comes(t, w, 1, false, 1)
	votes(t, r, 0)
	comes(t, w, 1, false, 2)
	votes(t, r, 0)
	comes(t, w, 1, false, 3)
	votes(t, r, 100)
	comes(t, w, 1, true, 3)
	votes(t, r, 100)
	comes(t, w, 1, false, 3)
	votes(t, r, 100)
	comes(t, w, 1, false, 3)
}

// P9.2: what came in so many cycles, but not in a row, or with a miss between, is not frozen, however the votes move.
func TestNotInARow(t *testing.T) {
	for window := 3; window <= 16; window++ {
		for at := range window {
			for _, missed := range []bool{false, true} {
				r := made(t, window, 0)
				w := watched(t, r)
				for i := range window + at {
					switch {
					case i == at && missed:
						misses(t, w)
					case i == at:
						comes(t, w, 4, false, 1)
					default:
						run := i + 1
						if i > at {
							run = i - at
						}
						comes(t, w, 5, false, run)
					}
					votes(t, r, i)
				}
				comes(t, w, 5, true, window)
			}
		}
	}
}

// P9.1: -2^31, and 2^31 less 1, are values: they have a run, and freeze.
func TestValuesAtTheirEnds(t *testing.T) {
	for _, n := range []int{least, most, least + 1, most - 1} {
		r := made(t, 3, 0)
		votes(t, r, 1, 2)
		w := watched(t, r)
		comes(t, w, n, false, 1)
		comes(t, w, n, false, 2)
		comes(t, w, n, true, 3)
		comes(t, w, -1-n, false, 1)
	}
}

// P9.1: Come of what is no value: ErrArg, and false; the run, and what the next value is held against, stay.
func TestNoValue(t *testing.T) {
	for _, n := range beyond() {
		r := made(t, 3, 0)
		votes(t, r, 1, 2)
		w := watched(t, r)
		for range 2 {
			refuses(t, w, n)
			comes(t, w, 0, false, 1)
			refuses(t, w, n)
			refuses(t, w, n)
			comes(t, w, 0, false, 2)
			refuses(t, w, n)
			comes(t, w, 0, true, 3)
			refuses(t, w, n)
			comes(t, w, 0, true, 3)
			refuses(t, w, n)
			comes(t, w, 5, false, 1)
			refuses(t, w, n)
			comes(t, w, 5, false, 2)
			misses(t, w)
			refuses(t, w, n)
		}
		stands(t, r, []int{1, 2}, true)
	}
}

// P9.1: what comes to a watch is no vote, and a vote comes to no watch.
func TestValuesAreNoVotes(t *testing.T) {
	r := made(t, 3, 0)
	w := watched(t, r)
	comes(t, w, 8, false, 1)
	comes(t, w, 9, false, 1)
	stands(t, r, nil, false)
	votes(t, r, 9)
	runs(t, w, 1)
	comes(t, w, 9, false, 2)
	votes(t, r, 4)
	stands(t, r, []int{9, 4}, true)
	misses(t, w)
	stands(t, r, []int{9, 4}, true)
	refuses(t, w, most+1)
	stands(t, r, []int{9, 4}, true)
}

// P2: two watches of one room do not touch each other, but have its votes, those that came ahead of a watch too.
func TestTwoWatchesOfOneRoom(t *testing.T) {
	r := made(t, 3, 5)
	a := watched(t, r)
	comes(t, a, 1, false, 1)
	comes(t, a, 1, false, 2)
	votes(t, r, 0, 6)
	b := watched(t, r)
	comes(t, b, 1, false, 1)
	comes(t, a, 1, true, 3)
	comes(t, b, 2, false, 1)
	runs(t, a, 3)
	misses(t, b)
	runs(t, a, 3)
	comes(t, a, 1, true, 3)
	comes(t, b, 1, false, 1)
	comes(t, b, 1, false, 2)
	misses(t, a)
	runs(t, b, 2)
	comes(t, b, 1, true, 3)
	comes(t, a, 1, false, 1)
	refuses(t, a, least-1)
	comes(t, b, 1, true, 3)
	votes(t, r, 6)
	comes(t, b, 1, false, 3)
	comes(t, a, 1, false, 2)
	votes(t, r, 0)
	comes(t, b, 1, true, 3)
	comes(t, a, 1, true, 3)
}

// P2: two rooms beside each other, alike or not, do not touch each other, nor do their watches.
func TestTwoRooms(t *testing.T) {
	for _, x := range []struct{ window, bound int }{{3, 5}, {4, 0}, {2, 0}, {16, most}} {
		a, b := made(t, 3, 5), made(t, x.window, x.bound)
		v, w := watched(t, a), watched(t, b)
		votes(t, a, 0, 6)
		stands(t, b, nil, false)
		comes(t, v, 1, false, 1)
		runs(t, w, 0)
		for i := range 5 {
			comes(t, w, 1, false, min(i+1, x.window))
		}
		comes(t, v, 1, false, 2)
		votes(t, b, 7)
		stands(t, a, []int{0, 6}, true)
		stands(t, b, []int{7}, false)
		misses(t, w)
		comes(t, v, 1, true, 3)
		refusesVote(t, b, most+1)
		stands(t, a, []int{0, 6}, true)
	}
}

// P1, P9.1: on a nil room ErrArg, nothing, false, nil, whatever comes; New of what may not be gives one, and its watch is nil.
func TestNilRoom(t *testing.T) {
	wrong, _ := New(1, 0)
	for _, r := range []*Room{nil, wrong} {
		for _, n := range append(beyond(), 0, 1, -1, 5, least, most) {
			refusesVote(t, r, n)
			stands(t, r, nil, false)
			if r.Watch() != nil {
				t.Fatal("a watch of a nil room")
			}
		}
		nilWatch(t, r.Watch())
	}
}

// P1, P9.1: on a nil watch ErrArg, false, nothing, 0, whatever comes.
func TestNilWatch(t *testing.T) { nilWatch(t, nil) }

func nilWatch(t testing.TB, w *Watch) {
	t.Helper()
	for _, n := range append(beyond(), 0, 1, -1, 5, least, most) {
		for range 3 {
			refuses(t, w, n)
			misses(t, w)
			runs(t, w, 0)
		}
	}
}

// P9.2: all rows of six cycles, of two values or none and two votes, at the windows of 2 to 4, by the document's words.
func TestAllShortRows(t *testing.T) {
	var all []turn
	for _, vote := range []int{0, 2} {
		all = append(all, turn{miss: true, vote: vote}, turn{n: 0, vote: vote}, turn{n: 1, vote: vote})
	}
	for _, x := range []struct{ window, bound int }{{2, 0}, {3, 1}, {3, 2}, {4, 1}} {
		row := make([]turn, 6)
		for code := range 6 * 6 * 6 * 6 * 6 * 6 {
			for i := range row {
				row[i] = all[code%6]
				code /= 6
			}
			holds(t, x.window, x.bound, row)
		}
	}
}

// P9.2: long rows of values that often stay, of misses, and of votes that stand still and move, by the document's words.
func TestAnyRows(t *testing.T) {
	for seed := range 300 {
		draw := drawer(seed)
		window := 2 + seed%15
		bound := draw(1 << (1 + seed%31))
		at, vote := draw(9)-4, least+draw(1<<32)
		var turns []turn
		for range 400 {
			if draw(2*window) == 0 {
				at = []int{draw(3), -1 - at, least + draw(1<<32), least, most}[draw(5)]
			}
			switch draw(window + 1) {
			case 0:
				vote = least + draw(1<<32)
			case 1:
				vote = min(most, vote+bound+draw(2))
			case 2:
				vote = max(least, vote-bound-draw(2))
			}
			turns = append(turns, turn{miss: draw(3*window) == 0, n: at, vote: vote})
		}
		holds(t, window, bound, turns)
	}
}

// P9.1: the calls in any order, no vote a cycle or many of them, what is none among them, by the document's words.
func TestCallsInAnyOrder(t *testing.T) {
	for seed := range 200 {
		draw := drawer(seed)
		window, bound := 2+draw(15), draw(12)
		r := made(t, window, bound)
		ws := []*Watch{watched(t, r), watched(t, r)}
		turns := make([][]turn, 2)
		var all []int
		for range 600 {
			kept := lastOf(all, window-1)
			stands(t, r, kept, apart(window, bound, kept))
			which := draw(2)
			w := ws[which]
			switch k := draw(20); {
			case k < 9:
				n := 1 - draw(window+2)/(window+1)
				turns[which] = append(turns[which], turn{n: n})
				run := runBy(window, turns[which])
				comes(t, w, n, run == window && apart(window, bound, kept), run)
			case k < 10 && draw(window) == 0:
				turns[which] = append(turns[which], turn{miss: true})
				misses(t, w)
			case k < 12:
				refuses(t, w, beyond()[draw(len(beyond()))])
			case k < 14:
				refusesVote(t, r, beyond()[draw(len(beyond()))])
			default:
				n := draw(16)
				votes(t, r, n)
				all = append(all, n)
			}
		}
	}
}

// P2: the same row is told alike by each room of the same window and bound.
func TestSameRowSameAnswers(t *testing.T) {
	for seed := range 20 {
		told := make([][]int, 2)
		for which := range told {
			draw := drawer(seed)
			r := made(t, 3+seed%14, 5)
			w := watched(t, r)
			for range 300 {
				if draw(20) == 0 {
					w.Miss()
				}
				frozen, e := w.Come(draw(20) / 19)
				told[which] = append(told[which], w.Run(), int(e))
				if frozen {
					told[which] = append(told[which], -1)
				}
				votes(t, r, draw(9))
				told[which] = append(told[which], r.Votes()...)
			}
		}
		if !slices.Equal(told[0], told[1]) {
			t.Fatalf("seed %d: not alike", seed)
		}
	}
}
