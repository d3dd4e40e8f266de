package equal

import (
	"math"
	"math/big"
	"testing"

	"rudder/api"
)

// The signatures that other layers call.
var (
	_ func(auth, gain int) (*Trim, api.Errno)  = New
	_ func(t *Trim, n int) (int, api.Errno)    = (*Trim).Even
	_ func(t *Trim, n, vote int) (e api.Errno) = (*Trim).Learn
	_ func(t *Trim) int                        = (*Trim).Offset
)

// The ends of values, written out so that a wrong constant of the package does not hide itself.
const (
	least = -2147483648
	most  = 2147483647
	far   = 4294967295 // a value is at most so far from a vote
)

// beyond are numbers that are no values, some of which have a value's lower bits.
func beyond() []int {
	return []int{
		most + 1, least - 1, most + 2, least - 2, far, -far, far + 1, -far - 1, far + 6, -far + 4, 1 << 33, 1<<33 + 5, 1 << 40, 1<<40 + 1, -1 << 40, -1<<40 - 1, 1 << 62,
		math.MinInt, math.MinInt + 1, math.MinInt + 5, math.MaxInt, math.MaxInt - 1,
	}
}

// some are values: the ends, those beside them, and ordinary ones.
func some() []int {
	return []int{0, 1, -1, 5, -7, 1000, -1000, 65536, -65537, 1000000, 1 << 30, -1 << 30, most - 1, least + 1, most, least}
}

// made is a new trim, whose offset is 0.
func made(t testing.TB, auth, gain int) *Trim {
	t.Helper()
	x, e := New(auth, gain)
	if x == nil || e != api.OK {
		t.Fatalf("New(%d, %d) = %v, %d", auth, gain, x, e)
	}
	offsets(t, x, 0)
	return x
}

func refusesNew(t testing.TB, auth, gain int) {
	t.Helper()
	if x, e := New(auth, gain); x != nil || e != api.ErrArg {
		t.Fatalf("New(%d, %d) = %v, %d", auth, gain, x, e)
	}
}

// offsets holds the offset, and what it makes even.
func offsets(t testing.TB, x *Trim, want int) {
	t.Helper()
	if got := x.Offset(); got != want {
		t.Fatalf("Offset() = %d, not %d", got, want)
	}
	for _, n := range []int{0, 12345, least, most} {
		evens(t, x, n, n-want)
	}
}

func evens(t testing.TB, x *Trim, n, want int) {
	t.Helper()
	if got, e := x.Even(n); got != want || e != api.OK {
		t.Fatalf("Even(%d) = %d, %d, not %d", n, got, e, want)
	}
}

// learns holds the offset behind a value and a vote.
func learns(t testing.TB, x *Trim, n, vote, want int) {
	t.Helper()
	from := x.Offset()
	if e := x.Learn(n, vote); e != api.OK {
		t.Fatalf("Learn(%d, %d) = %d", n, vote, e)
	}
	if got := x.Offset(); got != want {
		t.Fatalf("from %d: behind Learn(%d, %d) Offset() = %d, not %d", from, n, vote, got, want)
	}
}

// moves holds the offset behind a value that is so far above the vote.
func moves(t testing.TB, x *Trim, apart, want int) {
	t.Helper()
	way := apart % 3
	n, vote := pair(apart, max(way, -way))
	learns(t, x, n, vote, want)
}

// pair is a value, and a vote, so far apart: the lowest ones, the highest ones, or those in the midst.
func pair(apart, which int) (n, vote int) {
	lo, hi := max(least, least-apart), min(most, most-apart)
	vote = []int{lo, hi, lo + (hi-lo)/2}[which]
	return vote + apart, vote
}

// refuses holds that what is no value, or no vote, is answered with ErrArg, and changes nothing.
func refuses(t testing.TB, x *Trim, n, vote int) {
	t.Helper()
	offset := x.Offset()
	if e := x.Learn(n, vote); e != api.ErrArg {
		t.Fatalf("Learn(%d, %d) = %d", n, vote, e)
	}
	offsets(t, x, offset)
}

func refusesEven(t testing.TB, x *Trim, n int) {
	t.Helper()
	offset := x.Offset()
	if got, e := x.Even(n); got != 0 || e != api.ErrArg {
		t.Fatalf("Even(%d) = %d, %d", n, got, e)
	}
	offsets(t, x, offset)
}

// standing is a trim whose offset is a chosen one.
func standing(t testing.TB, auth, gain, offset int) *Trim {
	t.Helper()
	x, p := made(t, auth, gain), 1<<gain
	for at := 0; at != offset; {
		step := max((-far-at)/p, min((far-at)/p, offset-at))
		moves(t, x, at+step*p, at+step)
		at += step
	}
	offsets(t, x, offset)
	return x
}

// learned is an offset behind a value and a vote, by the document's words, with numbers of any size.
func learned(offset, n, vote, auth, gain int) int {
	move := big.NewInt(int64(n))
	move.Sub(move, big.NewInt(int64(vote)))
	move.Sub(move, big.NewInt(int64(offset)))
	// Div rounds down where what it divides by is above 0.
	move.Div(move, new(big.Int).Exp(big.NewInt(2), big.NewInt(int64(gain)), nil))
	move.Add(move, big.NewInt(int64(offset)))
	bound := big.NewInt(int64(auth))
	if move.Cmp(bound) > 0 {
		return auth
	}
	if move.Cmp(bound.Neg(bound)) < 0 {
		return -auth
	}
	return int(move.Int64())
}

// holds lets values and votes come, each of which is held against the document's words.
func holds(t testing.TB, x *Trim, auth, gain int, rows ...[2]int) {
	t.Helper()
	for _, y := range rows {
		learns(t, x, y[0], y[1], learned(x.Offset(), y[0], y[1], auth, gain))
	}
}

// drawer gives numbers from 0 on that hang on seed alone.
func drawer(seed int) func(below int) int {
	state := uint64(seed)*2862933555777941757 + 3037000493
	return func(below int) int {
		state = state*6364136223846793005 + 1442695040888963407
		return int(state>>29) % below
	}
}

// one is 1, where something is so, and else 0.
func one(is bool) int {
	if is {
		return 1
	}
	return 0
}

// P11.1: New with each gain from 0 to 8 and authorities from 0 to 2^31 less 1: a trim whose offset is 0.
func TestNew(t *testing.T) {
	for gain := range 9 {
		for _, auth := range []int{0, 1, 2, 8, 9, 40, 1 << 16, 1 << 30, most - 1, most} {
			x := made(t, auth, gain)
			for _, n := range some() {
				evens(t, x, n, n)
				learns(t, x, n, n, 0)
			}
			offsets(t, x, 0)
		}
	}
}

// wrongGains are numbers that are no gains, some of which have a gain's lower bits.
func wrongGains() []int {
	return append(beyond(), -1, 9, -2, 10, -8, 16, 31, 32, 40, 41, 63, 64, 256, -256, 1<<16, most, least)
}

// wrongAuthorities are numbers that are no authorities, some of which have an authority's lower bits.
func wrongAuthorities() []int {
	return append(beyond(), -1, -2, -40, -1<<16, -most, least)
}

// P11.1: New with an authority of less than 0, or above 2^31 less 1: ErrArg, and no trim.
func TestNewWithAuthorityOutside(t *testing.T) {
	for _, auth := range wrongAuthorities() {
		for gain := range 9 {
			refusesNew(t, auth, gain)
		}
	}
}

// P11.1: New with a gain outside of 0 to 8, by one and by more: ErrArg, and no trim.
func TestNewWithGainOutside(t *testing.T) {
	for _, gain := range wrongGains() {
		for _, auth := range []int{0, 1, 8, 40, most} {
			refusesNew(t, auth, gain)
		}
	}
}

// P11.1: New with both outside: ErrArg, and no trim.
func TestNewWithBothOutside(t *testing.T) {
	for _, auth := range wrongAuthorities() {
		for _, gain := range wrongGains() {
			refusesNew(t, auth, gain)
		}
	}
}

// P11.1: the authority and the gain are not taken for one another.
func TestAuthorityIsNotGain(t *testing.T) {
	x := made(t, 2, 5)
	moves(t, x, 64, 2)
	moves(t, x, 1000, 2)
	x = made(t, 5, 2)
	moves(t, x, 8, 2)
	moves(t, x, 1000, 5)
}

// P11.1: the first value, at each gain: how far it is from the vote, shifted by the gain, rounded down on both sides of 0, and clamped.
func TestFirstLearn(t *testing.T) {
	for gain := range 9 {
		p := 1 << gain
		for _, y := range [][2]int{
			{0, 0}, {1, one(p == 1)}, {-1, -1}, {p, 1}, {p - 1, 0}, {-p, -1}, {-p - 1, -2}, {2 * p, 2}, {-2 * p, -2}, {2*p - 1, 1}, {1 - 2*p, -2 + one(p == 1)},
			{100 * p, 100}, {100*p - 1, 99}, {-100 * p, -100}, {-99*p - 1, -100}, {1000 * p, 1000}, {-1000 * p, -1000},
			{1000*p + p, 1000}, {-1000*p - 1, -1000}, {far, 1000}, {-far, -1000},
		} {
			for which := range 3 {
				n, vote := pair(y[0], which)
				learns(t, made(t, 1000, gain), n, vote, y[1])
			}
		}
	}
}

// P11.1: a few known rows: the gains 1, 2, 8, and 0.
func TestKnownRows(t *testing.T) {
	for _, x := range []struct {
		auth, gain int
		row        [][3]int
	}{
		{6, 1, [][3]int{{20, 10, 5}, {20, 10, 6}, {40, 10, 6}, {10, 10, 3}, {10, 10, 1}, {10, 10, 0}, {10, 11, -1}, {-60, 10, -6}, {-4, 2, -6}, {-3, 2, -6}, {-1, 2, -5}}},
		{20, 2, [][3]int{{16, 0, 4}, {0, -16, 7}, {20, 4, 9}, {90, 50, 16}, {116, 100, 16}, {-1, 0, 11}, {9, 10, 8}, {-50, 50, -19}, {-19, 0, -19}, {0, 19, -19}, {-18, 0, -19}, {-15, 0, -18}, {-30, 0, -20}}},
		{100, 8, [][3]int{{256, 0, 1}, {0, -256, 1}, {257, 0, 2}, {-254, 0, 1}, {-254, 0, 0}, {255, 0, 0}, {-1, 0, -1}, {254, 0, -1}, {255, 0, 0}, {25600, 0, 100}, {100000, 0, 100}, {-156, 0, 99}}},
		{75, 0, [][3]int{{10, 3, 7}, {3, 10, -7}, {80, 5, 75}, {81, 5, 75}, {5, 80, -75}, {5, 81, -75}, {4, 4, 0}, {74, 0, 74}}},
	} {
		trim := made(t, x.auth, x.gain)
		for _, y := range x.row {
			learns(t, trim, y[0], y[1], y[2])
		}
	}
}

// P11.1: what is at the vote brings the offset to 0: from above by 2^gain of it, rounded up, from below by that, rounded down.
func TestAtVote(t *testing.T) {
	for gain := range 9 {
		p := 1 << gain
		for _, n := range some() {
			learns(t, made(t, 40, gain), n, n, 0)
			learns(t, standing(t, 40, gain, 1), n, n, 0)
			learns(t, standing(t, 40, gain, -1), n, n, -1+one(p == 1))
			learns(t, standing(t, 5*p, gain, 5*p), n, n, 5*p-5)
			learns(t, standing(t, 5*p, gain, -5*p), n, n, -5*p+5)
			learns(t, standing(t, 5*p, gain, 4*p+1), n, n, 4*p-4)
			learns(t, standing(t, 5*p, gain, -4*p-1), n, n, -4*p-1+4+one(p == 1))
		}
	}
}

// P11.1: one above the vote moves a new trim nowhere but with a gain of 0; one below it takes it one down, whatever the gain.
func TestOneBesideVote(t *testing.T) {
	for gain := range 9 {
		for _, vote := range []int{0, 1, -1, 1000, -1000, most - 1, least + 1} {
			learns(t, made(t, 40, gain), vote+1, vote, one(gain == 0))
			learns(t, made(t, 40, gain), vote-1, vote, -1)
		}
	}
}

// P11.1: how far a value is from the vote counts, not where they are.
func TestWhereTheyAre(t *testing.T) {
	for gain := range 9 {
		for _, apart := range []int{0, 1, -1, 2, -2, 255, -255, 256, -256, 1000, -1000, 65536, -65537, 1 << 30, -1 << 30, most, least, far - 1, 1 - far, far, -far} {
			for _, offset := range []int{0, 30, -30} {
				want := learned(offset, apart, 0, 1000, gain)
				for which := range 3 {
					n, vote := pair(apart, which)
					learns(t, standing(t, 1000, gain, offset), n, vote, want)
				}
			}
		}
	}
}

// someOffsets are offsets from which what is far to their sides is a distance too.
func someOffsets() []int {
	return []int{0, 1, -1, 2, -2, 100, -100, 257, -257, 65535, -65536, 1 << 20, -1 << 20, 1<<24 - 1, -1 << 24, 1 << 30, -1 << 30}
}

// P11.1: a value whose distance to the vote is the offset moves it nowhere, at each gain.
func TestAtOffset(t *testing.T) {
	for gain := range 9 {
		for _, offset := range someOffsets() {
			x := standing(t, most, gain, offset)
			for range 3 {
				moves(t, x, offset, offset)
			}
		}
	}
}

// P11.1: one above the offset moves it nowhere but with a gain of 0; one below takes it one down, whatever the gain.
func TestOneBesideOffset(t *testing.T) {
	for gain := range 9 {
		up := one(gain == 0)
		for _, offset := range someOffsets() {
			moves(t, standing(t, most, gain, offset), offset+1, offset+up)
			moves(t, standing(t, most, gain, offset), offset-1, offset-1)
		}
	}
}

// P11.1: each distance that is less than 2^gain above the offset moves it nowhere, each so far below it takes it one down.
func TestLessThanGainBesideOffset(t *testing.T) {
	for gain := range 9 {
		for _, offset := range someOffsets() {
			up, down := standing(t, most, gain, offset), standing(t, most, gain, offset)
			for by := 1; by < 1<<gain; by++ {
				moves(t, up, offset+by, offset)
				moves(t, down, down.Offset()-by, offset-by)
			}
		}
	}
}

// P11.1: just 2^gain above and below the offset, one more, twice that, and one less than that.
func TestGainBesideOffset(t *testing.T) {
	for gain := 1; gain < 9; gain++ {
		p := 1 << gain
		for _, offset := range someOffsets() {
			for _, y := range [][2]int{{p, 1}, {-p, -1}, {p + 1, 1}, {-p - 1, -2}, {2 * p, 2}, {-2 * p, -2}, {2*p - 1, 1}, {1 - 2*p, -2}, {-2*p - 1, -3}, {3*p - 1, 2}, {7 * p, 7}, {-7 * p, -7}} {
				moves(t, standing(t, most, gain, offset), offset+y[0], offset+y[1])
			}
		}
	}
}

// P11.1: distances above and below the offset, near and far, at each gain, by the document's words.
func TestBesideOffset(t *testing.T) {
	for gain := range 9 {
		for _, offset := range someOffsets() {
			for _, by := range []int{3, 10, 255, 256, 257, 1000, 65536, 123456789, 1 << 30, 1 << 31, far - 1<<30} {
				for _, apart := range []int{offset + by, offset - by} {
					n, vote := pair(apart, by%3)
					holds(t, standing(t, most, gain, offset), most, gain, [2]int{n, vote})
				}
			}
		}
	}
}

// someAuthorities are those above 0.
func someAuthorities() []int {
	return []int{1, 2, 7, 40, 255, 256, 257, 1000, 1 << 16, 1 << 24, 1 << 30}
}

// P11.1, P11.2: an offset that comes just to the authority, would go one above it, far beyond it, and stays there, on both sides of 0.
func TestAtAuthority(t *testing.T) {
	for gain := range 9 {
		p := 1 << gain
		for _, auth := range someAuthorities() {
			for _, way := range []int{1, -1} {
				at := way * auth
				moves(t, standing(t, auth, gain, at-way), at-way+way*p, at)
				moves(t, standing(t, auth, gain, at-way), at-way+way*2*p, at)
				moves(t, standing(t, auth, gain, at-way), at-way+way*3*p, at)
				moves(t, standing(t, auth, gain, at-way), way*far, at)
				moves(t, standing(t, auth, gain, -at), way*far, max(-auth, min(auth, learned(-at, way*far, 0, most, gain))))
				x := standing(t, auth, gain, at)
				moves(t, x, at+way*p, at)
				moves(t, x, at+way*2*p, at)
				moves(t, x, at+way, at)
				moves(t, x, at, at)
				moves(t, x, way*far, at)
				moves(t, x, way*far, at)
			}
		}
	}
}

// P11.1: one more authority is what the clamped one lacks: with it the offset goes one farther.
func TestOneMoreAuthority(t *testing.T) {
	for gain := range 9 {
		p := 1 << gain
		for _, auth := range someAuthorities() {
			for _, way := range []int{1, -1} {
				moves(t, standing(t, auth, gain, way*(auth-1)), way*(auth-1+2*p), way*auth)
				moves(t, standing(t, auth+1, gain, way*(auth-1)), way*(auth-1+2*p), way*(auth+1))
			}
		}
	}
}

// P11.1: what was clamped is forgotten: the way back begins at the authority.
func TestBackFromAuthority(t *testing.T) {
	for gain := range 9 {
		p := 1 << gain
		for _, auth := range someAuthorities() {
			for _, way := range []int{1, -1} {
				x, at := standing(t, auth, gain, way*auth), way*auth
				for range 20 {
					moves(t, x, way*far, at)
				}
				moves(t, x, at-way*p, at-way)
				moves(t, x, at-way+way*p, at)
				moves(t, x, way*far, at)
				moves(t, x, at-way*p, at-way)
			}
		}
	}
}

// P11.1: the greatest authority: the offset comes just to it, on both sides of 0, and no farther.
func TestGreatestAuthority(t *testing.T) {
	for gain := range 9 {
		for _, way := range []int{1, -1} {
			x := standing(t, most, gain, way*(most-1))
			moves(t, x, way*(most-1+1<<gain), way*most)
			moves(t, x, way*(most+1<<gain), way*most)
			moves(t, x, way*far, way*most)
			evens(t, x, most, most-way*most)
			evens(t, x, least, least-way*most)
			moves(t, x, way*(most-1<<gain), way*(most-1))
		}
	}
}

// P11.1, P11.2: an authority of 0: the offset is 0, whatever comes, and what is even is the value.
func TestAuthorityOfZero(t *testing.T) {
	for gain := range 9 {
		x := made(t, 0, gain)
		for _, n := range some() {
			for _, vote := range some() {
				learns(t, x, n, vote, 0)
			}
			evens(t, x, n, n)
			refuses(t, x, most+1, n)
			refuses(t, x, n, least-1)
		}
		offsets(t, x, 0)
	}
}

// P11.1: with a gain of 0 the offset is how far the value is from the vote, within the authority.
func TestGainOfZero(t *testing.T) {
	for _, auth := range append(someAuthorities(), most-1, most) {
		x := made(t, auth, 0)
		for _, n := range some() {
			for _, vote := range some() {
				learns(t, x, n, vote, max(-auth, min(auth, n-vote)))
				learns(t, x, vote, n, max(-auth, min(auth, vote-n)))
			}
		}
	}
}

// P11.1: a value of -2^31 and a vote of 2^31 less 1, and the other way round, with the greatest authority.
func TestFromEndToEnd(t *testing.T) {
	for gain, down := range []int{-most, -most, -1 << 30, -1 << 29, -1 << 28, -1 << 27, -1 << 26, -1 << 25, -1 << 24} {
		learns(t, made(t, most, gain), least, most, down)
		up := -down - one(gain > 1)
		learns(t, made(t, most, gain), most, least, up)
	}
	x := made(t, most, 1)
	learns(t, x, least, most, -most)
	learns(t, x, most, least, 1073741824)
	learns(t, x, least, most, -1610612736)
	learns(t, x, most, least, 1342177279)
	learns(t, x, most, least, most)
	learns(t, x, least, most, -1073741824)
	learns(t, x, least, most, -most)
	learns(t, x, least, most, -most)
}

// P11.1: the ends in turn, each as often, and each twice, at each gain, by the document's words.
func TestEndsInTurn(t *testing.T) {
	for gain := range 9 {
		for _, auth := range []int{40, 1 << 30, most - 1, most} {
			x := made(t, auth, gain)
			for range 50 {
				holds(t, x, auth, gain, [2]int{least, most}, [2]int{most, least}, [2]int{most, most}, [2]int{least, least})
			}
			for range 3000 {
				holds(t, x, auth, gain, [2]int{most, least})
			}
			offsets(t, x, auth)
			for range 3000 {
				holds(t, x, auth, gain, [2]int{least, most})
			}
			offsets(t, x, -auth)
		}
	}
}

// states are trims of a gain with an offset of 0, above and below it, and at the authority, beside what that is.
func states(t testing.TB, auth, gain int) map[int]*Trim {
	t.Helper()
	out := map[int]*Trim{}
	for _, offset := range []int{0, 1, -1, auth / 2, -auth / 2, auth, -auth} {
		out[offset] = standing(t, auth, gain, offset)
	}
	return out
}

// P11.1: Learn of a value outside of -2^31 to 2^31 less 1, of such a vote, and of both: ErrArg, and Offset, Even, and the next Learn, tell nothing of it.
func TestNoValue(t *testing.T) {
	for gain := range 9 {
		p := 1 << gain
		for _, auth := range []int{1, 40, most} {
			for offset, x := range states(t, auth, gain) {
				for _, wrong := range beyond() {
					for _, right := range []int{0, 1, -5, most, least} {
						refuses(t, x, wrong, right)
						refuses(t, x, right, wrong)
					}
					for _, other := range beyond() {
						refuses(t, x, wrong, other)
					}
					moves(t, x, offset, offset)
					if offset < auth {
						moves(t, x, offset+p, offset+1)
						refuses(t, x, wrong, wrong)
						moves(t, x, offset+1-p, offset)
					}
					if offset > -auth {
						moves(t, x, offset-p, offset-1)
						refuses(t, x, wrong, 0)
						refuses(t, x, 0, wrong)
						moves(t, x, offset-1+p, offset)
					}
				}
			}
		}
	}
}

// P11.1: a value, and a vote, at an end, each alone and both, are learnt of; one outside these is not.
func TestEndsOfValues(t *testing.T) {
	for gain := range 9 {
		for _, auth := range []int{0, 40, most} {
			for _, end := range []int{most, least} {
				x, out := made(t, auth, gain), end+end/most
				for _, n := range some() {
					holds(t, x, auth, gain, [2]int{end, n}, [2]int{n, end}, [2]int{end, end}, [2]int{end, -1 - end})
					refuses(t, x, out, n)
					refuses(t, x, n, out)
					refuses(t, x, out, out)
					refuses(t, x, out, -1-out)
				}
			}
		}
	}
}

// P11.1: Even is the value less the offset, which is 0, above and below it, and at the authority.
func TestEven(t *testing.T) {
	for gain := range 9 {
		for _, auth := range []int{1, 40, 1 << 30, most} {
			for offset, x := range states(t, auth, gain) {
				for _, n := range some() {
					evens(t, x, n, n-offset)
				}
				offsets(t, x, offset)
			}
		}
	}
}

// P11.1: what is even may be outside of -2^31 to 2^31 less 1.
func TestEvenOutsideValues(t *testing.T) {
	x := standing(t, most, 3, most)
	evens(t, x, least, -4294967295)
	evens(t, x, most, 0)
	evens(t, x, -2, -2147483649)
	evens(t, x, -1, -2147483648)
	x = standing(t, most, 3, -most)
	evens(t, x, most, 4294967294)
	evens(t, x, least, -1)
	evens(t, x, 1, 2147483648)
	evens(t, x, 0, 2147483647)
	x = standing(t, 40, 5, 40)
	evens(t, x, least, -2147483688)
	evens(t, x, least+39, -2147483649)
	evens(t, x, least+40, -2147483648)
}

// P11.1: Even of what is outside of -2^31 to 2^31 less 1: ErrArg and 0, whatever the offset, even where that would bring it inside.
func TestEvenOfNoValue(t *testing.T) {
	for gain := range 9 {
		for _, auth := range []int{1, 40, most} {
			for offset, x := range states(t, auth, gain) {
				for _, n := range beyond() {
					refusesEven(t, x, n)
				}
				evens(t, x, most, most-offset)
				evens(t, x, least, least-offset)
				moves(t, x, offset, offset)
			}
		}
	}
}

// P11.2: rows of any values and votes: the offset is at most the authority from 0, what is even at most so far from the value.
func TestWithinAuthority(t *testing.T) {
	for seed := range 90 {
		draw := drawer(seed)
		auth := draw(1 << (1 + draw(31)))
		x, wide := made(t, auth, seed%9), 1<<(1+draw(32))
		for range 400 {
			n, vote := within(wide-draw(2*wide)), within(wide-draw(2*wide))
			if e := x.Learn(n, vote); e != api.OK {
				t.Fatalf("Learn(%d, %d) = %d", n, vote, e)
			}
			if got := x.Offset(); got > auth || got < -auth {
				t.Fatalf("Offset() = %d with the authority %d", got, auth)
			}
			for _, m := range []int{n, vote, least, most} {
				if got, e := x.Even(m); got-m > auth || m-got > auth || e != api.OK {
					t.Fatalf("Even(%d) = %d, %d with the authority %d", m, got, e, auth)
				}
			}
		}
	}
}

// within is the value that is the nearest to a number.
func within(n int) int { return max(least, min(most, n)) }

// P11.2: the offset is between what it was and how far the value is from the vote, or at its bound.
func TestBetween(t *testing.T) {
	for seed := range 90 {
		draw := drawer(seed)
		auth := draw(1 << (1 + draw(31)))
		x := made(t, auth, seed%9)
		for range 400 {
			from := x.Offset()
			n, vote := draw(4*auth+9)-2*auth, draw(9)
			if e := x.Learn(within(n), vote); e != api.OK {
				t.Fatalf("Learn(%d, %d) = %d", within(n), vote, e)
			}
			apart := max(-auth, min(auth, within(n)-vote))
			if got := x.Offset(); got < min(from, apart) || got > max(from, apart) {
				t.Fatalf("from %d: %d, with the authority %d, behind %d", from, got, auth, apart)
			}
		}
	}
}

// settles lets a value and a vote come till the offset stays, which must be at a chosen one, and each time nearer to it.
func settles(t testing.TB, x *Trim, apart, at int) {
	t.Helper()
	n, vote := pair(apart, 2)
	for range 20000 {
		from := x.Offset()
		if e := x.Learn(n, vote); e != api.OK {
			t.Fatalf("Learn(%d, %d) = %d", n, vote, e)
		}
		got := x.Offset()
		if got == from {
			offsets(t, x, at)
			return
		}
		if up := got > from; up != (at > from) || up && got > at || !up && got < at {
			t.Fatalf("from %d: behind Learn(%d, %d) Offset() = %d, on the way to %d", from, n, vote, got, at)
		}
	}
	t.Fatalf("Learn(%d, %d): the offset does not stay", n, vote)
}

// P11.2: a value and a vote that stay: the offset comes to how far they are apart from above, to less than 2^gain of that from below, or to its bound.
func TestStays(t *testing.T) {
	for gain := range 9 {
		p := 1 << gain
		for _, auth := range []int{0, 1, 40, 300, 1000, 1 << 20, most} {
			for _, apart := range []int{0, 1, -1, 9, -9, 40, -40, 300, -300, 1000, -1000, 1001, -1001, 1 << 20, -1 << 20, 1 << 30, -1 << 30} {
				x := made(t, auth, gain)
				settles(t, x, far, auth)
				settles(t, x, apart, max(-auth, min(auth, apart)))
				settles(t, x, -far, -auth)
				settles(t, x, apart, max(-auth, min(auth, apart-p+1)))
				settles(t, x, apart, max(-auth, min(auth, apart-p+1)))
			}
		}
	}
}

// P11.2: a value and a vote that stay, beside a new trim: the way from 0, from above and from below.
func TestStaysFromNew(t *testing.T) {
	for _, x := range []struct{ auth, gain, apart, at int }{
		{40, 0, 30, 30}, {40, 1, 30, 29}, {40, 2, 30, 27}, {40, 3, 30, 23}, {40, 5, 30, 0}, {40, 5, 31, 0}, {40, 5, 32, 1}, {40, 5, 70, 39}, {40, 5, 71, 40}, {40, 5, 72, 40}, {40, 5, 5000, 40},
		{40, 0, -30, -30}, {40, 1, -30, -30}, {40, 5, -30, -30}, {40, 5, -1, -1}, {40, 8, -39, -39}, {40, 8, -40, -40}, {40, 8, -41, -40}, {40, 8, -5000, -40},
		{40, 8, 255, 0}, {40, 8, 256, 1}, {40, 8, 294, 39}, {40, 8, 295, 40}, {40, 8, 296, 40}, {0, 5, 70, 0}, {0, 5, -70, 0}, {most, 8, far, most}, {most, 8, -far, -most},
	} {
		settles(t, made(t, x.auth, x.gain), x.apart, x.at)
	}
}

// P11.2: a value that stays is even to the vote, or less than 2^gain above it, where the authority reaches.
func TestEvenComesNear(t *testing.T) {
	for gain := range 9 {
		for _, apart := range []int{700, -700} {
			x, n, vote := made(t, 1000, gain), 5000+apart, 5000
			for range 20000 {
				x.Learn(n, vote)
			}
			if got, e := x.Even(n); got < vote || got >= vote+1<<gain || e != api.OK {
				t.Fatalf("gain %d: Even(%d) = %d, %d", gain, n, got, e)
			}
		}
	}
}

// P11.1: Offset and Even ask alone: asked ever so often they are the same, and the next Learn too.
func TestAskingChangesNothing(t *testing.T) {
	x := made(t, 20, 3)
	for _, y := range [][3]int{{85, 5, 10}, {85, 5, 18}, {0, 0, 15}, {-1, 0, 13}, {4, 5, 11}, {-1, 0, 9}, {500, 5, 20}, {20, 0, 20}} {
		learns(t, x, y[0], y[1], y[2])
		for range 3 {
			offsets(t, x, y[2])
			for _, n := range some() {
				evens(t, x, n, n-y[2])
			}
		}
	}
}

// P2: two trims beside each other, alike or not, do not touch each other.
func TestTwoTrims(t *testing.T) {
	for _, y := range []struct{ auth, gain, offset int }{{40, 2, 4}, {0, 0, 0}, {most, 0, 16}, {most, 8, 0}, {1, 2, 1}, {40, 4, 1}} {
		a, b := made(t, 40, 2), made(t, y.auth, y.gain)
		moves(t, a, 44, 11)
		offsets(t, b, 0)
		moves(t, b, 16, y.offset)
		offsets(t, a, 11)
		moves(t, a, 7, 10)
		offsets(t, b, y.offset)
		moves(t, a, -far, -40)
		offsets(t, b, y.offset)
		refuses(t, a, most+1, 0)
		refuses(t, b, 0, most+1)
		offsets(t, a, -40)
		offsets(t, b, y.offset)
		moves(t, b, y.offset, y.offset)
		moves(t, a, -36, -39)
		offsets(t, made(t, 40, 2), 0)
		offsets(t, a, -39)
	}
}

// P1, P11.1: on a nil trim ErrArg and 0, whatever comes; New of what may not be gives one.
func TestNilTrim(t *testing.T) {
	wrongAuthority, _ := New(-1, 0)
	wrongGain, _ := New(0, 9)
	for _, x := range []*Trim{nil, wrongAuthority, wrongGain} {
		all := append(beyond(), some()...)
		for _, n := range all {
			if got, e := x.Even(n); got != 0 || e != api.ErrArg {
				t.Fatalf("Even(%d) = %d, %d", n, got, e)
			}
			for _, vote := range all {
				if e := x.Learn(n, vote); e != api.ErrArg {
					t.Fatalf("Learn(%d, %d) = %d", n, vote, e)
				}
			}
			if got := x.Offset(); got != 0 {
				t.Fatalf("Offset() = %d", got)
			}
		}
	}
}

// P11.1, P11.2: all rows of three distances of a small grid, at the gains from 0 to 3, by the document's words.
func TestAllShortRows(t *testing.T) {
	for gain := range 4 {
		for auth := range 6 {
			for a := -12; a <= 12; a++ {
				for b := -12; b <= 12; b++ {
					for c := -12; c <= 12; c++ {
						shortRow(t, auth, gain, a, b, c)
					}
				}
			}
		}
	}
}

// shortRow holds the offset behind each of some distances, from a new trim on.
func shortRow(t testing.TB, auth, gain int, row ...int) {
	t.Helper()
	x, e := New(auth, gain)
	if e != api.OK {
		t.Fatalf("New(%d, %d) = %d", auth, gain, e)
	}
	want := 0
	for i, apart := range row {
		n, vote := pair(apart, i%3)
		// Rounded down by hand: the grid is small.
		rest := apart - want + 64<<gain
		want = max(-auth, min(auth, want+rest/(1<<gain)-64))
		if e := x.Learn(n, vote); e != api.OK || x.Offset() != want {
			t.Fatalf("authority %d, gain %d: at %d of %v: %d, %d, not %d", auth, gain, i, row, x.Offset(), e, want)
		}
	}
}

// P11.1: long rows of any values and votes, that stay, jump, and go on slowly, with what is none among them, by the document's words.
func TestAnyRows(t *testing.T) {
	for seed := range 180 {
		draw := drawer(seed)
		gain, wide := seed%9, 1<<(1+draw(31))
		auth := draw(wide)
		x := made(t, auth, gain)
		n, vote := 0, 0
		for range 400 {
			switch draw(7) {
			case 0:
				n = within(wide - draw(2*wide+1))
			case 1:
				vote = within(wide - draw(2*wide+1))
			case 2:
				n = within(n + draw(9) - 4)
			case 3:
				vote = within(vote + draw(9) - 4)
			case 4:
				n = within(vote + []int{auth, -auth, auth + 1, -auth - 1, x.Offset(), 0}[draw(6)])
			}
			if draw(9) == 0 {
				wrong := beyond()[draw(len(beyond()))]
				refuses(t, x, wrong, vote)
				refuses(t, x, n, wrong)
				refusesEven(t, x, wrong)
			}
			holds(t, x, auth, gain, [2]int{n, vote})
			evens(t, x, n, n-x.Offset())
		}
	}
}

// P2: the same row is told alike by each trim of the same authority and gain.
func TestSameRowSameAnswers(t *testing.T) {
	for seed := range 45 {
		a, b := made(t, 2000, seed%9), made(t, 2000, seed%9)
		draw := drawer(seed)
		var rows [][2]int
		for range 200 {
			rows = append(rows, [2]int{draw(40001) - 20000, draw(2001) - 1000})
		}
		var told []int
		for _, y := range rows {
			a.Learn(y[0], y[1])
			told = append(told, a.Offset())
		}
		for i, y := range rows {
			learns(t, b, y[0], y[1], told[i])
		}
	}
}
