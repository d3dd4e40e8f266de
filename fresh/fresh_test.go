package fresh

import (
	"bytes"
	"math"
	"slices"
	"testing"

	"rudder/api"
	"rudder/crc"
	"rudder/frame"
)

// The signatures that other layers call.
var (
	_ func(channel int) (*Track, api.Errno)              = New
	_ func(t *Track, s api.Slot) (api.Frame, api.Reject) = (*Track).Take
	_ func(t *Track) (int, bool)                         = (*Track).Last
	_ func(t *Track) [7]int                              = (*Track).Counts
)

const turn = 65536

// framed is a frame whose values hang on its number, none of them 0.
func framed(seq int) api.Frame {
	return api.Frame{Seq: seq, Values: [8]int{seq + 1, -seq - 1, 3, -4, 1<<31 - 1 - seq, -1<<31 + seq, 7, seq - 70000}}
}

// bytesOf is a channel's frame with a number, as bytes.
func bytesOf(t testing.TB, channel, seq int) []byte {
	t.Helper()
	b, e := frame.Encode(channel, framed(seq))
	if e != api.OK || len(b) != 38 {
		t.Fatalf("Encode of %d, %d: %v, %d", channel, seq, b, e)
	}
	return b
}

func sent(b []byte) api.Slot { return api.Slot{Is: true, Bytes: b} }

func slot(t testing.TB, channel, seq int) api.Slot {
	t.Helper()
	return sent(bytesOf(t, channel, seq))
}

// changed is bytes of which one is crossed with others.
func changed(b []byte, at int, by byte) []byte {
	own := slices.Clone(b)
	own[at] ^= by
	return own
}

// resealed is a frame's bytes of which one is another, with the sum of what they are then.
func resealed(b []byte, at int, is byte) []byte {
	own := slices.Clone(b[:36])
	own[at] = is
	return crc.Seal(own)
}

// not is a slot that is no frame of a channel, and why.
type not struct {
	name string
	s    api.Slot
	r    api.Reject
}

// nots holds slots that are no frames of a channel, though each is made of the frame with that number.
func nots(t testing.TB, channel, seq int) []not {
	t.Helper()
	b := bytesOf(t, channel, seq)
	other := (channel + 1) % 4
	return []not{
		{"none", api.Slot{}, api.Absent},
		{"none, with a frame's bytes", api.Slot{Bytes: b}, api.Absent},
		{"none, with too few bytes", api.Slot{Bytes: b[:20]}, api.Absent},
		{"no bytes", sent(nil), api.Length},
		{"no bytes, not nil", sent([]byte{}), api.Length},
		{"one byte", sent([]byte{165}), api.Length},
		{"a byte too few", sent(b[:37]), api.Length},
		{"a byte too many", sent(append(slices.Clone(b), 0)), api.Length},
		{"two frames", sent(slices.Concat(b, b)), api.Length},
		{"zeros", sent(make([]byte, 38)), api.Sync},
		{"another first byte", sent(changed(b, 0, 1)), api.Sync},
		{"another first byte, sealed", sent(resealed(b, 0, 90)), api.Sync},
		{"another channel's", slot(t, other, seq), api.Other},
		{"no channel's", sent(resealed(b, 1, byte(channel+4))), api.Other},
		{"another second byte", sent(changed(b, 1, 128)), api.Other},
		{"another number", sent(changed(b, 3, 1)), api.Sum},
		{"another value", sent(changed(b, 20, 255)), api.Sum},
		{"another sum", sent(changed(b, 37, 1)), api.Sum},
	}
}

// made is a new track.
func made(t testing.TB, channel int) *Track {
	t.Helper()
	x, e := New(channel)
	if x == nil || e != api.OK {
		t.Fatalf("New(%d) = %v, %d", channel, x, e)
	}
	return x
}

// begun is a track that took one frame.
func begun(t testing.TB, channel, seq int) *Track {
	t.Helper()
	x := made(t, channel)
	takes(t, x, slot(t, channel, seq), framed(seq), api.Fine)
	return x
}

func takes(t testing.TB, x *Track, s api.Slot, want api.Frame, r api.Reject) {
	t.Helper()
	if got, has := x.Take(s); got != want || has != r {
		t.Fatalf("Take(%v) = %v, %d, not %v, %d", s, got, has, want, r)
	}
}

// fine holds that a track takes a number's frame as the next one.
func fine(t testing.TB, x *Track, channel, seq int) {
	t.Helper()
	takes(t, x, slot(t, channel, seq), framed(seq), api.Fine)
	lasts(t, x, seq, true)
}

// stale holds that a track takes a number's frame as none, but as its last number.
func stale(t testing.TB, x *Track, channel, seq int) {
	t.Helper()
	takes(t, x, slot(t, channel, seq), api.Frame{}, api.Stale)
	lasts(t, x, seq, true)
}

func lasts(t testing.TB, x *Track, want int, is bool) {
	t.Helper()
	if got, has := x.Last(); got != want || has != is {
		t.Fatalf("Last() = %d, %t, not %d, %t", got, has, want, is)
	}
}

func counts(t testing.TB, x *Track, want [7]int) {
	t.Helper()
	if got := x.Counts(); got != want {
		t.Fatalf("Counts() = %v, not %v", got, want)
	}
}

// P6.1: New of a channel: a track of it, without a last number, of which nothing is counted.
func TestNew(t *testing.T) {
	for channel := range 4 {
		x := made(t, channel)
		lasts(t, x, 0, false)
		counts(t, x, [7]int{})
		for other := range 4 {
			if other != channel {
				takes(t, x, slot(t, other, 5), api.Frame{}, api.Other)
			}
		}
		lasts(t, x, 0, false)
		fine(t, x, channel, 5)
		counts(t, x, [7]int{0: 1, 4: 3})
	}
}

// P6.1: New of what is no channel, its lower bits one's or not: ErrArg, and no track.
func TestNewOfNoChannel(t *testing.T) {
	for _, n := range []int{-1, -2, -4, -255, -256, 4, 5, 7, 8, 165, 255, 256, 257, 259, 65536, 65537, 1 << 32, 1<<32 + 3, -1 << 31, 1<<31 - 1, math.MinInt, math.MinInt + 1, math.MaxInt} {
		if x, e := New(n); x != nil || e != api.ErrArg {
			t.Errorf("New(%d) = %v, %d", n, x, e)
		}
	}
}

// P6.1: a first frame is Fine, whatever its number, and that is the last one then.
func TestFirstFrameOfAnyNumber(t *testing.T) {
	for seq := range turn {
		channel := seq % 4
		x := made(t, channel)
		fine(t, x, channel, seq)
		counts(t, x, [7]int{0: 1})
	}
}

// P6.1: a frame is told as it was sent, at the edges of its values too.
func TestFrameAsItWasSent(t *testing.T) {
	for _, f := range []api.Frame{
		{}, {Values: [8]int{0: -1, 7: 5}}, {Values: [8]int{-1 << 31, 1<<31 - 1, -1, 0, 1, -2, 65536, 305419896}}, {Values: [8]int{165, 165, 165, 165, 165, 165, 165, 165}},
	} {
		x := made(t, 2)
		for seq := range 3 {
			f.Seq = seq
			b, _ := frame.Encode(2, f)
			takes(t, x, sent(b), f, api.Fine)
		}
	}
}

// P6.1: a second frame, of any number at all, is Fine if its number is the next one, and Stale if not; either way its number is the last one, and the one behind it is Fine.
func TestSecondFrameOfAnyNumber(t *testing.T) {
	const channel = 1
	slots := make([]api.Slot, turn)
	for seq := range slots {
		slots[seq] = slot(t, channel, seq)
	}
	for _, x := range []struct{ first, next int }{{0, 1}, {255, 256}, {32767, 32768}, {65534, 65535}, {65535, 0}} {
		for seq := range slots {
			track := made(t, channel)
			takes(t, track, slots[x.first], framed(x.first), api.Fine)
			want := [7]int{0: 3}
			if seq == x.next {
				takes(t, track, slots[seq], framed(seq), api.Fine)
			} else {
				takes(t, track, slots[seq], api.Frame{}, api.Stale)
				want = [7]int{0: 2, 6: 1}
			}
			lasts(t, track, seq, true)
			behind := (seq + 1) % turn
			takes(t, track, slots[behind], framed(behind), api.Fine)
			lasts(t, track, behind, true)
			counts(t, track, want)
		}
	}
}

// P6.2: frames whose numbers follow each other are Fine, all: more than two rounds of them, and those over the end of a round.
func TestFramesThatFollow(t *testing.T) {
	x := made(t, 3)
	const all = 2*turn + 100
	for i := range all {
		fine(t, x, 3, (65000+i)%turn)
	}
	counts(t, x, [7]int{0: all})
	x = made(t, 0)
	for _, seq := range []int{65534, 65535, 0, 1} {
		fine(t, x, 0, seq)
	}
	counts(t, x, [7]int{0: 4})
}

// P6.1: a number that comes again is Stale, as often as it comes, and the one behind it is Fine.
func TestNumberAgain(t *testing.T) {
	for _, seq := range []int{0, 1, 7, 255, 32768, 65534, 65535} {
		x := begun(t, 2, seq)
		for range 3 {
			stale(t, x, 2, seq)
		}
		fine(t, x, 2, (seq+1)%turn)
		counts(t, x, [7]int{0: 2, 6: 3})
	}
}

// P6.1: where a number is left out, the one behind it is Stale, and the next one behind that Fine; where each second one is left out, all are Stale.
func TestNumberLeftOut(t *testing.T) {
	x := begun(t, 2, 65533)
	stale(t, x, 2, 65535)
	fine(t, x, 2, 0)
	stale(t, x, 2, 2)
	fine(t, x, 2, 3)
	fine(t, x, 2, 4)
	counts(t, x, [7]int{0: 4, 6: 2})
	for seq := 6; seq < 100; seq += 2 {
		stale(t, x, 2, seq)
	}
	counts(t, x, [7]int{0: 4, 6: 49})
}

// P6.1: numbers that go back are Stale, all; so is the one that would have been the next ahead of them.
func TestNumbersThatGoBack(t *testing.T) {
	x := begun(t, 2, 3)
	for _, seq := range []int{2, 1, 0, 65535, 65534} {
		stale(t, x, 2, seq)
	}
	stale(t, x, 2, 4)
	fine(t, x, 2, 5)
	counts(t, x, [7]int{0: 2, 6: 6})
}

// P6.1: the last number is a stale frame's, not that of the last one that was Fine: what follows the latter is Stale.
func TestLastNumberIsThatOfStaleFrame(t *testing.T) {
	x := begun(t, 1, 10)
	stale(t, x, 1, 20)
	stale(t, x, 1, 11)
	stale(t, x, 1, 21)
	fine(t, x, 1, 22)
}

// P6.1: a stale frame is answered as one of zeros, its number too.
func TestStaleFrameIsOfZeros(t *testing.T) {
	x := begun(t, 1, 10)
	for _, seq := range []int{10, 12, 9, 65535} {
		if f, r := x.Take(slot(t, 1, seq)); f != (api.Frame{}) || r != api.Stale {
			t.Errorf("at %d: %v, %d", seq, f, r)
		}
	}
}

// P6.1: what is no frame is told by its own reject, and counted by it; ahead of any frame there is no last number still, and what was in it does not make one.
func TestNoFrameAheadOfAny(t *testing.T) {
	for channel := range 4 {
		x := made(t, channel)
		var want [7]int
		for _, n := range nots(t, channel, 100) {
			takes(t, x, n.s, api.Frame{}, n.r)
			want[n.r]++
			lasts(t, x, 0, false)
			counts(t, x, want)
		}
		fine(t, x, channel, 7)
	}
}

// P6.1, P6.2: what is no frame, in between, is told by its own reject and moves no last number: the next one is Fine, the same one and the one behind the next Stale, as if it had not come.
func TestNoFrameInBetween(t *testing.T) {
	for _, last := range []int{0, 99, 65535} {
		next := (last + 1) % turn
		for channel := range 4 {
			// Made of the last frame, of the next one, of the one behind that, and of another.
			for _, of := range []int{last, next, (last + 2) % turn, 5000} {
				for _, n := range nots(t, channel, of) {
					for _, then := range []int{next, last, (last + 2) % turn, of} {
						x := begun(t, channel, last)
						takes(t, x, n.s, api.Frame{}, n.r)
						lasts(t, x, last, true)
						want := [7]int{0: 1}
						want[n.r]++
						counts(t, x, want)
						if then == next {
							fine(t, x, channel, then)
							want[0]++
						} else {
							stale(t, x, channel, then)
							want[6]++
						}
						counts(t, x, want)
					}
				}
			}
		}
	}
}

// P6.1: a stale frame that is broken is told by its own reject, not as Stale.
func TestBrokenAheadOfStale(t *testing.T) {
	x := begun(t, 3, 50)
	for _, seq := range []int{50, 49, 52} {
		for _, n := range nots(t, 3, seq) {
			takes(t, x, n.s, api.Frame{}, n.r)
		}
	}
	if got := x.Counts(); got[api.Stale] != 0 {
		t.Errorf("Counts() = %v", got)
	}
	fine(t, x, 3, 51)
}

// P6.1: Counts behind each slot, by rejects' numbers, each of the seven a different count.
func TestCounts(t *testing.T) {
	const channel = 2
	x := made(t, channel)
	byReject := map[api.Reject][]api.Slot{}
	for _, n := range nots(t, channel, 1) {
		byReject[n.r] = append(byReject[n.r], n.s)
	}
	var want [7]int
	for r := api.Absent; r <= api.Sum; r++ {
		for i := range int(r) + 1 {
			takes(t, x, byReject[r][i%len(byReject[r])], api.Frame{}, r)
			want[r]++
			counts(t, x, want)
		}
	}
	fine(t, x, channel, 0)
	for range 9 {
		want[0]++
		counts(t, x, want)
		stale(t, x, channel, 300)
		want[6]++
		counts(t, x, want)
		fine(t, x, channel, 301)
	}
	counts(t, x, [7]int{10, 2, 3, 4, 5, 6, 9})
}

// P6.1: asking for Last and Counts, however often, changes nothing; nor does writing into counts that were answered.
func TestAskingChangesNothing(t *testing.T) {
	x := begun(t, 0, 5)
	stale(t, x, 0, 8)
	want := [7]int{0: 1, 6: 1}
	for range 3 {
		lasts(t, x, 8, true)
		got := x.Counts()
		for i := range got {
			got[i] = -1000 - i
		}
		counts(t, x, want)
	}
	before := x.Counts()
	fine(t, x, 0, 9)
	if before != want {
		t.Errorf("counts that were answered became %v", before)
	}
	counts(t, x, [7]int{0: 2, 6: 1})
}

// P2: two tracks, of one channel or of two, do not touch each other.
func TestTwoTracks(t *testing.T) {
	for _, other := range []int{1, 2} {
		a, b := made(t, 1), made(t, other)
		fine(t, a, 1, 10)
		lasts(t, b, 0, false)
		counts(t, b, [7]int{})
		fine(t, b, other, 20)
		lasts(t, a, 10, true)
		fine(t, a, 1, 11)
		stale(t, b, other, 11)
		takes(t, a, api.Slot{}, api.Frame{}, api.Absent)
		fine(t, b, other, 12)
		fine(t, a, 1, 12)
		takes(t, b, sent(nil), api.Frame{}, api.Length)
		counts(t, a, [7]int{0: 3, 1: 1})
		counts(t, b, [7]int{0: 2, 2: 1, 6: 1})
		lasts(t, a, 12, true)
		lasts(t, made(t, 1), 0, false)
	}
}

// P1, P6.1: on a nil track Absent, false, 0, whatever it is handed; New of no channel gives one.
func TestNilTrack(t *testing.T) {
	var x *Track
	for channel := range 4 {
		takes(t, x, slot(t, channel, channel), api.Frame{}, api.Absent)
		for _, n := range nots(t, channel, 1) {
			takes(t, x, n.s, api.Frame{}, api.Absent)
		}
		lasts(t, x, 0, false)
		counts(t, x, [7]int{})
	}
	wrong, _ := New(4)
	takes(t, wrong, slot(t, 0, 0), api.Frame{}, api.Absent)
	lasts(t, wrong, 0, false)
	counts(t, wrong, [7]int{})
}

// Rule 4: bytes that are handed in stay as they were, and what lies behind their length is neither read nor written.
func TestBytesStayAsTheyWere(t *testing.T) {
	whole := bytesOf(t, 1, 7)
	all := []not{{"the next one", sent(whole), api.Fine}, {"one that is not", slot(t, 1, 60), api.Stale}}
	for _, n := range append(all, nots(t, 1, 7)...) {
		for _, behind := range [][]byte{{}, {0}, {255, 255, 255}, whole, whole[min(len(n.s.Bytes), 38):]} {
			memory := slices.Concat(n.s.Bytes, behind)
			before := slices.Clone(memory)
			x := begun(t, 1, 6)
			want := api.Frame{}
			if n.r == api.Fine {
				want = framed(7)
			}
			takes(t, x, api.Slot{Is: n.s.Is, Bytes: memory[:len(n.s.Bytes)]}, want, n.r)
			if !bytes.Equal(memory, before) {
				t.Fatalf("%s: %v was written into: %v", n.name, before, memory)
			}
		}
	}
}

// Rule 4: bytes that were handed in are not kept: what becomes of them makes no difference, nor does what becomes of an answer.
func TestBytesAreNotKept(t *testing.T) {
	x := made(t, 1)
	memory := make([]byte, 38)
	for seq := 65530; seq < turn+10; seq++ {
		copy(memory, bytesOf(t, 1, seq%turn))
		f, r := x.Take(sent(memory))
		clear(memory)
		if f != framed(seq%turn) || r != api.Fine {
			t.Fatalf("at %d: %v, %d", seq, f, r)
		}
		lasts(t, x, seq%turn, true)
		f.Seq, f.Values = 1, [8]int{}
		lasts(t, x, seq%turn, true)
	}
	counts(t, x, [7]int{0: 16})
}

// walk is steps that hang on seed alone: each a slot of a channel, why it would be no frame, and the number of the one it is made of. Numbers stay in a small range, so that they often follow.
func walk(t testing.TB, channel, seed, n int) (slots []api.Slot, why []api.Reject, seqs []int) {
	t.Helper()
	state := uint64(seed)*2862933555777941757 + 3037000493
	draw := func(below int) int {
		state = state*6364136223846793005 + 1442695040888963407
		return int(state>>33) % below
	}
	seq := 65533
	for range n {
		if draw(3) > 0 {
			seq = (seq + 1) % turn
		} else {
			seq = (65533 + draw(6)) % turn
		}
		s, r := slot(t, channel, seq), api.Fine
		if draw(4) == 0 {
			no := nots(t, channel, seq)
			at := draw(len(no))
			s, r = no[at].s, no[at].r
		}
		slots, why, seqs = append(slots, s), append(why, r), append(seqs, seq)
	}
	return slots, why, seqs
}

// P6.1: T1 on mixed slots: what is told, the last number, and the counts behind each.
func TestMixedSlots(t *testing.T) {
	for seed := range 60 {
		channel := seed % 4
		x := made(t, channel)
		last, has := 0, false
		var want [7]int
		slots, why, seqs := walk(t, channel, seed, 100)
		for i, s := range slots {
			r, f := why[i], api.Frame{}
			if r == api.Fine {
				if has && seqs[i] != (last+1)%turn {
					r = api.Stale
				} else {
					f = framed(seqs[i])
				}
				last, has = seqs[i], true
			}
			takes(t, x, s, f, r)
			want[r]++
			lasts(t, x, last, has)
			counts(t, x, want)
		}
		for r, n := range want {
			if seed == 0 && n == 0 {
				t.Errorf("no slot was %d", r)
			}
		}
	}
}

// P6.2: whatever came ahead, of two that follow each other the second one is Fine, with what is no frame between them or not.
func TestOfTwoThatFollowSecondIsFine(t *testing.T) {
	for seed := range 40 {
		channel := seed % 4
		slots, _, _ := walk(t, channel, seed, seed)
		for _, first := range []int{0, 1, 4, 300, 65532, 65534, 65535} {
			x := made(t, channel)
			for _, s := range slots {
				x.Take(s)
			}
			x.Take(slot(t, channel, first))
			if seed%2 == 0 {
				for _, n := range nots(t, channel, first) {
					takes(t, x, n.s, api.Frame{}, n.r)
				}
			}
			fine(t, x, channel, (first+1)%turn)
		}
	}
}

// P6.2: what is no frame makes no difference to what follows: with it and without it, the others are told alike.
func TestNoFrameMakesNoDifference(t *testing.T) {
	for seed := range 40 {
		channel := seed % 4
		with, without := made(t, channel), made(t, channel)
		slots, why, _ := walk(t, channel, seed, 120)
		for i, s := range slots {
			f, r := with.Take(s)
			if why[i] == api.Fine {
				takes(t, without, s, f, r)
			}
			last, is := without.Last()
			lasts(t, with, last, is)
		}
		a, b := with.Counts(), without.Counts()
		if a[api.Fine] != b[api.Fine] || a[api.Stale] != b[api.Stale] || b[api.Fine]+b[api.Stale] == len(slots) {
			t.Errorf("%v with, %v without", a, b)
		}
	}
}

// P2: the same slots in the same order are told alike by each track of their channel.
func TestSameSlotsSameAnswers(t *testing.T) {
	for seed := range 20 {
		channel := seed % 4
		first, second := made(t, channel), made(t, channel)
		slots, _, _ := walk(t, channel, seed, 80)
		type told struct {
			f    api.Frame
			r    api.Reject
			last int
			is   bool
			n    [7]int
		}
		var all []told
		for _, s := range slots {
			var a told
			a.f, a.r = first.Take(s)
			a.last, a.is = first.Last()
			a.n = first.Counts()
			all = append(all, a)
		}
		for i, s := range slots {
			takes(t, second, s, all[i].f, all[i].r)
			lasts(t, second, all[i].last, all[i].is)
			counts(t, second, all[i].n)
		}
	}
}

// P1: bytes of any length, one byte again and again, end in an answer, are no frame, and leave the last number as it was.
func TestAnyBytes(t *testing.T) {
	x := begun(t, 1, 5)
	for n := range 120 {
		for by := range 256 {
			f, r := x.Take(sent(bytes.Repeat([]byte{byte(by)}, n)))
			want := api.Length
			switch {
			case n == 38 && by == 165:
				want = api.Other
			case n == 38:
				want = api.Sync
			}
			if f != (api.Frame{}) || r != want {
				t.Fatalf("%d times %d: %v, %d", n, by, f, r)
			}
		}
	}
	takes(t, x, sent(make([]byte, 1<<20)), api.Frame{}, api.Length)
	lasts(t, x, 5, true)
	counts(t, x, [7]int{0: 1, 2: 119*256 + 1, 3: 255, 4: 1})
	fine(t, x, 1, 6)
}
