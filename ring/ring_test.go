package ring

import (
	"math"
	"slices"
	"strconv"
	"strings"
	"testing"

	"rudder/api"
	"rudder/trip"
)

// The signatures that other layers call.
var (
	_ func() *Ring                        = New
	_ func(r *Ring, n api.Note) api.Errno = (*Ring).Add
	_ func(r *Ring) []api.Note            = (*Ring).All
	_ func(r *Ring) int                   = (*Ring).Lost
	_ func(n api.Note) bool               = Right
	_ func(n api.Note) string             = Text
)

// How many notes a ring has, and how many channels, signals, kinds and masks there are, written out so that a wrong constant of the package does not hide itself.
const (
	size     = 32
	channels = 4
	signals  = 8
	kindsAll = 3
	masks    = 64
)

// kindOf is a kind's word, by the document's words.
func kindOf(kind int) string {
	switch kind {
	case 0:
		return "latched"
	case 1:
		return "back"
	}
	return "out"
}

// tripsOf is a mask's text, by the document's words.
func tripsOf(mask int) string {
	out := ""
	for i, name := range []string{"frame", "range", "spike", "stuck", "drift", "mis"} {
		if mask/[]int{1, 2, 4, 8, 16, 32}[i]%2 == 0 {
			continue
		}
		if out != "" {
			out += "+"
		}
		out += name
	}
	if out == "" {
		return "-"
	}
	return out
}

// mayBe tells whether a note may be, by the document's words.
func mayBe(n api.Note) bool {
	switch {
	case n.Cycle < 0, n.Channel < 0, n.Channel > 3, n.Signal < 0, n.Signal > 7, n.Kind < 0, n.Kind > 2, n.Trips < 0, n.Trips > 63:
		return false
	}
	return true
}

// told is a note's text, by the document's words.
func told(n api.Note) string {
	return "cycle " + strconv.Itoa(n.Cycle) + " channel " + strconv.Itoa(n.Channel) + " signal " + strconv.Itoa(n.Signal) + " " + kindOf(n.Kind) + " " + tripsOf(n.Trips)
}

// ith is a note that may be, another one for each number from 0 on.
func ith(i int) api.Note {
	return api.Note{Cycle: i, Channel: i * 3 % channels, Signal: i * 5 % signals, Kind: i * 2 % kindsAll, Trips: i * 11 % masks}
}

// firsts are so many notes that may be.
func firsts(count int) []api.Note {
	var out []api.Note
	for i := range count {
		out = append(out, ith(i))
	}
	return out
}

// fields are a note's fields, each with the greatest number that may stand in it.
func fields(n *api.Note) []struct {
	at   *int
	most int
} {
	return []struct {
		at   *int
		most int
	}{{&n.Cycle, math.MaxInt}, {&n.Channel, 3}, {&n.Signal, 7}, {&n.Kind, 2}, {&n.Trips, 63}}
}

// wrongs are notes that may not be: each with one field that may not be, just outside, far off with lower bits of one that may be, and at the ends of an int.
func wrongs() []api.Note {
	var out []api.Note
	for _, from := range []api.Note{{}, {Cycle: 12, Channel: 3, Signal: 7, Kind: 2, Trips: 34}, {Cycle: math.MaxInt, Channel: 1, Signal: 2, Kind: 1, Trips: 63}} {
		for i := range fields(&from) {
			n := from
			field := fields(&n)[i]
			own := *field.at
			for _, x := range []int{-1, -2, -own - 1, math.MinInt, math.MinInt + 1, math.MinInt + min(own, field.most)} {
				*field.at = x
				out = append(out, n)
			}
			if field.most == math.MaxInt {
				continue
			}
			for _, x := range []int{field.most + 1, field.most + 2, 2*field.most + 1, math.MaxInt, math.MaxInt - 1, 64 + own, 256 + own, -64 + own, -256 + own, 1<<16 + own, -1<<16 + own, 1<<32 + own, -1<<32 + own, 1<<62 + own} {
				*field.at = x
				out = append(out, n)
			}
		}
	}
	return out
}

// drawer gives numbers from 0 on that hang on seed alone.
func drawer(seed int) func(below int) int {
	state := uint64(seed)*2862933555777941757 + 3037000493
	return func(below int) int {
		state = state*6364136223846793005 + 1442695040888963407
		return int(state>>31) % below
	}
}

// made is a new ring, which has no notes and has lost none.
func made(t testing.TB) *Ring {
	t.Helper()
	r := New()
	if r == nil {
		t.Fatal("New() = nil")
	}
	stands(t, r, nil)
	return r
}

// stands holds what a ring has against all notes that came: the last ones, in order, and how many are lost.
func stands(t testing.TB, r *Ring, came []api.Note) {
	t.Helper()
	want := came
	if len(came) > size {
		want = came[len(came)-size:]
	}
	if got := r.All(); !slices.Equal(got, want) {
		t.Fatalf("behind %d notes All() = %v, not %v", len(came), got, want)
	}
	if got := r.Lost(); got != len(came)-len(want) {
		t.Fatalf("behind %d notes Lost() = %d", len(came), got)
	}
}

func adds(t testing.TB, r *Ring, l ...api.Note) {
	t.Helper()
	for _, n := range l {
		if e := r.Add(n); e != api.OK {
			t.Fatalf("Add(%v) = %d", n, e)
		}
	}
}

// holds holds what is told of a note against the document's words, one that may not be too.
func holds(t testing.TB, n api.Note) {
	t.Helper()
	if !mayBe(n) {
		refused(t, n)
		return
	}
	if !Right(n) {
		t.Fatalf("Right(%v) = false", n)
	}
	if got := Text(n); got != told(n) {
		t.Fatalf("Text(%v) = %q, not %q", n, got, told(n))
	}
	r := made(t)
	adds(t, r, n)
	stands(t, r, []api.Note{n})
}

// refused holds that notes may not be, have no text, and don't come into a ring.
func refused(t testing.TB, l ...api.Note) {
	t.Helper()
	for _, n := range l {
		if mayBe(n) || Right(n) || Text(n) != "" {
			t.Fatalf("%v, which may not be: %t, %q", n, Right(n), Text(n))
		}
		r := made(t)
		if e := r.Add(n); e != api.ErrArg {
			t.Fatalf("Add(%v) = %d", n, e)
		}
		stands(t, r, nil)
	}
}

// P17.1: notes with their texts, written out.
func TestWrittenOut(t *testing.T) {
	for _, x := range []struct {
		n    api.Note
		text string
	}{
		{api.Note{Cycle: 12, Channel: 3, Signal: 7, Kind: 2, Trips: 34}, "cycle 12 channel 3 signal 7 out range+mis"},
		{api.Note{}, "cycle 0 channel 0 signal 0 latched -"},
		{api.Note{Cycle: 5, Channel: 1, Signal: 2, Kind: 1, Trips: 1}, "cycle 5 channel 1 signal 2 back frame"},
		{api.Note{Cycle: 9, Channel: 2, Signal: 1, Kind: 0, Trips: 63}, "cycle 9 channel 2 signal 1 latched frame+range+spike+stuck+drift+mis"},
		{api.Note{Cycle: 10, Channel: 0, Signal: 3, Kind: 1}, "cycle 10 channel 0 signal 3 back -"},
		{api.Note{Cycle: 99, Channel: 3, Signal: 4, Kind: 2, Trips: 4}, "cycle 99 channel 3 signal 4 out spike"},
		{api.Note{Cycle: 100, Channel: 1, Signal: 5, Kind: 0, Trips: 8}, "cycle 100 channel 1 signal 5 latched stuck"},
		{api.Note{Cycle: 9999, Channel: 2, Signal: 6, Kind: 0, Trips: 24}, "cycle 9999 channel 2 signal 6 latched stuck+drift"},
		{api.Note{Cycle: 9223372036854775807, Channel: 0, Signal: 0, Kind: 2, Trips: 32}, "cycle 9223372036854775807 channel 0 signal 0 out mis"},
	} {
		if !Right(x.n) || Text(x.n) != x.text {
			t.Errorf("%v: %t, %q, not %q", x.n, Right(x.n), Text(x.n), x.text)
		}
		if !mayBe(x.n) || told(x.n) != x.text {
			t.Errorf("the words tell %q of %v", told(x.n), x.n)
		}
	}
}

// P17.1: a Cycle of -1, of 0, of some more, and at the ends of an int.
func TestCycle(t *testing.T) {
	for _, from := range firsts(50) {
		for _, n := range []int{0, 1, 9, 10, 99, 100, 101, 9999, 10000, 10001, 65536, 1<<31 - 1, 1 << 31, 1 << 32, 1 << 62, math.MaxInt - 1, math.MaxInt} {
			from.Cycle = n
			holds(t, from)
		}
		for _, n := range []int{-1, -2, -10, -1 << 16, -1 << 31, -1 << 32, -1 << 62, math.MinInt + 1, math.MinInt} {
			from.Cycle = n
			refused(t, from)
		}
	}
}

// P17.1: each Channel, Signal and Kind from -3 to beyond its greatest one, with each of the others: just those that stand in the document may be.
func TestGrid(t *testing.T) {
	right := 0
	for channel := -3; channel <= 6; channel++ {
		for signal := -3; signal <= 10; signal++ {
			for kind := -3; kind <= 5; kind++ {
				n := api.Note{Cycle: 7, Channel: channel, Signal: signal, Kind: kind, Trips: 5}
				holds(t, n)
				if Right(n) {
					right++
				}
			}
		}
	}
	if right != channels*signals*kindsAll {
		t.Errorf("%d of the notes may be", right)
	}
}

// P17.1: a Channel of 0 and 3, a Signal of 0 and 7, a Kind of 0, 1 and 2 may be; one outside, whatever else stands in the note, may not.
func TestEnds(t *testing.T) {
	for _, from := range firsts(200) {
		for _, x := range []int{0, 3} {
			n := from
			n.Channel = x
			holds(t, n)
		}
		for _, x := range []int{0, 7} {
			n := from
			n.Signal = x
			holds(t, n)
		}
		for _, x := range []int{0, 1, 2} {
			n := from
			n.Kind = x
			holds(t, n)
		}
		for i, outside := range [][]int{{-1, math.MinInt}, {-1, 4}, {-1, 8}, {-1, 3}, {-1, 64}} {
			for _, x := range outside {
				n := from
				*fields(&n)[i].at = x
				refused(t, n)
			}
		}
	}
}

// P17.1: each mask of trips from 0 to 63, with each kind, may be; each number beside them may not.
func TestTrips(t *testing.T) {
	for kind := range kindsAll {
		for mask := -300; mask < 600; mask++ {
			n := api.Note{Cycle: 3, Channel: 1, Signal: 4, Kind: kind, Trips: mask}
			if Right(n) != (0 <= mask && mask <= 63) {
				t.Fatalf("Right(%v) = %t", n, Right(n))
			}
			holds(t, n)
		}
	}
}

// P17.1: notes with one field just outside, far off with the lower bits of one that may be, and at the ends of an int.
func TestFarOff(t *testing.T) {
	refused(t, wrongs()...)
	for _, from := range firsts(100) {
		for place := 6; place < 63; place++ {
			for i := 1; i <= 4; i++ {
				above, under := from, from
				*fields(&above)[i].at += 1 << place
				*fields(&under)[i].at -= 1 << place
				refused(t, above, under)
			}
			under := from
			under.Cycle -= 1 << place
			holds(t, under)
		}
	}
}

// P17.1: a note of which several fields may not be.
func TestManyWrong(t *testing.T) {
	refused(t, api.Note{Cycle: -1, Channel: -1, Signal: -1, Kind: -1, Trips: -1}, api.Note{Channel: 4, Signal: 8}, api.Note{Kind: 3, Trips: 64}, api.Note{Cycle: -1, Channel: 4, Signal: 8, Kind: 3, Trips: 64})
	refused(t, api.Note{Cycle: math.MinInt, Channel: math.MaxInt, Signal: math.MinInt, Kind: math.MaxInt, Trips: math.MinInt}, api.Note{Channel: 7, Signal: 3}, api.Note{Signal: 63, Trips: 7}, api.Note{Kind: 34, Trips: 2})
}

// P17.1: a text has eight words, with one blank between; each number is told in figures, no two notes' texts are alike, and the last word is what package trip tells.
func TestText(t *testing.T) {
	seen := map[string]bool{}
	for _, cycle := range []int{0, 9, 10, 99, 100, math.MaxInt} {
		for channel := range channels {
			for signal := range signals {
				for kind := range kindsAll {
					for _, mask := range []int{0, 1, 2, 4, 8, 16, 32, 3, 33, 34, 62, 63} {
						n := api.Note{Cycle: cycle, Channel: channel, Signal: signal, Kind: kind, Trips: mask}
						text := Text(n)
						want := []string{"cycle", strconv.Itoa(cycle), "channel", strconv.Itoa(channel), "signal", strconv.Itoa(signal), []string{"latched", "back", "out"}[kind], trip.Text(mask)}
						if parts := strings.Split(text, " "); !slices.Equal(parts, want) || seen[text] {
							t.Fatalf("Text(%v) = %q", n, text)
						}
						seen[text] = true
					}
				}
			}
		}
	}
}

// P17.1, P17.2: behind each of many notes there are the last 32 ones, the oldest one first, and all others are lost.
func TestLastOnes(t *testing.T) {
	r := made(t)
	var came []api.Note
	for i := range 1500 {
		adds(t, r, ith(i))
		came = append(came, ith(i))
		stands(t, r, came)
	}
}

// P17.1, P17.2: how many there are, and how many are lost, behind no note, 1, 31, 32, 33, 63, 64, 65 and many more, written out.
func TestCounts(t *testing.T) {
	for _, x := range []struct{ came, first, are, lost int }{
		{0, 0, 0, 0}, {1, 0, 1, 0}, {2, 0, 2, 0}, {31, 0, 31, 0}, {32, 0, 32, 0}, {33, 1, 32, 1}, {34, 2, 32, 2}, {63, 31, 32, 31}, {64, 32, 32, 32}, {65, 33, 32, 33},
		{95, 63, 32, 63}, {96, 64, 32, 64}, {97, 65, 32, 65}, {128, 96, 32, 96}, {1000, 968, 32, 968}, {100000, 99968, 32, 99968},
	} {
		r := made(t)
		adds(t, r, firsts(x.came)...)
		l := r.All()
		if len(l) != x.are || r.Lost() != x.lost {
			t.Fatalf("behind %d notes: %d, and %d lost", x.came, len(l), r.Lost())
		}
		for i, n := range l {
			if n != ith(x.first+i) {
				t.Fatalf("behind %d notes, at %d: %v, not %v", x.came, i, n, ith(x.first+i))
			}
		}
	}
}

// P17.2: notes stand in the order in which they came, whatever their cycles are, and those that are alike have each a place.
func TestOrderOfComing(t *testing.T) {
	r := made(t)
	var came []api.Note
	for i := range 100 {
		for _, n := range []api.Note{{Cycle: 1000 - i}, {Cycle: 5, Channel: i % channels}, {Cycle: 5, Channel: i % channels}, {}, {Cycle: i * i % 17, Kind: 2}} {
			adds(t, r, n)
			came = append(came, n)
			stands(t, r, came)
		}
	}
	alike := made(t)
	came = nil
	for range 70 {
		adds(t, alike, api.Note{})
		came = append(came, api.Note{})
		stands(t, alike, came)
	}
}

// P17.1: a note that may not be changes neither what there is nor what is lost, in a ring without notes, in one that is not full, in one of 32, and in one that has lost some.
func TestWrongChangesNothing(t *testing.T) {
	for _, count := range []int{0, 1, 2, 31, 32, 33, 50, 63, 64, 65, 100} {
		r := made(t)
		came := firsts(count)
		adds(t, r, came...)
		for _, n := range wrongs() {
			if e := r.Add(n); e != api.ErrArg {
				t.Fatalf("Add(%v) = %d", n, e)
			}
			stands(t, r, came)
		}
		for i := range 40 {
			n := wrongs()[i]
			if e := r.Add(n); e != api.ErrArg {
				t.Fatalf("Add(%v) = %d", n, e)
			}
			adds(t, r, ith(count+i))
			came = append(came, ith(count+i))
			stands(t, r, came)
		}
	}
}

// P17.1, P2: who writes into what All answered, or appends to it, changes nothing in the ring, nor in another answer; and a later note changes no answer.
func TestAllIsNew(t *testing.T) {
	for _, count := range []int{1, 2, 5, 31, 32, 33, 40, 64, 65} {
		r := made(t)
		came := firsts(count)
		adds(t, r, came...)
		want := came[max(0, count-size):]
		first, second := r.All(), r.All()
		for i := range first {
			first[i] = api.Note{Cycle: -5, Channel: 77, Trips: 99}
		}
		first = append(first[:0], api.Note{Cycle: -7}, api.Note{Cycle: -7}, api.Note{Cycle: -7})
		if !slices.Equal(second, want) {
			t.Fatalf("another answer: %v", second)
		}
		stands(t, r, came)
		_ = append(second, api.Note{Cycle: -9})
		for i := range 70 {
			adds(t, r, ith(count+i))
			came = append(came, ith(count+i))
		}
		if !slices.Equal(second, want) {
			t.Fatalf("an answer behind later notes: %v", second)
		}
		stands(t, r, came)
	}
}

// P17.1, P2: a change of a note behind its Add changes nothing in the ring, and a text does not change the note.
func TestNoteIsApart(t *testing.T) {
	r := made(t)
	n := api.Note{Cycle: 4, Channel: 1, Signal: 6, Kind: 1, Trips: 3}
	var came []api.Note
	for i := range 50 {
		adds(t, r, n)
		came = append(came, n)
		n.Cycle, n.Channel, n.Signal, n.Kind, n.Trips = -1, 9, 9, 9, 99
		stands(t, r, came)
		n = ith(i)
	}
	if n := ith(12); Text(n) != told(n) || n != ith(12) || !Right(n) || n != ith(12) {
		t.Errorf("%v", n)
	}
}

// P17.1, P2: rings are apart from each other, and from those that are made behind them.
func TestRingsAreApart(t *testing.T) {
	a, b := made(t), made(t)
	if a == b {
		t.Fatal("one ring twice")
	}
	var inA, inB []api.Note
	for i := range 90 {
		adds(t, a, ith(i))
		inA = append(inA, ith(i))
		if i%3 == 0 {
			adds(t, b, ith(2*i+1))
			inB = append(inB, ith(2*i+1))
		}
		stands(t, a, inA)
		stands(t, b, inB)
		made(t)
	}
}

// P17.1, P2: what All and Lost answer stays, how often they are asked, and whatever else is asked between.
func TestAskedAgain(t *testing.T) {
	for _, count := range []int{0, 1, 31, 32, 33, 64, 65} {
		r := made(t)
		came := firsts(count)
		adds(t, r, came...)
		for _, between := range []func(){
			func() { r.All() }, func() { r.Lost() }, func() { Right(ith(3)) }, func() { Right(api.Note{Kind: 3}) }, func() { Text(ith(9)) }, func() { Text(api.Note{Trips: -1}) },
			func() { r.Add(api.Note{Cycle: -1}) }, func() { New().Add(ith(5)) }, func() { (*Ring)(nil).Add(ith(5)) },
		} {
			between()
			stands(t, r, came)
			holds(t, ith(7))
			refused(t, api.Note{Signal: 8})
		}
	}
}

// P17.1: on a nil ring Add answers ErrArg, to a note that may be and to one that may not, All nothing, Lost 0.
func TestNil(t *testing.T) {
	var none *Ring
	for _, n := range append(wrongs(), firsts(70)...) {
		if e := none.Add(n); e != api.ErrArg {
			t.Fatalf("Add(%v) = %d", n, e)
		}
		if l := none.All(); len(l) != 0 || none.Lost() != 0 {
			t.Fatalf("%v, %d", l, none.Lost())
		}
	}
}

// P17.1, P17.2: drawn notes, many of which may not be, into one ring each.
func TestDrawn(t *testing.T) {
	for seed := range 300 {
		draw := drawer(seed)
		r := made(t)
		var came []api.Note
		for range draw(150) {
			n := api.Note{Cycle: draw(50), Channel: draw(channels), Signal: draw(signals), Kind: draw(kindsAll), Trips: draw(masks)}
			if draw(3) == 0 {
				*fields(&n)[draw(5)].at = draw(100) - 30
			}
			if draw(9) == 0 {
				*fields(&n)[draw(5)].at = draw(math.MaxInt) >> draw(63) * (draw(2)*2 - 1)
			}
			holds(t, n)
			want := api.ErrArg
			if mayBe(n) {
				came, want = append(came, n), api.OK
			}
			if e := r.Add(n); e != want {
				t.Fatalf("Add(%v) = %d", n, e)
			}
			stands(t, r, came)
		}
	}
}

// P2: calls that run beside each other, each on a ring of its own, answer as they do alone.
func TestBeside(t *testing.T) {
	done := make(chan bool)
	for from := range 8 {
		go func() {
			ok := true
			r := New()
			for i := range 300 {
				n := ith(i + 40*from)
				ok = ok && r.Add(n) == api.OK && r.Add(api.Note{Kind: 3}) == api.ErrArg && Right(n) && Text(n) == told(n)
				l := r.All()
				ok = ok && len(l) == min(i+1, size) && l[len(l)-1] == n && r.Lost() == max(0, i+1-size)
			}
			done <- ok
		}()
	}
	for range 8 {
		if !<-done {
			t.Error("calls beside each other answer otherwise")
		}
	}
}
