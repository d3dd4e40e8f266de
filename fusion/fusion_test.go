package fusion

import (
	"bytes"
	"math"
	"slices"
	"testing"

	"rudder/api"
	"rudder/config"
	"rudder/latch"
)

// The signatures that other layers call.
var (
	_ func(c api.Config) (*Fusion, api.Errno)                           = New
	_ func(f *Fusion, c api.Cycle) (api.Output, []byte, api.Errno)      = (*Fusion).Step
	_ func(f *Fusion) int                                               = (*Fusion).Cycles
	_ func(f *Fusion) int                                               = (*Fusion).Shut
	_ func(f *Fusion) []api.Note                                        = (*Fusion).Notes
	_ func(f *Fusion) int                                               = (*Fusion).Lost
	_ func(f *Fusion, channel int) [7]int                               = (*Fusion).Rejects
	_ func(f *Fusion, channel int) int                                  = (*Fusion).Latched
	_ func(f *Fusion, channel, signal int) (state latch.State, is bool) = (*Fusion).State
)

// P20.1: the document's ninth example of the whole, and on: the third channel comes back, and is out when it sends nothing for two cycles again.
func TestNinthExample(t *testing.T) {
	c := api.Config{N: 3, Lo: -100, Hi: 100, Safe: 5, Step: 40, Stuck: 9, Window: 3, Drift: 30, Mis: 20, Auth: 2, Clip: 4, Latch: 2, Clean: 2, Budget: 1, Limit: 4, Weights: [4]int{1, 1, 2}}
	f, m := both(t, c)
	out := latch.State{Latched: true, Out: true, Strikes: 2, Back: 1}
	for i, x := range []struct {
		third             bool
		in, latched, shut int
		notes             int
		state             latch.State
	}{
		{true, 7, 0, 0, 0, latch.State{}},
		{false, 3, 0, 0, 0, latch.State{Strikes: 1}},
		{false, 3, 4, 4, 8, latch.State{Latched: true, Strikes: 2}},
		{true, 3, 4, 4, 8, latch.State{Latched: true, Strikes: 2}}, // stale: it left two out
		{true, 3, 4, 4, 8, latch.State{Latched: true, Strikes: 2, Clean: 1}},
		{true, 3, 0, 0, 16, latch.State{Back: 1}},
		{true, 7, 0, 0, 16, latch.State{Back: 1}},
		{false, 3, 0, 0, 16, latch.State{Strikes: 1, Back: 1}},
		{false, 3, 4, 4, 24, out},
		{true, 3, 4, 4, 24, out}, // stale
		{true, 3, 4, 4, 24, out},
		{true, 3, 4, 4, 24, out},
		{true, 3, 4, 4, 24, out},
	} {
		sent := cycleOf(i, all(10), all(12), all(11))
		if !x.third {
			sent[2] = api.Slot{}
		}
		o := steps(t, f, m, sent)
		want := api.Output{Seq: i, Values: all(11)}
		for j := range want.Status {
			want.Status[j] = api.Status{In: x.in, Latched: x.latched, Suspect: -1}
		}
		if o != want {
			t.Errorf("cycle %d: %+v, not %+v", i, o, want)
		}
		if f.Shut() != x.shut || len(f.Notes()) != x.notes || f.Lost() != 0 || f.Latched(2) != x.latched/4*255 {
			t.Errorf("cycle %d: shut %d, %d notes, latched %d", i, f.Shut(), len(f.Notes()), f.Latched(2))
		}
		for j := range signals {
			if state, ok := f.State(2, j); !ok || state != x.state {
				t.Errorf("cycle %d, signal %d: %+v, not %+v", i, j, state, x.state)
			}
		}
	}
	if got, want := f.Rejects(2), [7]int{7, 4, 0, 0, 0, 0, 2}; got != want {
		t.Errorf("Rejects(2) = %v, not %v", got, want)
	}
	for i, n := range f.Notes() {
		if want := (api.Note{Cycle: []int{2, 5, 8}[i/8], Channel: 2, Signal: i % 8, Kind: i / 8, Trips: []int{1, 0, 1}[i/8]}); n != want {
			t.Errorf("note %d: %v, not %v", i, n, want)
		}
	}
}

// P20.1: of configurations that may be there is a fusion, with nothing that was.
func TestNew(t *testing.T) {
	for n := 3; n <= 4; n++ {
		c, _ := config.Default(n)
		l := []api.Config{c, open(n)}
		for limit := 1; limit <= 8; limit++ {
			l = append(l, limited(n, limit))
		}
		for _, c := range l {
			f, _ := both(t, c)
			for _, channel := range numbers() {
				is := channel >= 0 && channel < n
				if f.Rejects(channel) != [7]int{} || f.Latched(channel) != 0 {
					t.Errorf("New(%+v), channel %d: %v, %d", c, channel, f.Rejects(channel), f.Latched(channel))
				}
				for _, i := range numbers() {
					if state, ok := f.State(channel, i); ok != (is && i >= 0 && i < 8) || state != (latch.State{}) {
						t.Errorf("New(%+v): State(%d, %d) = %+v, %t", c, channel, i, state, ok)
					}
				}
			}
			if o := steps(t, f, newModel(t, c), api.Cycle{}); o.Values != all(c.Safe) || inOf(o) != all(0) {
				t.Errorf("New(%+v): %+v", c, o)
			}
		}
	}
}

// wrongConfigs may not be: each field is one outside, or far off, alone.
func wrongConfigs() []api.Config {
	l := []api.Config{{}}
	for n := 3; n <= 4; n++ {
		for _, change := range []func(c *api.Config){
			func(c *api.Config) { c.N = 0 },
			func(c *api.Config) { c.N = 2 },
			func(c *api.Config) { c.N = 5 },
			func(c *api.Config) { c.N = -1 },
			func(c *api.Config) { c.N += 1 << 32 },
			func(c *api.Config) { c.N = 7 - c.N }, // its weights are the other number's
			func(c *api.Config) { c.Lo = least - 1 },
			func(c *api.Config) { c.Hi = most + 1 },
			func(c *api.Config) { c.Hi = c.Lo - 1 },
			func(c *api.Config) { c.Safe = c.Lo - 1 },
			func(c *api.Config) { c.Safe = c.Hi + 1 },
			func(c *api.Config) { c.Step = -1 },
			func(c *api.Config) { c.Stuck = -1 },
			func(c *api.Config) { c.Window = 1 },
			func(c *api.Config) { c.Window = 17 },
			func(c *api.Config) { c.Drift = most + 1 },
			func(c *api.Config) { c.Lag = 9 },
			func(c *api.Config) { c.Mis = -1 },
			func(c *api.Config) { c.Auth = most + 1 },
			func(c *api.Config) { c.Gain = -1 },
			func(c *api.Config) { c.Clip = -1 },
			func(c *api.Config) { c.Latch = 0 },
			func(c *api.Config) { c.Latch = 101 },
			func(c *api.Config) { c.Clean = 0 },
			func(c *api.Config) { c.Clean = 1001 },
			func(c *api.Config) { c.Budget = -1 },
			func(c *api.Config) { c.Budget = 11 },
			func(c *api.Config) { c.Limit = 0 },
			func(c *api.Config) { c.Limit = 9 },
			func(c *api.Config) { c.Limit += 1 << 32 },
			func(c *api.Config) { c.Limit = math.MinInt },
			func(c *api.Config) { c.Weights[2] = 0 },
			func(c *api.Config) { c.Weights[0] = 17 },
			func(c *api.Config) { c.Weights[3] = 20 },
		} {
			c := open(n)
			change(&c)
			l = append(l, c)
		}
	}
	return l
}

// P20.1: of others there is none.
func TestNewOfWrongOnes(t *testing.T) {
	for _, c := range wrongConfigs() {
		if f, e := New(c); f != nil || e != 2 {
			t.Errorf("New(%+v) = %v, %d", c, f, e)
		}
	}
}

// P20.1: a nil fusion tells nothing, at all arguments.
func TestNil(t *testing.T) {
	var f *Fusion
	for _, c := range []api.Cycle{{}, cycleOf(7, all(1), all(2), all(3), all(4)), {{Is: true}, {Bytes: []byte{1}}}} {
		if o, b, e := f.Step(c); o != (api.Output{}) || len(b) != 0 || e != 1 {
			t.Errorf("Step: %+v, %v, %d", o, b, e)
		}
	}
	if f.Cycles() != 0 || f.Shut() != 0 || len(f.Notes()) != 0 || f.Lost() != 0 {
		t.Errorf("%d, %d, %v, %d", f.Cycles(), f.Shut(), f.Notes(), f.Lost())
	}
	for _, channel := range numbers() {
		if f.Rejects(channel) != [7]int{} || f.Latched(channel) != 0 {
			t.Errorf("channel %d: %v, %d", channel, f.Rejects(channel), f.Latched(channel))
		}
		for _, i := range numbers() {
			if state, ok := f.State(channel, i); ok || state != (latch.State{}) {
				t.Errorf("State(%d, %d) = %+v, %t", channel, i, state, ok)
			}
		}
	}
}

// slotsOf are slots of a channel, with the reject of each, where the frame behind it would be Fine with the number seq.
func slotsOf(channel, seq int) []struct {
	s api.Slot
	r int
} {
	b := frameOf(channel, seq, all(10))
	change := func(at int, by byte) api.Slot {
		l := slices.Clone(b)
		l[at] ^= by
		return api.Slot{Is: true, Bytes: l}
	}
	return []struct {
		s api.Slot
		r int
	}{
		{api.Slot{Is: true, Bytes: b}, fine},
		{api.Slot{}, absent},
		{api.Slot{Bytes: b}, absent},
		{api.Slot{Is: true}, length},
		{api.Slot{Is: true, Bytes: []byte{}}, length},
		{api.Slot{Is: true, Bytes: b[:37]}, length},
		{api.Slot{Is: true, Bytes: append(slices.Clone(b), 0)}, length},
		{change(0, 1), sync},
		{change(0, 255), sync},
		{slotOf((channel+1)%4, seq, all(10)), other},
		{slotOf((channel+3)%4, seq, all(10)), other},
		{slotOf(channel+4, seq, all(10)), other},
		{change(1, 128), other},
		{change(2, 1), sum},
		{change(3, 1), sum},
		{change(4, 64), sum},
		{change(35, 1), sum},
		{change(36, 1), sum},
		{change(37, 128), sum},
		{slotOf(channel, (seq+1)%turn, all(10)), stale},
		{slotOf(channel, (seq+turn-1)%turn, all(10)), stale},
		{slotOf(channel, (seq+turn/2)%turn, all(10)), stale},
	}
}

// P20.1: a channel whose slot is not fine is counted, and tells none of the signals anything; the others do.
func TestEachReject(t *testing.T) {
	for n := 3; n <= 4; n++ {
		for channel := range n {
			for i, x := range slotsOf(channel, (100*channel+1)%turn) {
				f, m := both(t, open(n))
				steps(t, f, m, cycleOf(0, all(10), all(10), all(10), all(10)))
				sent := cycleOf(1, all(20), all(20), all(20), all(20))
				sent[channel] = x.s
				o := steps(t, f, m, sent)
				in := 1<<n - 1
				var want [7]int
				want[fine]++
				want[x.r]++
				strikes := 0
				if x.r != fine {
					in -= 1 << channel
					strikes = 1
				}
				if inOf(o) != all(in) || f.Rejects(channel) != want {
					t.Errorf("of %d, channel %d, slot %d: %v, %v", n, channel, i, inOf(o), f.Rejects(channel))
				}
				for at := range signals {
					if state, ok := f.State(channel, at); !ok || state != (latch.State{Strikes: strikes}) {
						t.Errorf("of %d, channel %d, slot %d, signal %d: %+v", n, channel, i, at, state)
					}
				}
			}
		}
	}
}

// P20.1: each channel's slot is any of these, all of them mixed, and the frames behind them count on.
func TestMixedRejects(t *testing.T) {
	for n := 3; n <= 4; n++ {
		draw := drawer(100 + n)
		f, m := both(t, open(n))
		var seqs [4]int
		for range 600 {
			var c api.Cycle
			for channel := range c {
				l := slotsOf(channel, seqs[channel])
				x := l[draw(len(l))]
				if draw(2) == 0 {
					x = l[0]
				}
				c[channel] = x.s
				if x.r == fine || x.r == stale {
					seqs[channel] = (int(x.s.Bytes[2])*256 + int(x.s.Bytes[3]) + 1) % turn
				}
			}
			steps(t, f, m, c)
		}
		for channel := range n {
			for r, count := range f.Rejects(channel) {
				if count < 3 {
					t.Errorf("channel %d: just %d of the reject %d", channel, count, r)
				}
			}
		}
	}
}

// P20.1: a slot of a channel that there is not counts not.
func TestFourthOfThree(t *testing.T) {
	f, m := both(t, open(3))
	for i := range 20 {
		c := cycleOf(i, all(10), all(10), all(10), all(99))
		if i%2 == 1 {
			c[3] = api.Slot{Is: i%4 == 1, Bytes: []byte{165, 3}}
		}
		if o := steps(t, f, m, c); inOf(o) != all(7) || o.Values != all(10) {
			t.Errorf("cycle %d: %+v", i, o)
		}
	}
	if f.Rejects(3) != [7]int{} || f.Shut() != 0 || len(f.Notes()) != 0 {
		t.Errorf("%v, %d, %v", f.Rejects(3), f.Shut(), f.Notes())
	}
}

// P20.1: each channel's values reach the signals in their order, of those channels that sent a frame alone.
func TestValuesInOrder(t *testing.T) {
	values := [4][signals]int{{1, -2, 30, -40, 55, -66, 77, -100}, {9, 8, 7, 6, 5, 4, 3, 2}, {-11, 12, -13, 14, -15, 16, -17, 18}, {100, 90, 80, 70, 60, 50, 40, 30}}
	for n := 3; n <= 4; n++ {
		for sent := range 1 << n {
			f, m := both(t, open(n))
			c := cycleOf(5, values[:]...)
			for channel := range c {
				if sent>>channel&1 == 0 {
					c[channel] = api.Slot{}
				}
			}
			o := steps(t, f, m, c)
			if inOf(o) != all(sent) {
				t.Errorf("of %d, sent by %d: in %v", n, sent, inOf(o))
			}
			for i := range signals {
				sum, count := 0, 0
				for channel := range n {
					if sent>>channel&1 == 1 {
						sum += values[channel][i]
						count++
					}
				}
				want := 5
				if count > 0 {
					// Without any that is far from the mid, and with weights of 1.
					want = int(math.Floor(float64(sum) / float64(count)))
				}
				if o.Values[i] != want {
					t.Errorf("of %d, sent by %d: signal %d is %d, not %d", n, sent, i, o.Values[i], want)
				}
			}
		}
	}
}

// P20.1: the frames of a channel are numbered for themselves: none of them is to be the same as another one's.
func TestOwnNumbers(t *testing.T) {
	f, m := both(t, open(4))
	for i := range 40 {
		var c api.Cycle
		for channel, first := range []int{65530, 0, 65535, 12345} {
			c[channel] = slotOf(channel, (first+i)%turn, all(10))
		}
		if o := steps(t, f, m, c); inOf(o) != all(15) {
			t.Fatalf("cycle %d: %v", i, inOf(o))
		}
	}
}

// phase is a cycle of what follows: whether those signals of a channel that are to be latched are out of the range, and whether they are latched ahead of it, and behind it.
type phase struct{ outside, ahead, behind bool }

// phases: fine, out of the range until latched, in it until back, and out of it until out for good.
func phases() []phase {
	const no, yes = false, true
	return []phase{{no, no, no}, {yes, no, no}, {yes, no, yes}, {no, yes, yes}, {no, yes, no}, {no, no, no}, {yes, no, no}, {yes, no, yes}, {no, yes, yes}, {no, yes, yes}, {no, yes, yes}, {yes, yes, yes}, {no, yes, yes}}
}

// shuts holds what is told of all phases, if of each channel those signals of a mask are latched.
func shuts(t *testing.T, n, limit int, masks [4]int) {
	t.Helper()
	f, m := both(t, limited(n, limit))
	for at, p := range phases() {
		var ahead, behind, latched, in [8]int
		shutAhead, shutBehind := 0, 0
		for channel := range n {
			count := 0
			for i := range signals {
				count += masks[channel] >> i & 1
			}
			if p.ahead && count >= limit {
				shutAhead += 1 << channel
			}
			if p.behind && count >= limit {
				shutBehind += 1 << channel
			}
			for i := range signals {
				is := masks[channel]>>i&1 == 1
				if is && p.ahead {
					ahead[i] += 1 << channel
				}
				if is && p.behind {
					behind[i] += 1 << channel
					latched[channel] += 1 << i
				}
				if !(is && (p.ahead || p.outside)) && shutAhead>>channel&1 == 0 {
					in[i] += 1 << channel
				}
			}
		}
		if f.Shut() != shutAhead {
			t.Fatalf("of %d, the limit %d, %v, ahead of cycle %d: shut %d, not %d", n, limit, masks, at, f.Shut(), shutAhead)
		}
		var values [4][signals]int
		for channel := range values {
			values[channel] = all(10)
			if p.outside {
				values[channel] = outside(10, masks[channel])
			}
		}
		o := steps(t, f, m, cycleOf(at, values[:]...))
		if inOf(o) != in || latchedOf(o) != behind || f.Shut() != shutBehind {
			t.Fatalf("of %d, the limit %d, %v, cycle %d: in %v, not %v, latched %v, not %v, shut %d, not %d", n, limit, masks, at, inOf(o), in, latchedOf(o), behind, f.Shut(), shutBehind)
		}
		for channel := range n {
			if f.Latched(channel) != latched[channel] {
				t.Fatalf("of %d, the limit %d, %v, behind cycle %d: Latched(%d) = %d", n, limit, masks, at, channel, f.Latched(channel))
			}
		}
	}
}

// P20.1: a channel is shut with as many latched signals as the limit, whichever they are, from the cycle behind on, until one of them is back; for good with those that are out.
func TestShutOfOneChannel(t *testing.T) {
	for n := 3; n <= 4; n++ {
		for channel := range n {
			for limit := 1; limit <= 8; limit++ {
				draw := drawer(10*limit + channel)
				for count := range signals + 1 {
					first := 1<<count - 1
					for _, mask := range []int{first, first << (8 - count), draw(256), 255 ^ 1<<draw(8)} {
						var masks [4]int
						masks[channel] = mask
						shuts(t, n, limit, masks)
					}
				}
			}
		}
	}
}

// P20.1: so are several at once, each by its own signals; all of them, too.
func TestShutOfMore(t *testing.T) {
	for n := 3; n <= 4; n++ {
		for limit := 1; limit <= 8; limit++ {
			first := 1<<limit - 1
			shuts(t, n, limit, [4]int{first, first, first, first})
			shuts(t, n, limit, [4]int{first >> 1, first << (8 - limit), 0, 255})
			shuts(t, n, limit, [4]int{255, 255, first >> 1, first})
			draw := drawer(400 + 10*n + limit)
			for range 40 {
				shuts(t, n, limit, [4]int{draw(256), draw(256), draw(256), draw(256)})
			}
		}
	}
}

// P20.1: one that is shut is latched no further by that: a signal that is fine keeps its strikes, and comes in as soon as the channel is not shut.
func TestShutStrikesNothing(t *testing.T) {
	f, m := both(t, limited(3, 1))
	for i := range 3 {
		steps(t, f, m, cycleOf(i, all(10), all(10), outside(10, 1)))
	}
	for i := range 3 {
		if i == 2 {
			steps(t, f, m, cycleOf(3, all(10), all(10), all(10)))
			continue
		}
		if f.Shut() != 4 || f.Latched(2) != 1 {
			t.Fatalf("%d, %d", f.Shut(), f.Latched(2))
		}
		for at := 1; at < signals; at++ {
			if state, ok := f.State(2, at); !ok || state != (latch.State{}) {
				t.Errorf("signal %d: %+v", at, state)
			}
		}
	}
}

// P20.1: Seq goes on by one from 0, and comes round, while Cycles goes on, and so do the notes' cycles.
func TestSeqComesRound(t *testing.T) {
	f, e := New(open(3))
	if e != 0 {
		t.Fatal(e)
	}
	const cycles = 2*65536 + 10
	for i := range cycles {
		values := [][signals]int{all(10), all(10), all(10)}
		// Signal 5 of channel 1 is latched in cycle 65537, and back in 65540.
		if i == 65536 || i == 65537 {
			values[1] = outside(10, 32)
		}
		o, b, e := f.Step(cycleOf(i%65536, values...))
		if e != 0 || o.Seq != i%65536 || f.Cycles() != i+1 || int(b[2])*256+int(b[3]) != i%65536 {
			t.Fatalf("cycle %d: %+v, %v, %d, Cycles %d", i, o, b, e, f.Cycles())
		}
	}
	want := []api.Note{{Cycle: 65537, Channel: 1, Signal: 5, Kind: 0, Trips: 2}, {Cycle: 65539, Channel: 1, Signal: 5, Kind: 1}}
	if !slices.Equal(f.Notes(), want) || f.Lost() != 0 {
		t.Errorf("%v, %d", f.Notes(), f.Lost())
	}
	for channel := range 3 {
		if f.Rejects(channel) != [7]int{cycles} {
			t.Errorf("channel %d: %v", channel, f.Rejects(channel))
		}
	}
}

// P20.1: in a cycle notes come in the order of channels, then of signals, whatever happened, with the trips.
func TestNotesInOrder(t *testing.T) {
	c := open(4)
	c.Mis = 80
	f, m := both(t, c)
	calm, far := all(10), 2+32 // 101 is 91 from the others, too
	for i, sent := range [][4][signals]int{
		{calm, calm, calm, calm},
		{outside(10, 128), calm, calm, outside(10, 65)},
		{outside(10, 128), calm, calm, outside(10, 65)},
		{calm, calm, outside(10, 6), calm},
		{calm, calm, outside(10, 6), calm},
		{outside(10, 128), calm, calm, outside(10, 1)},
		{outside(10, 128), calm, calm, outside(10, 1)},
		{calm, calm, calm, calm},
	} {
		cycle := cycleOf(i, sent[:]...)
		if i == 3 || i == 4 {
			cycle[1] = api.Slot{}
		}
		steps(t, f, m, cycle)
	}
	want := []api.Note{
		{Cycle: 2, Channel: 0, Signal: 7, Kind: 0, Trips: far},
		{Cycle: 2, Channel: 3, Signal: 0, Kind: 0, Trips: far},
		{Cycle: 2, Channel: 3, Signal: 6, Kind: 0, Trips: far},
		{Cycle: 4, Channel: 0, Signal: 7, Kind: 1},
	}
	for i := range signals {
		want = append(want, api.Note{Cycle: 4, Channel: 1, Signal: i, Kind: 0, Trips: 1})
	}
	want = append(want, []api.Note{
		{Cycle: 4, Channel: 2, Signal: 1, Kind: 0, Trips: far},
		{Cycle: 4, Channel: 2, Signal: 2, Kind: 0, Trips: far},
		{Cycle: 4, Channel: 3, Signal: 0, Kind: 1},
		{Cycle: 4, Channel: 3, Signal: 6, Kind: 1},
		{Cycle: 6, Channel: 0, Signal: 7, Kind: 2, Trips: far},
		{Cycle: 6, Channel: 2, Signal: 1, Kind: 1},
		{Cycle: 6, Channel: 2, Signal: 2, Kind: 1},
		{Cycle: 6, Channel: 3, Signal: 0, Kind: 2, Trips: far},
	}...)
	for i := range signals {
		// The frame of cycle 5 was stale: back behind 6 and 7.
		want = append(want, api.Note{Cycle: 7, Channel: 1, Signal: i, Kind: 1})
	}
	if !slices.Equal(f.Notes(), want) {
		t.Errorf("%v, not\n%v", f.Notes(), want)
	}
}

// P20.1: notes are lost once they are more than 32, the oldest ones first.
func TestLost(t *testing.T) {
	c := open(4)
	c.Latch, c.Clean, c.Budget = 1, 1, 10
	f, m := both(t, c)
	came := 0
	for i := range 23 {
		values := all(10)
		if i%2 == 0 {
			values = outside(10, 255)
		}
		steps(t, f, m, cycleOf(i, values, values, values, values))
		if i <= 20 {
			came += 32
		}
		if f.Lost() != max(0, came-32) || len(f.Notes()) != 32 {
			t.Fatalf("cycle %d: %d lost, %d notes", i, f.Lost(), len(f.Notes()))
		}
		for at, n := range f.Notes() {
			cycle := min(i, 20)
			want := api.Note{Cycle: cycle, Channel: at / 8, Signal: at % 8, Kind: cycle % 2, Trips: 2 - 2*(cycle%2)}
			if cycle == 20 {
				want.Kind = 2
			}
			if n != want {
				t.Fatalf("cycle %d, note %d: %v, not %v", i, at, n, want)
			}
		}
	}
}

// P20.1: so they are one by one.
func TestLostOneByOne(t *testing.T) {
	c := open(3)
	c.Latch, c.Clean, c.Budget = 1, 1, 10
	f, m := both(t, c)
	for i := range 63 {
		values := all(10)
		if i%2 == 0 {
			values = outside(10, 1<<(i/21))
		}
		if i/21 == 1 { // this signal is latched in the odd cycles
			values = outside(10, 2*(i%2))
		}
		steps(t, f, m, cycleOf(i, all(10), values, all(10)))
		if came := i + 1; len(f.Notes()) != min(32, came) || f.Lost() != max(0, came-32) || f.Notes()[min(31, i)].Cycle != i {
			t.Fatalf("cycle %d: %d notes, %d lost: %v", i, len(f.Notes()), f.Lost(), f.Notes())
		}
	}
}

// P20.1: Rejects, Latched and State of all numbers, of what there is and of what there is not.
func TestAllNumbers(t *testing.T) {
	for n := 3; n <= 4; n++ {
		f, m := both(t, limited(n, 3))
		for i := range 2 {
			steps(t, f, m, cycleOf(i, outside(10, 1), outside(10, 130), outside(10, 84), outside(10, 255)))
		}
		masks := [4]int{1, 130, 84, 255}
		if want := []int{4, 12}[n-3]; f.Shut() != want {
			t.Errorf("of %d: shut %d", n, f.Shut())
		}
		for _, channel := range numbers() {
			is := channel >= 0 && channel < n
			mask, counts := 0, [7]int{}
			if is {
				mask, counts[fine] = masks[channel], 2
			}
			if f.Latched(channel) != mask || f.Rejects(channel) != counts {
				t.Errorf("of %d, channel %d: latched %d, not %d, %v", n, channel, f.Latched(channel), mask, f.Rejects(channel))
			}
			for _, i := range numbers() {
				var want latch.State
				both := is && i >= 0 && i < signals
				if both && mask>>i&1 == 1 {
					want = latch.State{Latched: true, Strikes: 2}
				}
				if state, ok := f.State(channel, i); ok != both || state != want {
					t.Errorf("of %d: State(%d, %d) = %+v, %t, not %+v", n, channel, i, state, ok, want)
				}
			}
		}
	}
}

// Rule 4: what is answered is new memory, and what is handed in is neither changed nor kept.
func TestNewMemory(t *testing.T) {
	c := open(4)
	c.Latch = 1
	f, m := both(t, c)
	var before []byte
	for i := range 12 {
		sent := cycleOf(i, outside(10, i), all(20), outside(30, 3*i), all(40))
		if i%3 == 0 {
			sent[1] = api.Slot{}
		}
		// What lies behind a slot's length is not its own.
		for channel := range sent {
			if sent[channel].Is {
				sent[channel].Bytes = append(sent[channel].Bytes, 1, 2, 3)[:38]
			}
		}
		var kept api.Cycle
		for channel, s := range sent {
			kept[channel] = api.Slot{Is: s.Is, Bytes: slices.Clone(s.Bytes)}
		}
		want := m.step(t, kept)
		o, b, e := f.Step(sent)
		if o != want || e != 0 || !bytes.Equal(b, bytesOf(want)) {
			t.Fatalf("cycle %d: %+v, %v, %d", i, o, b, e)
		}
		for channel, s := range sent {
			if s.Is != kept[channel].Is || !bytes.Equal(s.Bytes, kept[channel].Bytes) || s.Is && !bytes.Equal(s.Bytes[:41][38:], []byte{1, 2, 3}) {
				t.Fatalf("cycle %d, channel %d: %v, once %v", i, channel, s, kept[channel])
			}
			for at := range s.Bytes {
				s.Bytes[at] ^= 255
			}
		}
		told, asked := bytes.Clone(b), f.Notes()
		for at := range before {
			before[at] = 77
		}
		if !bytes.Equal(b, told) {
			t.Fatalf("cycle %d: the bytes of two cycles are the same memory", i)
		}
		before = b
		stands(t, f, m)
		for at := range asked {
			asked[at] = api.Note{Cycle: -1}
		}
		asked = append(asked[:0], make([]api.Note, cap(asked))...)
		stands(t, f, m)
	}
	if f.Lost() == 0 {
		t.Error("none is lost")
	}
}

// P2: what is asked changes nothing, and is told again.
func TestAskedAgain(t *testing.T) {
	f, m := both(t, open(3))
	for i := range 10 {
		steps(t, f, m, cycleOf(i, outside(10, i), outside(10, 2*i), all(10)))
		for range 3 {
			stands(t, f, m)
		}
	}
	// The nil fusion's cycles, and those of a refused configuration, are not this one's.
	var none *Fusion
	none.Step(cycleOf(10, all(1), all(1), all(1)))
	New(api.Config{})
	stands(t, f, m)
}

// P2: two fusions do not touch each other, cycle by cycle in turn, nor beside each other.
func TestApart(t *testing.T) {
	configs := []api.Config{limited(3, 1), limited(4, 2), limited(3, 8)}
	sent := func(which, i int) api.Cycle {
		draw := drawer(1000*which + i)
		return cycleOf(i+which, outside(10, draw(256)), outside(draw(100), draw(256)), all(draw(100)), outside(20, draw(256)))
	}
	var fusions []*Fusion
	var models []*model
	for _, c := range configs {
		f, m := both(t, c)
		fusions, models = append(fusions, f), append(models, m)
	}
	for i := range 60 {
		for which := range configs {
			steps(t, fusions[which], models[which], sent(which, i))
			for all := range configs {
				stands(t, fusions[all], models[all])
			}
		}
	}
	done := make(chan bool)
	for which, c := range configs {
		for range 3 {
			go func() {
				f, _ := New(c)
				for i := range 60 {
					f.Step(sent(which, i))
				}
				done <- slices.Equal(f.Notes(), fusions[which].Notes()) && f.Shut() == fusions[which].Shut() && f.Lost() == fusions[which].Lost()
			}()
		}
	}
	for range 3 * len(configs) {
		if !<-done {
			t.Error("beside each other they tell something else")
		}
	}
}
