package script

import (
	"bytes"
	"math/bits"
	"runtime"
	"slices"
	"testing"
	"time"

	"rudder/api"
	"rudder/config"
)

// The signatures that other layers call, and what a result has.
var (
	_ func(c api.Config, l []api.Cycle) (Result, api.Errno) = Run
	_ func(b []byte) ([]api.Output, api.Errno)              = Split
	_ func(a, b Result) bool                                = Same

	_ = Result{Bytes: []byte(nil), Outputs: []api.Output(nil), Notes: []api.Note(nil), Lost: int(0)}
)

// ninth is the configuration of the document's ninth example of the whole.
func ninth() api.Config {
	return api.Config{N: 3, Lo: -100, Hi: 100, Safe: 5, Step: 40, Stuck: 9, Window: 3, Drift: 30, Mis: 20, Auth: 2, Clip: 4, Latch: 2, Clean: 2, Budget: 1, Limit: 4, Weights: [4]int{1, 1, 2}}
}

// P21.1: the document's ninth example of the whole, and on: the third channel comes back, and is out when it sends nothing for two cycles again.
func TestNinthExample(t *testing.T) {
	var l []api.Cycle
	var want Result
	for i, x := range []struct {
		third       bool
		in, latched int
	}{
		{true, 7, 0}, {false, 3, 0}, {false, 3, 4}, {true, 3, 4}, {true, 3, 4}, {true, 3, 0}, {true, 7, 0}, {false, 3, 0}, {false, 3, 4}, {true, 3, 4},
	} {
		sent := cycleOf(i, all(10), all(12), all(11))
		if !x.third {
			sent[2] = api.Slot{}
		}
		l = append(l, sent)
		o := api.Output{Seq: i, Values: all(11)}
		for at := range o.Status {
			o.Status[at] = api.Status{In: x.in, Latched: x.latched, Suspect: -1}
		}
		want.Outputs = append(want.Outputs, o)
	}
	want.Bytes = joined(want.Outputs...)
	for i := range 24 {
		want.Notes = append(want.Notes, api.Note{Cycle: []int{2, 5, 8}[i/8], Channel: 2, Signal: i % 8, Kind: i / 8, Trips: []int{1, 0, 1}[i/8]})
	}
	if r := runs(t, ninth(), l); !sameOf(r, want) {
		t.Errorf("%v\nnot\n%v", r, want)
	}
}

// P21.1: the bytes of one cycle, written out: in 7, which has the word 1799; then nobody sends anything, none is in, which has the word 3840, and the value stays.
func TestBytesWrittenOut(t *testing.T) {
	r := runs(t, ninth(), []api.Cycle{cycleOf(0, all(10), all(12), all(11)), {}})
	want := append([]byte{90, 0, 0, 0}, bytes.Repeat([]byte{0, 0, 0, 11}, 8)...)
	want = append(want, bytes.Repeat([]byte{7, 7}, 8)...)
	want = append(want, byte(sumOf(want)>>8), byte(sumOf(want)))
	second := append([]byte{90, 8, 0, 1}, bytes.Repeat([]byte{0, 0, 0, 11}, 8)...)
	second = append(second, bytes.Repeat([]byte{15, 0}, 8)...)
	second = append(second, byte(sumOf(second)>>8), byte(sumOf(second)))
	if !bytes.Equal(r.Bytes, append(want, second...)) {
		t.Errorf("%v", r.Bytes)
	}
}

// P21.1: with no cycles there is nothing, and no error.
func TestNoCycles(t *testing.T) {
	for n := 3; n <= 4; n++ {
		own, _ := config.Default(n)
		for _, c := range []api.Config{own, open(n)} {
			for _, l := range [][]api.Cycle{nil, {}, make([]api.Cycle, 0, 5), fineOnes(5)[:0], fineOnes(5)[5:]} {
				if r := runs(t, c, l); !empty(r) || !Same(r, Result{}) {
					t.Errorf("of %+v: %v", c, r)
				}
			}
		}
	}
}

// P21.1: one cycle: of all channels, of some of them, of none, of bytes that are no frame's.
func TestOneCycle(t *testing.T) {
	for n := 3; n <= 4; n++ {
		for sent := range 16 {
			c := cycleOf(7, all(10), all(20), all(30), all(40))
			for channel := range c {
				if sent>>channel&1 == 0 {
					c[channel] = api.Slot{Is: channel%2 == 0, Bytes: c[channel].Bytes[:37*(channel/2)]}
				}
			}
			r := runs(t, open(n), []api.Cycle{c})
			in := sent & (1<<n - 1)
			value := 5
			if in > 0 {
				value = 0
				for channel := range n {
					value += in >> channel & 1 * 10 * (channel + 1)
				}
				value /= bits.OnesCount(uint(in))
			}
			for i, s := range r.Outputs[0].Status {
				if s.In != in || s.Fail != (in == 0) || r.Outputs[0].Values[i] != value || r.Outputs[0].Seq != 0 {
					t.Errorf("of %d, sent by %d, signal %d: %+v, %d, not %d", n, sent, i, s, r.Outputs[0].Values[i], value)
				}
			}
		}
	}
}

// P21.1: as many cycles as there may be, and one less.
func TestAsManyAsMayBe(t *testing.T) {
	for n := 3; n <= 4; n++ {
		l := fineOnes(many)
		for i := range l {
			if i%70 < 30 {
				l[i][i%3] = api.Slot{}
			}
		}
		r := runs(t, open(n), l)
		for i, o := range r.Outputs {
			if o.Seq != i {
				t.Fatalf("cycle %d: Seq %d", i, o.Seq)
			}
		}
		if r.Lost == 0 || len(r.Notes) != 32 || len(r.Outputs) != 10000 || len(r.Bytes) != 540000 {
			t.Errorf("of %d: %d outputs, %d bytes, %d notes, lost %d", n, len(r.Outputs), len(r.Bytes), len(r.Notes), r.Lost)
		}
		less := runs(t, open(n), l[:many-1])
		if len(less.Outputs) != 9999 || !bytes.Equal(less.Bytes, r.Bytes[:539946]) {
			t.Errorf("of %d: %d outputs", n, len(less.Outputs))
		}
	}
}

// P21.1: more cycles than there may be: ErrArg, whatever the configuration is.
func TestTooMany(t *testing.T) {
	for _, count := range []int{many + 1, many + 2, 2 * many, 16384, 65536, 65536 + many, 100000} {
		l := make([]api.Cycle, count)
		for n := 3; n <= 4; n++ {
			own, _ := config.Default(n)
			refused(t, own, l, api.ErrArg)
			refused(t, open(n), l, api.ErrArg)
		}
		refused(t, api.Config{}, l, api.ErrArg)
	}
	l := fineOnes(many + 1)
	refused(t, open(3), l, 1)
	for _, c := range wrongConfigs() {
		refused(t, c, l, 1)
	}
	// Of the same memory, one less may be.
	if r, e := Run(open(3), l[:many]); e != 0 || len(r.Outputs) != many {
		t.Errorf("%d outputs, %d", len(r.Outputs), e)
	}
}

// P21.1: a configuration that may not be: ErrConfig, with any number of cycles that may be, none too.
func TestWrongConfigs(t *testing.T) {
	most := make([]api.Cycle, many)
	for _, c := range wrongConfigs() {
		for _, l := range [][]api.Cycle{nil, {}, {{}}, fineOnes(1), fineOnes(12), most} {
			refused(t, c, l, api.ErrConfig)
			refused(t, c, l, 2)
		}
	}
}

// slotsOf are slots of a channel, and whether they are fine, where the frame behind it would be with the number seq.
func slotsOf(channel, seq int) []struct {
	s    api.Slot
	fine bool
} {
	b := frameOf(channel, seq, all(10))
	change := func(at int, by byte) api.Slot {
		l := slices.Clone(b)
		l[at] ^= by
		return api.Slot{Is: true, Bytes: l}
	}
	return []struct {
		s    api.Slot
		fine bool
	}{
		{api.Slot{Is: true, Bytes: b}, true},
		{api.Slot{}, false},
		{api.Slot{Bytes: b}, false}, // absent, though there are bytes
		{api.Slot{Is: true}, false}, // nil
		{api.Slot{Is: true, Bytes: []byte{}}, false},
		{api.Slot{Is: true, Bytes: b[:37]}, false},
		{api.Slot{Is: true, Bytes: append(slices.Clone(b), 0)}, false},
		{api.Slot{Is: true, Bytes: make([]byte, 1000)}, false},
		{change(0, 1), false},  // another first byte
		{change(1, 7), false},  // another channel's
		{change(4, 64), false}, // another sum
		{change(36, 1), false},
		{change(37, 128), false},
		{slotOf((channel+1)%4, seq, all(10)), false},
		{slotOf(channel, (seq+1)%turn, all(10)), false}, // stale
		{slotOf(channel, (seq+turn-1)%turn, all(10)), false},
	}
}

// P21.1: a channel whose slot is not fine is not in, in the cycle of that slot.
func TestEachReject(t *testing.T) {
	for n := 3; n <= 4; n++ {
		for channel := range n {
			for i, x := range slotsOf(channel, (100*channel+1)%turn) {
				l := []api.Cycle{cycleOf(0, all(10), all(10), all(10), all(10)), cycleOf(1, all(20), all(20), all(20), all(20))}
				l[1][channel] = x.s
				r := runs(t, open(n), l)
				in := 1<<n - 1
				if !x.fine {
					in -= 1 << channel
				}
				for at := range signals {
					if first, second := r.Outputs[0].Status[at].In, r.Outputs[1].Status[at].In; first != 1<<n-1 || second != in {
						t.Errorf("of %d, channel %d, slot %d, signal %d: in %d, then %d", n, channel, i, at, first, second)
					}
				}
			}
		}
	}
}

// P21.1: each channel's slot is any of these, all of them mixed.
func TestMixedRejects(t *testing.T) {
	for n := 3; n <= 4; n++ {
		draw := drawer(100 + n)
		var seqs [4]int
		var l []api.Cycle
		for range 500 {
			var c api.Cycle
			for channel := range c {
				slots := slotsOf(channel, seqs[channel])
				at := draw(len(slots))
				if draw(2) == 0 {
					at = 0
				}
				c[channel] = slots[at].s
				switch at {
				case 0:
					seqs[channel] = (seqs[channel] + 1) % turn
				case 14:
					seqs[channel] = (seqs[channel] + 2) % turn
				}
			}
			l = append(l, c)
		}
		if r := runs(t, open(n), l); r.Lost == 0 {
			t.Errorf("of %d: no note is lost", n)
		}
	}
}

// toggles are cycles in which signal 0 of channel 0 is out of the range, and in it, in turn, and signal 3 of channel 1 so too, from the tenth cycle on.
func toggles(n int) []api.Cycle {
	var l []api.Cycle
	for i := range n {
		first, second := all(10), all(10)
		if i%2 == 0 {
			first[0] = 101
			if i >= 10 {
				second[3] = -101
			}
		}
		l = append(l, cycleOf(i, first, second, all(10), all(10)))
	}
	return l
}

// toggled are all notes that come in so many of these cycles: latched and back, ten times, then out for good.
func toggled(n int) []api.Note {
	var l []api.Note
	for i := range n {
		for channel, at := range []int{i, i - 10} {
			if at < 0 || at > 20 {
				continue
			}
			kind := at % 2
			if at == 20 {
				kind = 2
			}
			l = append(l, api.Note{Cycle: i, Channel: channel, Signal: 3 * channel, Kind: kind, Trips: 2 * (1 - at%2)})
		}
	}
	return l
}

// P21.1: notes, and how many are lost, behind each number of cycles: none at first, 32 that are all, one that is lost, and more.
func TestNotes(t *testing.T) {
	for n := 3; n <= 4; n++ {
		c := open(n)
		c.Latch, c.Clean, c.Budget = 1, 1, 10
		l := toggles(40)
		counts := map[int]int{}
		for cut := range len(l) + 1 {
			r := runs(t, c, l[:cut])
			came := toggled(cut)
			lost := max(0, len(came)-ringSize)
			if r.Lost != lost || !slices.Equal(r.Notes, came[lost:]) {
				t.Errorf("of %d, %d cycles: lost %d, not %d, notes\n%v, not\n%v", n, cut, r.Lost, lost, r.Notes, came[lost:])
			}
			counts[len(came)]++
		}
		for _, came := range []int{0, 1, 2, 32, 33, 42} {
			if counts[came] == 0 {
				t.Errorf("never %d notes", came)
			}
		}
	}
}

// P21.1: as many notes of one cycle as there can be, twice: the first ones are lost.
func TestNotesOfOneCycle(t *testing.T) {
	c := open(4)
	c.Latch, c.Clean = 1, 1
	var l []api.Cycle
	for i := range 4 {
		n := []int{101, 10}[i%2]
		l = append(l, cycleOf(i, all(n), all(n), all(n), all(n)))
	}
	for cut, lost := range []int{0, 0, 32, 64, 64} {
		r := runs(t, c, l[:cut])
		if r.Lost != lost || len(r.Notes) != min(32, 32*cut) {
			t.Errorf("%d cycles: %d notes, lost %d", cut, len(r.Notes), r.Lost)
		}
		for i, n := range r.Notes {
			// Out in the third cycle, they stay so in the fourth.
			kind := min(cut, 3) - 1
			if want := (api.Note{Cycle: kind, Channel: i / 8, Signal: i % 8, Kind: kind, Trips: 2 * (1 - kind%2)}); n != want {
				t.Errorf("%d cycles, note %d: %v, not %v", cut, i, n, want)
			}
		}
	}
}

// P21.1: a run is a new fusion's: what another one latched, or numbered, is not in it.
func TestNewFusion(t *testing.T) {
	c := open(3)
	l := fineOnes(6)
	for range 4 {
		runs(t, c, make([]api.Cycle, 5)) // all channels are latched there
		r := runs(t, c, l)
		if len(r.Notes) != 0 || r.Outputs[5].Status[0].In != 7 || r.Outputs[0].Seq != 0 {
			t.Errorf("%v", r)
		}
	}
}

// P21.2: a run is the same each time, and beside other ones.
func TestSameEachTime(t *testing.T) {
	type ran struct {
		c    api.Config
		l    []api.Cycle
		want Result
	}
	var l []ran
	for seed := range 4 {
		c, cycles := drawnScript(seed, 60)
		l = append(l, ran{c, cycles, runs(t, c, cycles)})
	}
	for range 20 {
		for i, x := range l {
			if r, e := Run(x.c, x.l); e != 0 || !Same(r, x.want) || !sameOf(r, x.want) {
				t.Fatalf("script %d: another run", i)
			}
		}
	}
	done := make(chan bool)
	for _, x := range l {
		for range 8 {
			go func() {
				ok := true
				for range 5 {
					r, e := Run(x.c, x.l)
					o, f := Split(r.Bytes)
					ok = ok && e == 0 && sameOf(r, x.want) && f == 0 && slices.Equal(o, x.want.Outputs)
				}
				done <- ok
			}()
		}
	}
	for range 8 * len(l) {
		if !<-done {
			t.Error("beside each other they are others")
		}
	}
}

// P21.2: a run is the same with one processor as with many.
func TestOneProcessor(t *testing.T) {
	c, l := drawnScript(9, 200)
	want := runs(t, c, l)
	before := runtime.GOMAXPROCS(1)
	defer runtime.GOMAXPROCS(before)
	for _, processors := range []int{1, 2, 3, 16} {
		runtime.GOMAXPROCS(processors)
		for range 10 {
			if r, e := Run(c, l); e != 0 || !sameOf(r, want) {
				t.Fatalf("with %d processors: another run", processors)
			}
		}
	}
}

// begins holds that a run of the first cycles is the beginning of that of all, wherever it is cut (P21.2).
func begins(t testing.TB, c api.Config, l []api.Cycle) {
	t.Helper()
	whole := runs(t, c, l)
	var came []api.Note
	for cut := range len(l) + 1 {
		r, e := Run(c, l[:cut])
		if e != 0 || !bytes.Equal(r.Bytes, whole.Bytes[:size*cut]) || !slices.Equal(r.Outputs, whole.Outputs[:cut]) {
			t.Fatalf("cut at %d: error %d, %d outputs, %d bytes", cut, e, len(r.Outputs), len(r.Bytes))
		}
		// What came in one cycle the ring always holds.
		for _, n := range r.Notes {
			if n.Cycle == cut-1 {
				came = append(came, n)
			}
		}
		lost := max(0, len(came)-ringSize)
		if r.Lost != lost || !slices.Equal(r.Notes, came[lost:]) {
			t.Fatalf("cut at %d: lost %d, not %d, notes\n%v, not\n%v", cut, r.Lost, lost, r.Notes, came[lost:])
		}
		if (cut < len(l)) == Same(r, whole) {
			t.Fatalf("cut at %d of %d: the same is %t", cut, len(l), Same(r, whole))
		}
	}
}

// P21.2: a run of the first cycles is the beginning.
func TestBeginnings(t *testing.T) {
	begins(t, ninth(), []api.Cycle{})
	begins(t, ninth(), fineOnes(20))
	begins(t, open(4), make([]api.Cycle, 20))
	for seed := range 12 {
		c, l := drawnScript(100+seed, 40)
		begins(t, c, l)
	}
}

// P21.2: whatever comes behind the cut, the beginning is the same.
func TestOtherEnds(t *testing.T) {
	for seed := range 10 {
		c, l := drawnScript(200+seed, 30)
		whole := runs(t, c, l)
		_, other := drawnScript(300+seed, 30)
		for cut := range len(l) + 1 {
			r, e := Run(c, append(slices.Clone(l[:cut]), other...))
			if e != 0 || !bytes.Equal(r.Bytes[:size*cut], whole.Bytes[:size*cut]) || !slices.Equal(r.Outputs[:cut], whole.Outputs[:cut]) {
				t.Fatalf("seed %d, cut at %d: another beginning", seed, cut)
			}
		}
	}
}

// Rule 4: what is handed in is neither changed nor kept, and what lies behind a length counts not.
func TestWhatIsHandedIn(t *testing.T) {
	for seed := range 8 {
		c, l := drawnScript(400+seed, 25)
		want := runOf(t, c, l)
		// More cycles, and more bytes, behind the lengths.
		long := append(copied(l), fineOnes(3)...)
		for i := range long {
			for channel, s := range long[i] {
				long[i][channel].Bytes = append(s.Bytes, 1, 2, 3)[:len(s.Bytes)]
			}
		}
		kept := copied(long)
		r, e := Run(c, long[:len(l)])
		if e != 0 || !sameOf(r, want) {
			t.Fatalf("seed %d: another run, %d", seed, e)
		}
		for i := range long {
			for channel, s := range long[i] {
				if s.Is != kept[i][channel].Is || !bytes.Equal(s.Bytes, kept[i][channel].Bytes) || !bytes.Equal(s.Bytes[:len(s.Bytes)+3][len(s.Bytes):], []byte{1, 2, 3}) {
					t.Fatalf("seed %d, cycle %d, channel %d: %v, once %v", seed, i, channel, s, kept[i][channel])
				}
				for at := range s.Bytes {
					s.Bytes[at] ^= 255
				}
				long[i][channel] = api.Slot{}
			}
		}
		if !sameOf(r, want) {
			t.Fatalf("seed %d: what is handed in is kept", seed)
		}
	}
}

// Rule 4: what is answered is new memory: no two answers share any.
func TestNewMemory(t *testing.T) {
	for seed := range 8 {
		c, l := drawnScript(500+seed, 25)
		want := runOf(t, c, l)
		first, _ := Run(c, l)
		second, _ := Run(c, l)
		o, _ := Split(second.Bytes)
		for i := range first.Bytes {
			first.Bytes[i] ^= 255
		}
		for i := range first.Outputs {
			first.Outputs[i] = api.Output{Seq: -1}
		}
		for i := range first.Notes {
			first.Notes[i] = api.Note{Cycle: -1}
		}
		// What lies behind their lengths is no other one's.
		clear(first.Bytes[:cap(first.Bytes)])
		clear(first.Outputs[:cap(first.Outputs)])
		clear(first.Notes[:cap(first.Notes)])
		if !sameOf(second, want) || !slices.Equal(o, want.Outputs) {
			t.Fatalf("seed %d: two runs share memory", seed)
		}
		if again, e := Run(c, l); e != 0 || !sameOf(again, want) {
			t.Fatalf("seed %d: a run is kept", seed)
		}
		clear(second.Outputs)
		if !slices.Equal(o, want.Outputs) {
			t.Fatalf("seed %d: a split shares memory with a run", seed)
		}
		clear(o)
		if again, e := Split(second.Bytes); e != 0 || !slices.Equal(again, want.Outputs) || !bytes.Equal(second.Bytes, want.Bytes) {
			t.Fatalf("seed %d: two splits share memory", seed)
		}
	}
}

// LANGUAGE.md, rule 6: behind a call no goroutine is left, whatever it answered.
func TestNoGoroutineLeft(t *testing.T) {
	before := runtime.NumGoroutine()
	c, l := drawnScript(600, 30)
	for i := range 300 {
		Run(c, l[:i%31])
		Run(api.Config{}, l)
		Run(c, make([]api.Cycle, many+1))
		Split([]byte{90})
	}
	// One that told that all were sent may still be about to end.
	for range 1000 {
		if runtime.NumGoroutine() <= before {
			return
		}
		time.Sleep(time.Millisecond)
	}
	t.Errorf("%d goroutines, once %d", runtime.NumGoroutine(), before)
}
