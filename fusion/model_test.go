package fusion

import (
	"bytes"
	"encoding/binary"
	"math"
	"slices"
	"testing"

	"rudder/api"
	"rudder/latch"
	"rudder/signal"
)

// The document's numbers, written out.
const (
	channels = 4
	signals  = 8
	turn     = 65536
	ringSize = 32
	least    = -2147483648
	most     = 2147483647
)

// The rejects, by the document's numbers.
const (
	fine = iota
	absent
	length
	sync
	other
	sum
	stale
)

// model is a fusion by the document's words, with signals, but without any other layer below.
type model struct {
	c       api.Config
	tracks  [channels]track
	signals [signals]*signal.Signal
	notes   []api.Note // all that came
	cycles  int
}

// track is what the document says that one has.
type track struct {
	last   int
	has    bool
	counts [7]int
}

func newModel(t testing.TB, c api.Config) *model {
	t.Helper()
	m := &model{c: c}
	for i := range m.signals {
		s, e := signal.New(c)
		if e != 0 {
			t.Fatalf("%+v: %d", c, e)
		}
		m.signals[i] = s
	}
	return m
}

// sumOf is the sum of bytes, bit by bit.
func sumOf(b []byte) int {
	n := 65535
	for _, x := range b {
		n ^= int(x) << 8
		for range 8 {
			n *= 2
			if n >= 65536 {
				n = n - 65536 ^ 4129
			}
		}
	}
	return n
}

// sealed are bytes with their sum behind them.
func sealed(b []byte) []byte { return binary.BigEndian.AppendUint16(b, uint16(sumOf(b))) }

// frameOf is the bytes of a channel's frame.
func frameOf(channel, seq int, values [signals]int) []byte {
	b := []byte{165, byte(channel)}
	b = binary.BigEndian.AppendUint16(b, uint16(seq))
	for _, n := range values {
		b = binary.BigEndian.AppendUint32(b, uint32(n))
	}
	return sealed(b)
}

// judge is why a slot's bytes are no frame of a channel, whatever came ahead of it.
func judge(channel int, s api.Slot) int {
	switch b := s.Bytes; {
	case !s.Is:
		return absent
	case len(b) != 38:
		return length
	case b[0] != 165:
		return sync
	case int(b[1]) != channel:
		return other
	case sumOf(b[:36]) != int(binary.BigEndian.Uint16(b[36:])):
		return sum
	}
	return fine
}

// take is the values of a slot, if it is the next frame.
func (x *track) take(channel int, s api.Slot) (values [signals]int, ok bool) {
	r := judge(channel, s)
	if r == fine {
		seq := int(binary.BigEndian.Uint16(s.Bytes[2:]))
		if x.has && seq != (x.last+1)%65536 {
			r = stale
		}
		x.last, x.has = seq, true
	}
	x.counts[r]++
	if r != fine {
		return values, false
	}
	for i := range values {
		values[i] = int(int32(binary.BigEndian.Uint32(s.Bytes[4+4*i:])))
	}
	return values, true
}

// state is how a channel's signal is latched.
func (m *model) state(channel, i int) latch.State {
	state, _ := m.signals[i].State(channel)
	return state
}

// latched is the mask of a channel's signals that are latched, or out.
func (m *model) latched(channel int) int {
	mask := 0
	for i := range signals {
		if m.state(channel, i).Latched {
			mask += 1 << i
		}
	}
	return mask
}

// shut is the mask of the channels with at least Limit signals latched, or out.
func (m *model) shut() int {
	mask := 0
	for channel := range m.c.N {
		n := 0
		for i := range signals {
			if m.state(channel, i).Latched {
				n++
			}
		}
		if n >= m.c.Limit {
			mask += 1 << channel
		}
	}
	return mask
}

// step is a cycle.
func (m *model) step(t testing.TB, c api.Cycle) api.Output {
	t.Helper()
	var raws [signals][channels]signal.Raw
	for channel := range m.c.N {
		values, ok := m.tracks[channel].take(channel, c[channel])
		for i, n := range values {
			if ok {
				raws[i][channel] = signal.Raw{Is: true, N: n}
			}
		}
	}
	shut := m.shut()
	o := api.Output{Seq: m.cycles % turn}
	var results [signals]signal.Result
	for i, s := range m.signals {
		r, e := s.Step(raws[i], shut)
		if e != 0 {
			t.Fatalf("signal %d: %v, %d: %d", i, raws[i], shut, e)
		}
		results[i], o.Values[i], o.Status[i] = r, r.Value, r.Status
	}
	for channel := range m.c.N {
		for i, r := range results {
			if what := r.Events[channel]; what > 0 {
				m.notes = append(m.notes, api.Note{Cycle: m.cycles, Channel: channel, Signal: i, Kind: what - 1, Trips: r.Trips[channel]})
			}
		}
	}
	m.cycles++
	return o
}

// mayBe tells whether an output may be.
func mayBe(o api.Output) bool {
	for i, s := range o.Status {
		if o.Values[i] < least || o.Values[i] > most || s.In < 0 || s.In > 15 || s.Latched < 0 || s.Latched > 15 || s.Fail != (s.In == 0) {
			return false
		}
		if s.Suspect != -1 && (s.Suspect < 0 || s.Suspect > 3 || s.In>>s.Suspect&1 == 0) {
			return false
		}
	}
	return o.Seq >= 0 && o.Seq < turn
}

// bytesOf are an output's.
func bytesOf(o api.Output) []byte {
	failed := 0
	for _, s := range o.Status {
		if s.Fail {
			failed++
		}
	}
	b := []byte{90, byte(failed)}
	b = binary.BigEndian.AppendUint16(b, uint16(o.Seq))
	for _, n := range o.Values {
		b = binary.BigEndian.AppendUint32(b, uint32(n))
	}
	for _, s := range o.Status {
		n := s.In + 16*s.Latched
		if s.Suspect < 0 {
			n += 256 * 7
		} else {
			n += 256 * s.Suspect
		}
		if s.Fail {
			n += 2048
		}
		b = binary.BigEndian.AppendUint16(b, uint16(n))
	}
	return sealed(b)
}

// numbers are of channels, or signals, that there are, and that there are not: far off with the lower bits of one that there is, too.
func numbers() []int {
	return []int{math.MinInt, -1<<63 + 2, -1 << 32, -1<<32 + 1, -16, -15, -9, -8, -4, -3, -2, -1, 0, 1, 2, 3, 4, 5, 6, 7, 8, 9, 15, 16, 17, 32, 64, 65, 256, 65536, 1 << 32, 1<<32 + 1, 1<<62 + 2, math.MaxInt - 1, math.MaxInt}
}

// stands holds all that a fusion tells behind a cycle against the words.
func stands(t testing.TB, f *Fusion, m *model) {
	t.Helper()
	lost := max(0, len(m.notes)-ringSize)
	if f.Cycles() != m.cycles || f.Shut() != m.shut() || f.Lost() != lost || !slices.Equal(f.Notes(), m.notes[lost:]) {
		t.Fatalf("behind %d cycles: %d, shut %d, not %d, lost %d, not %d, notes\n%v, not\n%v", m.cycles, f.Cycles(), f.Shut(), m.shut(), f.Lost(), lost, f.Notes(), m.notes[lost:])
	}
	for channel := -1; channel <= channels; channel++ {
		of(t, f, m, channel)
	}
}

// of holds what is told of a channel, or of one that there is not, against the words.
func of(t testing.TB, f *Fusion, m *model, channel int) {
	t.Helper()
	var want track
	mask := 0
	is := channel >= 0 && channel < m.c.N
	if is {
		want, mask = m.tracks[channel], m.latched(channel)
	}
	if f.Rejects(channel) != want.counts || f.Latched(channel) != mask {
		t.Fatalf("behind %d cycles, channel %d: %v, not %v, latched %d, not %d", m.cycles, channel, f.Rejects(channel), want.counts, f.Latched(channel), mask)
	}
	for i := -1; i <= signals; i++ {
		var state latch.State
		both := is && i >= 0 && i < signals
		if both {
			state = m.state(channel, i)
		}
		if got, ok := f.State(channel, i); got != state || ok != both {
			t.Fatalf("behind %d cycles, channel %d, signal %d: %v, %t, not %v", m.cycles, channel, i, got, ok, state)
		}
	}
}

// steps holds a cycle, and all that is told behind it, against the words.
func steps(t testing.TB, f *Fusion, m *model, c api.Cycle) api.Output {
	t.Helper()
	want := m.step(t, c)
	o, b, e := f.Step(c)
	if o != want || e != 0 || !bytes.Equal(b, bytesOf(want)) {
		t.Fatalf("of %+v\ncycle %d: Step(%v) =\n%+v, %v, %d, not\n%+v, %v", m.c, m.cycles-1, c, o, b, e, want, bytesOf(want))
	}
	told(t, m.c, o, b)
	stands(t, f, m)
	return o
}

// both is a fusion, and what the words say of it.
func both(t testing.TB, c api.Config) (*Fusion, *model) {
	t.Helper()
	f, e := New(c)
	if e != 0 || f == nil {
		t.Fatalf("New(%+v): %d", c, e)
	}
	m := newModel(t, c)
	stands(t, f, m)
	return f, m
}
