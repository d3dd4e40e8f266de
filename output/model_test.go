package output

import (
	"bytes"
	"encoding/binary"
	"math"
	"slices"
	"testing"

	"rudder/api"
)

// The document's numbers, written out so that a wrong constant of the package does not hide itself.
const (
	least   = -2147483648
	most    = 2147483647
	size    = 54
	signals = 8
	many    = 768 // statuses that may be
)

// sumOf is chapter 3's sum, a bit at a time.
func sumOf(b []byte) uint16 {
	sum := uint16(65535)
	for _, c := range b {
		for bit := 7; bit >= 0; bit-- {
			crossed := sum>>15 != uint16(c>>bit&1)
			sum <<= 1
			if crossed {
				sum ^= 4129
			}
		}
	}
	return sum
}

// sealed is bytes with their sum, by the library.
func sealed(b []byte) []byte {
	return binary.BigEndian.AppendUint16(slices.Clone(b), sumOf(b))
}

// statusMayBe tells whether a status may be, by chapter 16's words.
func statusMayBe(s api.Status) bool {
	if s.In < 0 || s.In > 15 || s.Latched < 0 || s.Latched > 15 || s.Fail != (s.In == 0) {
		return false
	}
	switch s.Suspect {
	case -1:
		return true
	case 0, 1, 2, 3:
		return s.In/[]int{1, 2, 4, 8}[s.Suspect]%2 == 1
	}
	return false
}

// wordOf is a status's word, by chapter 16's words.
func wordOf(s api.Status) int {
	n := s.In + 16*s.Latched
	if s.Suspect == -1 {
		n += 256 * 7
	} else {
		n += 256 * s.Suspect
	}
	if s.Fail {
		n += 2048
	}
	return n
}

// mayBe tells whether an output may be, by the document's words.
func mayBe(o api.Output) bool {
	for _, n := range o.Values {
		if n < least || n > most {
			return false
		}
	}
	for _, s := range o.Status {
		if !statusMayBe(s) {
			return false
		}
	}
	return 0 <= o.Seq && o.Seq <= 65535
}

// failedOf is how many signals failed, one that may not be too.
func failedOf(o api.Output) int {
	n := 0
	for _, s := range o.Status {
		if s.Fail {
			n++
		}
	}
	return n
}

// toldOf is an output's bytes without their sum, by the document's words.
func toldOf(o api.Output) []byte {
	b := binary.BigEndian.AppendUint16([]byte{90, byte(failedOf(o))}, uint16(o.Seq))
	for _, n := range o.Values {
		b = binary.BigEndian.AppendUint32(b, uint32(int32(n)))
	}
	for _, s := range o.Status {
		b = binary.BigEndian.AppendUint16(b, uint16(wordOf(s)))
	}
	return b
}

func bytesOf(o api.Output) []byte { return sealed(toldOf(o)) }

// statusesOf are each In and each Latched from 0 to 15, with each Suspect from -1 to 3, and each Fail: those that may be, or the others.
func statusesOf(may bool) []api.Status {
	var out []api.Status
	for in := range 16 {
		for latched := range 16 {
			for suspect := -1; suspect <= 3; suspect++ {
				for _, fail := range []bool{false, true} {
					if s := (api.Status{In: in, Latched: latched, Suspect: suspect, Fail: fail}); statusMayBe(s) == may {
						out = append(out, s)
					}
				}
			}
		}
	}
	return out
}

// wordsOf are all statuses' words, each with its status.
func wordsOf(t testing.TB) map[int]api.Status {
	t.Helper()
	out := map[int]api.Status{}
	for _, s := range statusesOf(true) {
		out[wordOf(s)] = s
	}
	if len(out) != many {
		t.Fatalf("%d words, not %d", len(out), many)
	}
	return out
}

// outputOf is the output whose bytes these are, by the document's words; false, if they are none's.
func outputOf(known map[int]api.Status, b []byte) (api.Output, bool) {
	if len(b) != size || b[0] != 90 || !bytes.Equal(sealed(b[:52]), b) {
		return api.Output{}, false
	}
	o := api.Output{Seq: int(binary.BigEndian.Uint16(b[2:]))}
	for i := range signals {
		o.Values[i] = int(int32(binary.BigEndian.Uint32(b[4+4*i:])))
		s, ok := known[int(binary.BigEndian.Uint16(b[36+2*i:]))]
		if !ok {
			return api.Output{}, false
		}
		o.Status[i] = s
	}
	if int(b[1]) != failedOf(o) {
		return api.Output{}, false
	}
	return o, true
}

// some is an output that may be, whose numbers and statuses are all different.
func some() api.Output {
	return api.Output{Seq: 4660, Values: [8]int{1, -2, 300, -40000, 5000000, -600000000, most, least}, Status: [8]api.Status{
		{In: 15, Suspect: -1}, {In: 13, Latched: 2, Suspect: 3}, {In: 6, Latched: 9, Suspect: 2}, {Latched: 15, Suspect: -1, Fail: true},
		{In: 8, Latched: 7, Suspect: -1}, {In: 7, Suspect: 0}, {In: 3, Latched: 4, Suspect: 1}, {In: 1, Suspect: -1},
	}}
}

// calm is an output of zeros, with all channels in.
func calm() api.Output {
	var o api.Output
	for i := range o.Status {
		o.Status[i] = api.Status{In: 15, Suspect: -1}
	}
	return o
}

// bothBases are outputs that may be, in which one part is changed.
func bothBases() []api.Output { return []api.Output{some(), calm()} }

func withSeq(o api.Output, seq int) api.Output {
	o.Seq = seq
	return o
}

func withValue(o api.Output, at, n int) api.Output {
	o.Values[at] = n
	return o
}

func withStatus(o api.Output, at int, s api.Status) api.Output {
	o.Status[at] = s
	return o
}

// withFailed is an output whose signals failed where the mask has a bit, and nowhere else.
func withFailed(o api.Output, mask int) api.Output {
	for i := range signals {
		if mask>>i%2 == 1 {
			o.Status[i] = api.Status{Latched: i, Suspect: -1, Fail: true}
		} else if o.Status[i].Fail {
			o.Status[i] = api.Status{In: 7, Suspect: 1}
		}
	}
	return o
}

// drawer gives numbers from 0 on that hang on seed alone.
func drawer(seed int) func(below int) int {
	state := uint64(seed)*2862933555777941757 + 3037000493
	return func(below int) int {
		state = state*6364136223846793005 + 1442695040888963407
		return int(state>>29) % below
	}
}

// drawn is an output that may be and hangs on seed alone.
func drawn(seed int) api.Output {
	draw, l := drawer(seed), statusesOf(true)
	o := api.Output{Seq: draw(65536)}
	for i := range signals {
		o.Values[i] = draw(1<<32) + least
		o.Status[i] = l[draw(len(l))]
		if draw(4) == 0 {
			o.Status[i] = api.Status{Latched: draw(16), Suspect: -1, Fail: true}
		}
	}
	return o
}

// outputs are some that may be: the edges of the numbers in each place, signals that failed, and drawn ones.
func outputs() []api.Output {
	out := bothBases()
	for _, o := range bothBases() {
		for _, seq := range []int{0, 1, 90, 255, 256, 258, 32767, 32768, 65534, 65535} {
			out = append(out, withSeq(o, seq))
		}
		for _, n := range []int{least, least + 1, -65537, -65536, -256, -2, -1, 0, 1, 128, 255, 256, 65535, 65536, 1 << 24, most - 1, most} {
			for at := range signals {
				out = append(out, withValue(o, at, n))
			}
		}
		for _, mask := range []int{0, 1, 2, 4, 8, 16, 32, 64, 128, 3, 90, 129, 254, 255} {
			out = append(out, withFailed(o, mask))
		}
	}
	for seed := range 50 {
		out = append(out, drawn(seed))
	}
	return out
}

// far are numbers that, added to any, leave its lower bits as they are, or go to the ends of an int.
func far() []int {
	out := []int{math.MinInt, math.MaxInt - 15}
	for place := 32; place < 63; place++ {
		out = append(out, 1<<place, -1<<place)
	}
	return out
}

// noOutputs are some that may not be, each by one part.
func noOutputs() []api.Output {
	var out []api.Output
	for _, o := range bothBases() {
		for _, n := range []int{-1, -2, 65536, 65537, -65535, -65536, 1 << 17, least, most, math.MinInt, math.MaxInt} {
			out = append(out, withSeq(o, n))
		}
		for at := range signals {
			for _, n := range []int{least - 1, least - 2, most + 1, most + 2, 1<<32 - 1, math.MinInt, math.MaxInt} {
				out = append(out, withValue(o, at, n))
			}
			for _, s := range []api.Status{{}, {In: 7, Suspect: -1, Fail: true}, {Suspect: -1}, {In: 16, Suspect: -1}, {In: -1, Suspect: -1}, {In: 7, Latched: 16, Suspect: -1}, {In: 7, Latched: -1, Suspect: -1}, {In: 7, Suspect: 3}, {In: 7, Suspect: -2}, {In: 15, Suspect: 4}, {Suspect: 0, Fail: true}} {
				out = append(out, withStatus(o, at, s))
			}
		}
		for _, n := range far() {
			out = append(out, withSeq(o, o.Seq+n))
			for at := range signals {
				s := o.Status[at]
				in, latched, suspect := s, s, s
				in.In += n
				latched.Latched += n
				suspect.Suspect += n
				out = append(out, withValue(o, at, o.Values[at]/2+n), withStatus(o, at, in), withStatus(o, at, latched), withStatus(o, at, suspect))
			}
		}
	}
	return out
}

// holds holds what is told of an output against the document's words, one that may not be too.
func holds(t testing.TB, o api.Output) {
	t.Helper()
	if !mayBe(o) {
		refused(t, o)
		return
	}
	want := bytesOf(o)
	if !Right(o) || Failed(o) != failedOf(o) {
		t.Fatalf("%v: %t, %d failed, not %d", o, Right(o), Failed(o), failedOf(o))
	}
	if b, e := Encode(o); !bytes.Equal(b, want) || e != api.OK || len(b) != size {
		t.Fatalf("Encode(%v) = %v, %d, not %v", o, b, e, want)
	}
	if back, e := Decode(want); back != o || e != api.OK {
		t.Fatalf("Decode(%v) = %v, %d, not %v", want, back, e, o)
	}
}

// refused holds that an output may not be: it has no bytes, but a count of those of its signals of which it is told that they failed.
func refused(t testing.TB, l ...api.Output) {
	t.Helper()
	for _, o := range l {
		b, e := Encode(o)
		if Right(o) || len(b) != 0 || e != api.ErrArg || Failed(o) != failedOf(o) {
			t.Fatalf("%v, which may not be: %t; %v, %d; %d failed, not %d", o, Right(o), b, e, Failed(o), failedOf(o))
		}
	}
}

// none holds that bytes are no output's.
func none(t testing.TB, l ...[]byte) {
	t.Helper()
	for _, b := range l {
		if o, e := Decode(b); o != (api.Output{}) || e != api.ErrForm {
			t.Fatalf("Decode(%v) = %v, %d", b, o, e)
		}
	}
}

// decodes holds what is decoded against the document's words.
func decodes(t testing.TB, known map[int]api.Status, b []byte) {
	t.Helper()
	want, ok := outputOf(known, b)
	if !ok {
		none(t, b)
		return
	}
	if o, e := Decode(b); o != want || e != api.OK {
		t.Fatalf("Decode(%v) = %v, %d, not %v", b, o, e, want)
	}
	if back, e := Encode(want); !bytes.Equal(back, b) || e != api.OK {
		t.Fatalf("Encode(%v) = %v, %d, not %v", want, back, e, b)
	}
}
