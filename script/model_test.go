package script

import (
	"bytes"
	"encoding/binary"
	"slices"
	"testing"

	"rudder/api"
	"rudder/fusion"
)

// The document's numbers, written out so that a wrong constant of the package does not hide itself.
const (
	channels = 4
	signals  = 8
	turn     = 65536
	size     = 54
	ringSize = 32
	most     = 2147483647
	least    = -2147483648
	many     = 10000
)

// sumOf is the sum of bytes, bit by bit.
func sumOf(b []byte) int {
	n := 65535
	for _, x := range b {
		n ^= int(x) << 8
		for range 8 {
			n *= 2
			if n >= 65536 {
				n = n - 65536 ^ 4129
			}
		}
	}
	return n
}

// sealed are bytes with their sum behind them.
func sealed(b []byte) []byte {
	return binary.BigEndian.AppendUint16(slices.Clone(b), uint16(sumOf(b)))
}

// frameOf is the bytes of a channel's frame.
func frameOf(channel, seq int, values [signals]int) []byte {
	b := []byte{165, byte(channel)}
	b = binary.BigEndian.AppendUint16(b, uint16(seq))
	for _, n := range values {
		b = binary.BigEndian.AppendUint32(b, uint32(n))
	}
	return sealed(b)
}

// wordOf is a status's word, by chapter 16's words.
func wordOf(s api.Status) int {
	n := s.In + 16*s.Latched
	if s.Suspect < 0 {
		n += 256 * 7
	} else {
		n += 256 * s.Suspect
	}
	if s.Fail {
		n += 2048
	}
	return n
}

// statusOf is the status of a word; false, if it is none's.
func statusOf(n int) (api.Status, bool) {
	s := api.Status{In: n % 16, Latched: n / 16 % 16, Suspect: n / 256 % 8, Fail: n/2048%2 == 1}
	if s.Suspect == 7 {
		s.Suspect = -1
	}
	if n >= 4096 || s.Fail != (s.In == 0) || s.Suspect > 3 || s.Suspect >= 0 && s.In>>s.Suspect&1 == 0 {
		return api.Status{}, false
	}
	return s, true
}

func failedOf(o api.Output) int {
	n := 0
	for _, s := range o.Status {
		if s.Fail {
			n++
		}
	}
	return n
}

// bytesOf are an output's, by chapter 19's words.
func bytesOf(o api.Output) []byte {
	b := binary.BigEndian.AppendUint16([]byte{90, byte(failedOf(o))}, uint16(o.Seq))
	for _, n := range o.Values {
		b = binary.BigEndian.AppendUint32(b, uint32(n))
	}
	for _, s := range o.Status {
		b = binary.BigEndian.AppendUint16(b, uint16(wordOf(s)))
	}
	return sealed(b)
}

// outputOf is the output whose bytes these are, by the same words; false, if they are none's.
func outputOf(b []byte) (api.Output, bool) {
	if len(b) != size || b[0] != 90 || sumOf(b[:52]) != int(binary.BigEndian.Uint16(b[52:])) {
		return api.Output{}, false
	}
	o := api.Output{Seq: int(binary.BigEndian.Uint16(b[2:]))}
	for i := range signals {
		o.Values[i] = int(int32(binary.BigEndian.Uint32(b[4+4*i:])))
		s, ok := statusOf(int(binary.BigEndian.Uint16(b[36+2*i:])))
		if !ok {
			return api.Output{}, false
		}
		o.Status[i] = s
	}
	return o, int(b[1]) == failedOf(o)
}

// runOf is what a run is, by the document's words, with a fusion, but without any other layer below.
func runOf(t testing.TB, c api.Config, l []api.Cycle) Result {
	t.Helper()
	f, e := fusion.New(c)
	if e != 0 {
		t.Fatalf("%+v: %d", c, e)
	}
	var r Result
	for i, x := range l {
		o, b, e := f.Step(x)
		if e != 0 || o.Seq != i || !bytes.Equal(b, bytesOf(o)) {
			t.Fatalf("cycle %d: %+v, %v, %d", i, o, b, e)
		}
		r.Outputs = append(r.Outputs, o)
		r.Bytes = append(r.Bytes, bytesOf(o)...)
	}
	r.Notes, r.Lost = f.Notes(), f.Lost()
	return r
}

// splitOf is what bytes split into, by the document's words; false, if they do not.
func splitOf(b []byte) ([]api.Output, bool) {
	if len(b)%size != 0 {
		return nil, false
	}
	var l []api.Output
	for at := range len(b) / size {
		o, ok := outputOf(b[size*at : size*at+size])
		if !ok {
			return nil, false
		}
		l = append(l, o)
	}
	return l, true
}

// sameOf tells whether two have the same in all, one by one.
func sameOf(a, b Result) bool {
	if len(a.Bytes) != len(b.Bytes) || len(a.Outputs) != len(b.Outputs) || len(a.Notes) != len(b.Notes) {
		return false
	}
	for i := range a.Bytes {
		if a.Bytes[i] != b.Bytes[i] {
			return false
		}
	}
	for i := range a.Outputs {
		if a.Outputs[i] != b.Outputs[i] {
			return false
		}
	}
	for i := range a.Notes {
		if a.Notes[i] != b.Notes[i] {
			return false
		}
	}
	return a.Lost == b.Lost
}

// empty tells whether a result is its zero value.
func empty(r Result) bool {
	return len(r.Bytes) == 0 && len(r.Outputs) == 0 && len(r.Notes) == 0 && r.Lost == 0
}

// runs holds a run against the words, and what its bytes split into (P21.1, P21.3).
func runs(t testing.TB, c api.Config, l []api.Cycle) Result {
	t.Helper()
	want := runOf(t, c, l)
	r, e := Run(c, l)
	if e != 0 || !sameOf(r, want) {
		t.Fatalf("of %+v, %d cycles: error %d, %d outputs, %d bytes, notes\n%v, not\n%v, lost %d, not %d", c, len(l), e, len(r.Outputs), len(r.Bytes), r.Notes, want.Notes, r.Lost, want.Lost)
	}
	if len(r.Outputs) != len(l) || len(r.Bytes) != size*len(l) {
		t.Fatalf("of %d cycles: %d outputs, %d bytes", len(l), len(r.Outputs), len(r.Bytes))
	}
	if o, e := Split(r.Bytes); e != 0 || !slices.Equal(o, r.Outputs) {
		t.Fatalf("of %d cycles, the bytes split into %v, %d, not %v", len(l), o, e, r.Outputs)
	}
	if !Same(r, want) || !Same(want, r) {
		t.Fatalf("of %d cycles: it is not the same", len(l))
	}
	return r
}

// splits holds what bytes split into against the words.
func splits(t testing.TB, b []byte) {
	t.Helper()
	want, ok := splitOf(b)
	o, e := Split(b)
	if ok != (e == 0) || !ok && e != 3 || !slices.Equal(o, want) {
		t.Fatalf("of %d bytes: %v, %d, not %v, %t", len(b), o, e, want, ok)
	}
}

// none holds that bytes split into nothing.
func none(t testing.TB, l ...[]byte) {
	t.Helper()
	for _, b := range l {
		if o, e := Split(b); len(o) != 0 || e != 3 {
			t.Fatalf("of %d bytes: %v, %d", len(b), o, e)
		}
	}
}

// refused holds that there is no such run.
func refused(t testing.TB, c api.Config, l []api.Cycle, want api.Errno) {
	t.Helper()
	if r, e := Run(c, l); e != want || !empty(r) {
		t.Fatalf("of %+v, %d cycles: %d, not %d; %v", c, len(l), e, want, r)
	}
}
