package judge

import (
	"encoding/binary"
	"slices"
	"testing"

	"rudder/api"
	"rudder/scene"
)

// The document's numbers, written out so that a wrong constant of the package does not hide itself.
const (
	channels = 4
	signals  = 8
	turn     = 65536
	size     = 38
	most     = 2147483647
	least    = -2147483648
	many     = 10000
	farthest = 1073741824
)

// sumOf is the sum of bytes, bit by bit.
func sumOf(b []byte) int {
	n := 65535
	for _, x := range b {
		n ^= int(x) << 8
		for range 8 {
			n *= 2
			if n >= 65536 {
				n = n - 65536 ^ 4129
			}
		}
	}
	return n
}

// frameOf is the bytes of a channel's frame.
func frameOf(channel, seq int, values [signals]int) []byte {
	b := []byte{165, byte(channel)}
	b = binary.BigEndian.AppendUint16(b, uint16(seq))
	for _, n := range values {
		b = binary.BigEndian.AppendUint32(b, uint32(n))
	}
	return binary.BigEndian.AppendUint16(b, uint16(sumOf(b)))
}

// readOf is the values of a channel's slot, by chapter 5's words; false, if it holds no frame of it.
func readOf(channel int, s api.Slot) (values [signals]int, ok bool) {
	b := s.Bytes
	if !s.Is || len(b) != size || b[0] != 165 || int(b[1]) != channel || sumOf(b[:36]) != int(binary.BigEndian.Uint16(b[36:])) {
		return values, false
	}
	for i := range values {
		values[i] = int(int32(binary.BigEndian.Uint32(b[4+4*i:])))
	}
	return values, true
}

// mayBe tells whether a configuration may be, by chapter 7's words.
func mayBe(c api.Config) bool {
	if c.N != 3 && c.N != 4 {
		return false
	}
	for _, x := range [][3]int{
		{c.Lo, least, most}, {c.Hi, least, most}, {c.Safe, least, most}, {c.Safe, c.Lo, c.Hi}, {c.Step, 0, most}, {c.Stuck, 0, most}, {c.Window, 2, 16}, {c.Drift, 0, most}, {c.Lag, 0, 8},
		{c.Mis, 0, most}, {c.Auth, 0, most}, {c.Gain, 0, 8}, {c.Clip, 0, most}, {c.Latch, 1, 100}, {c.Clean, 1, 1000}, {c.Budget, 0, 10}, {c.Limit, 1, 8},
	} {
		if x[0] < x[1] || x[0] > x[2] {
			return false
		}
	}
	for i, n := range c.Weights {
		if i < c.N && (n < 1 || n > 16) || i >= c.N && n != 0 {
			return false
		}
	}
	return true
}

// coversOf tells whether it covers an error, and a rate, by the same words.
func coversOf(c api.Config, e, r int) bool {
	return mayBe(c) && e >= 0 && e <= farthest && r >= 0 && r <= farthest &&
		c.Mis >= 2*e+2*c.Auth+c.Clip && c.Step >= r+2*e && c.Drift >= 2*e && c.Stuck >= 4*e+2*c.Auth+2*c.Clip && c.Hi-c.Lo >= 2*e
}

// faultOf is a scene's fault, by chapter 22's words.
func faultOf(s scene.Scene) string {
	if !coversOf(s.Config, s.E, s.R) {
		return "cover"
	}
	if s.Odd != -1 && (s.Odd < 0 || s.Odd >= s.Config.N) {
		return "odd"
	}
	for channel, n := range s.Seqs {
		if channel < s.Config.N && (n < 0 || n > 65535) {
			return "number"
		}
	}
	if len(s.Points) > many {
		return "points"
	}
	for i, p := range s.Points {
		for signal, n := range p.Truth {
			if n < s.Config.Lo+s.E || n > s.Config.Hi-s.E {
				return "truth"
			}
			if i > 0 && (n > s.Points[i-1].Truth[signal]+s.R || n < s.Points[i-1].Truth[signal]-s.R) {
				return "truth"
			}
		}
	}
	for _, p := range s.Points {
		for channel, off := range p.Off {
			for _, n := range off {
				if channel < s.Config.N && channel != s.Odd && (n > s.E || n < -s.E) {
					return "off"
				}
			}
		}
	}
	return ""
}

// rangeOf is the range of a signal, in the i-th point of a right scene, by all values in order.
func rangeOf(s scene.Scene, i, signal int) (int, int) {
	var l []int
	for _, channel := range others(s) {
		l = append(l, s.Points[i].Truth[signal]+s.Points[i].Off[channel][signal])
	}
	slices.Sort(l)
	return l[0], l[len(l)-1]
}

// farOf tells whether the odd channel is far off, in the i-th point of a right scene.
func farOf(s scene.Scene, i, signal int) bool {
	if s.Odd == -1 {
		return false
	}
	values, ok := readOf(s.Odd, s.Points[i].Slot)
	off := values[signal] - s.Points[i].Truth[signal]
	return !ok || off > boundOf(s) || off < -boundOf(s)
}

// rowOf is in how many points in a row, up to the i-th one, the odd channel was far off, of a scene that may be wrong, and a point, and a signal, that may not be there.
func rowOf(s scene.Scene, i, signal int) int {
	if faultOf(s) != "" || i < 0 || i >= len(s.Points) || signal < 0 || signal >= signals {
		return 0
	}
	return rowIn(s, i, signal)
}

// rowIn is the same of a right scene, and a point, and a signal, that there are.
func rowIn(s scene.Scene, i, signal int) int {
	n := 0
	for i-n >= 0 && farOf(s, i-n, signal) {
		n++
	}
	return n
}

// bitOf is a bit of a mask of 16; false, of what is no mask.
func bitOf(mask, i int) bool {
	return mask >= 0 && mask <= 65535 && uint16(mask)&(1<<i) != 0
}

// wordsOf are all words that hold of a point, and a signal, of a right scene, in their order.
func wordsOf(s scene.Scene, l []api.Output, i, signal int) []string {
	o := l[i]
	u, n := o.Status[signal], o.Values[signal]
	holds := map[string]bool{"fail": u.Fail}
	for _, channel := range others(s) {
		if !bitOf(u.In, channel) {
			holds["out"] = true
		}
		if bitOf(u.Latched, channel) {
			holds["latched"] = true
		}
	}
	lo, hi := rangeOf(s, i, signal)
	holds["low"] = n < lo && (n < least*4 || lo-n > s.Config.Auth+s.Config.Clip)
	holds["high"] = n > hi && (n > most*4 || n-hi > s.Config.Auth+s.Config.Clip)
	holds["lost"] = s.Odd >= 0 && rowIn(s, i, signal) >= s.Config.Latch && !bitOf(u.Latched, s.Odd)
	var words []string
	for _, word := range []string{"fail", "out", "latched", "low", "high", "lost"} {
		if holds[word] {
			words = append(words, word)
		}
	}
	return words
}

// allOf are all complaints of outputs of a right scene.
func allOf(s scene.Scene, l []api.Output) []Complaint {
	var all []Complaint
	for i := range l {
		for signal := range signals {
			if words := wordsOf(s, l, i, signal); len(words) > 0 {
				all = append(all, Complaint{i, signal, words[0]})
			}
		}
	}
	return all
}

// judged holds what is told of a right scene's outputs against the words, and answers the complaints.
func judged(t testing.TB, s scene.Scene, l []api.Output) []Complaint {
	t.Helper()
	if word := faultOf(s); word != "" || len(l) != len(s.Points) {
		t.Fatalf("the test's own: %q, %d outputs of %d points", word, len(l), len(s.Points))
	}
	want := allOf(s, l)
	got, e := All(s, l)
	if e != 0 || !slices.Equal(got, want) {
		t.Fatalf("of %+v, %+v: All %v, %d, not %v", s, l, got, e, want)
	}
	if good := Good(s, l); good != (len(want) == 0) {
		t.Fatalf("of %+v, %+v: Good %t, but %v", s, l, good, want)
	}
	inTurn(t, got)
	return got
}

// inTurn holds P23.2: complaints rise by points, and signals.
func inTurn(t testing.TB, l []Complaint) {
	t.Helper()
	for i, x := range l {
		if x.Signal < 0 || x.Signal >= signals || x.Point < 0 {
			t.Fatalf("%v", l)
		}
		if i > 0 && 8*x.Point+x.Signal <= 8*l[i-1].Point+l[i-1].Signal {
			t.Fatalf("%v behind %v", x, l[i-1])
		}
	}
}

// rowed holds each row of a scene against the words, and those of points, and signals, that there are not.
func rowed(t testing.TB, s scene.Scene) {
	t.Helper()
	for i := -1; i <= len(s.Points); i++ {
		for signal := -1; signal <= signals; signal++ {
			if got, want := Row(s, i, signal), rowOf(s, i, signal); got != want {
				t.Fatalf("of %+v: Row(%d, %d) %d, not %d", s, i, signal, got, want)
			}
		}
	}
}

// good holds that there is nothing to complain.
func good(t testing.TB, s scene.Scene, l []api.Output) {
	t.Helper()
	if got := judged(t, s, l); len(got) != 0 {
		t.Fatalf("of %+v, %+v: %v", s, l, got)
	}
}

// bad holds that there is this to complain, and nothing else.
func bad(t testing.TB, s scene.Scene, l []api.Output, want ...Complaint) {
	t.Helper()
	if got := judged(t, s, l); !slices.Equal(got, want) {
		t.Fatalf("of %+v, %+v: %v, not %v", s, l, got, want)
	}
}

// refused holds that nothing is answered of a scene that is not right, or of too few outputs, or too many.
func refused(t testing.TB, s scene.Scene, l []api.Output) {
	t.Helper()
	if faultOf(s) == "" && len(l) == len(s.Points) {
		t.Fatalf("the test's own: %+v", s)
	}
	if got, e := All(s, l); len(got) != 0 || e != 1 || Good(s, l) {
		t.Fatalf("of the fault %q, %d points, %d outputs: %v, %d, Good %t", faultOf(s), len(s.Points), len(l), got, e, Good(s, l))
	}
}
