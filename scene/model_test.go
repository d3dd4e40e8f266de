package scene

import (
	"bytes"
	"encoding/binary"
	"slices"
	"testing"

	"rudder/api"
)

// The document's numbers, written out so that a wrong constant of the package does not hide itself.
const (
	channels = 4
	signals  = 8
	turn     = 65536
	size     = 38
	most     = 2147483647
	least    = -2147483648
	many     = 10000
	farthest = 1073741824
)

// sumOf is the sum of bytes, bit by bit.
func sumOf(b []byte) int {
	n := 65535
	for _, x := range b {
		n ^= int(x) << 8
		for range 8 {
			n *= 2
			if n >= 65536 {
				n = n - 65536 ^ 4129
			}
		}
	}
	return n
}

// frameOf is the bytes of a channel's frame.
func frameOf(channel, seq int, values [signals]int) []byte {
	b := []byte{165, byte(channel)}
	b = binary.BigEndian.AppendUint16(b, uint16(seq))
	for _, n := range values {
		b = binary.BigEndian.AppendUint32(b, uint32(n))
	}
	return binary.BigEndian.AppendUint16(b, uint16(sumOf(b)))
}

// readOf is the frame of a channel's slot, by chapter 5's words; false, if it is none's.
func readOf(channel int, s api.Slot) (seq int, values [signals]int, ok bool) {
	b := s.Bytes
	if !s.Is || len(b) != size || b[0] != 165 || int(b[1]) != channel || sumOf(b[:36]) != int(binary.BigEndian.Uint16(b[36:])) {
		return 0, values, false
	}
	for i := range values {
		values[i] = int(int32(binary.BigEndian.Uint32(b[4+4*i:])))
	}
	return int(binary.BigEndian.Uint16(b[2:])), values, true
}

// mayBe tells whether a configuration may be, by chapter 7's words.
func mayBe(c api.Config) bool {
	if c.N != 3 && c.N != 4 {
		return false
	}
	for _, x := range [][3]int{
		{c.Lo, least, most}, {c.Hi, least, most}, {c.Safe, least, most}, {c.Safe, c.Lo, c.Hi}, {c.Step, 0, most}, {c.Stuck, 0, most}, {c.Window, 2, 16}, {c.Drift, 0, most}, {c.Lag, 0, 8},
		{c.Mis, 0, most}, {c.Auth, 0, most}, {c.Gain, 0, 8}, {c.Clip, 0, most}, {c.Latch, 1, 100}, {c.Clean, 1, 1000}, {c.Budget, 0, 10}, {c.Limit, 1, 8},
	} {
		if x[0] < x[1] || x[0] > x[2] {
			return false
		}
	}
	for i, n := range c.Weights {
		if i < c.N && (n < 1 || n > 16) || i >= c.N && n != 0 {
			return false
		}
	}
	return true
}

// coversOf tells whether it covers an error, and a rate, by the same words.
func coversOf(c api.Config, e, r int) bool {
	return mayBe(c) && e >= 0 && e <= farthest && r >= 0 && r <= farthest &&
		c.Mis >= 2*e+2*c.Auth+c.Clip && c.Step >= r+2*e && c.Drift >= 2*e && c.Stuck >= 4*e+2*c.Auth+2*c.Clip && c.Hi-c.Lo >= 2*e
}

// faultOf is a scene's fault, by the document's words.
func faultOf(s Scene) string {
	if !coversOf(s.Config, s.E, s.R) {
		return "cover"
	}
	if s.Odd != -1 && (s.Odd < 0 || s.Odd >= s.Config.N) {
		return "odd"
	}
	for channel, n := range s.Seqs {
		if channel < s.Config.N && (n < 0 || n > 65535) {
			return "number"
		}
	}
	if len(s.Points) > many {
		return "points"
	}
	for i, p := range s.Points {
		for signal, n := range p.Truth {
			if n < s.Config.Lo+s.E || n > s.Config.Hi-s.E {
				return "truth"
			}
			if i > 0 && (n > s.Points[i-1].Truth[signal]+s.R || n < s.Points[i-1].Truth[signal]-s.R) {
				return "truth"
			}
		}
	}
	for _, p := range s.Points {
		for channel, off := range p.Off {
			for _, n := range off {
				if channel < s.Config.N && channel != s.Odd && (n > s.E || n < -s.E) {
					return "off"
				}
			}
		}
	}
	return ""
}

// valuesOf are what a channel tells in a point.
func valuesOf(p Point, channel int) [signals]int {
	l := p.Truth
	for signal, n := range p.Off[channel] {
		l[signal] += n
	}
	return l
}

// cycleOf is what all channels send in the i-th point of a right scene.
func cycleOf(s Scene, i int) api.Cycle {
	var c api.Cycle
	for channel := range s.Config.N {
		if channel == s.Odd {
			c[channel] = s.Points[i].Slot
		} else {
			c[channel] = slotOf(channel, (s.Seqs[channel]+i)%turn, valuesOf(s.Points[i], channel))
		}
	}
	return c
}

// rangeOf is the range of a signal, in the i-th point of a right scene, by all values in order.
func rangeOf(s Scene, i, signal int) (int, int) {
	var l []int
	for channel := range s.Config.N {
		if channel != s.Odd {
			l = append(l, valuesOf(s.Points[i], channel)[signal])
		}
	}
	slices.Sort(l)
	return l[0], l[len(l)-1]
}

// farOf tells whether the odd channel is far off, in the i-th point of a right scene.
func farOf(s Scene, i, signal int) bool {
	if s.Odd == -1 {
		return false
	}
	_, values, ok := readOf(s.Odd, s.Points[i].Slot)
	off := values[signal] - s.Points[i].Truth[signal]
	bound := s.Config.Mis + s.E + s.Config.Auth + s.Config.Auth + s.Config.Clip
	return !ok || off > bound || off < -bound
}

// sameSlot tells whether two slots hold the same.
func sameSlot(a, b api.Slot) bool { return a.Is == b.Is && bytes.Equal(a.Bytes, b.Bytes) }

// sameCycles tells whether two lists hold the same.
func sameCycles(a, b []api.Cycle) bool {
	return slices.EqualFunc(a, b, func(x, y api.Cycle) bool { return slices.EqualFunc(x[:], y[:], sameSlot) })
}

// sends holds a right scene, and what its channels send, against the words.
func sends(t testing.TB, s Scene) []api.Cycle {
	t.Helper()
	if word := Fault(s); word != "" || faultOf(s) != "" {
		t.Fatalf("of %+v: Fault %q, not %q", s, word, faultOf(s))
	}
	l, e := Cycles(s)
	if e != 0 || len(l) != len(s.Points) {
		t.Fatalf("of %+v: %d cycles, %d", s, len(l), e)
	}
	for i, c := range l {
		want := cycleOf(s, i)
		for channel := range c {
			if !sameSlot(c[channel], want[channel]) {
				t.Fatalf("of %+v, point %d, channel %d: %v, not %v", s, i, channel, c[channel], want[channel])
			}
		}
	}
	return l
}

// seen holds a range, and whether the odd channel is far off, against the words.
func seen(t testing.TB, s Scene, i, signal int) {
	t.Helper()
	lo, hi := 0, 0
	far := false
	if faultOf(s) == "" && i >= 0 && i < len(s.Points) && signal >= 0 && signal < signals {
		lo, hi = rangeOf(s, i, signal)
		far = farOf(s, i, signal)
	}
	if gotLo, gotHi := Range(s, i, signal); gotLo != lo || gotHi != hi {
		t.Fatalf("of %+v: Range(%d, %d): %d, %d, not %d, %d", s, i, signal, gotLo, gotHi, lo, hi)
	}
	if got := Far(s, i, signal); got != far {
		t.Fatalf("of %+v: Far(%d, %d): %t, not %t", s, i, signal, got, far)
	}
}

// right holds all of a right scene against the words, and near, too (P22.2).
func right(t testing.TB, s Scene) {
	t.Helper()
	l := sends(t, s)
	follows(t, s, l)
	for i := range s.Points {
		for signal := -1; signal <= signals; signal++ {
			seen(t, s, i, signal)
		}
	}
	for signal := -1; signal <= signals; signal++ {
		seen(t, s, -1, signal)
		seen(t, s, len(s.Points), signal)
	}
}

// wrong holds that a scene has a fault, and nothing is answered of it.
func wrong(t testing.TB, s Scene, word string) {
	t.Helper()
	if got := Fault(s); got != word || faultOf(s) != word {
		t.Fatalf("Fault %q, not %q, %q by the words; of E %d, R %d, odd %d, numbers %v, %d points, %+v", got, word, faultOf(s), s.E, s.R, s.Odd, s.Seqs, len(s.Points), s.Config)
	}
	if l, e := Cycles(s); len(l) != 0 || e != 1 {
		t.Fatalf("of a scene with the fault %q: %d cycles, %d", word, len(l), e)
	}
	for _, i := range []int{0, len(s.Points) - 1, len(s.Points), -1} {
		for _, signal := range []int{0, 7} {
			if lo, hi := Range(s, i, signal); lo != 0 || hi != 0 || Far(s, i, signal) {
				t.Fatalf("of a scene with the fault %q: Range(%d, %d): %d, %d, far %t", word, i, signal, lo, hi, Far(s, i, signal))
			}
		}
	}
}

// follows holds P22.2 of what a right scene's channels send, by their bytes alone.
func follows(t testing.TB, s Scene, l []api.Cycle) {
	t.Helper()
	for channel := range s.Config.N {
		if channel == s.Odd {
			continue
		}
		next := s.Seqs[channel]
		for i, c := range l {
			seq, values, ok := readOf(channel, c[channel])
			if !ok || seq != next {
				t.Fatalf("of %+v, point %d, channel %d: %v, Seq %d, not %d", s, i, channel, c[channel], seq, next)
			}
			if next++; next == turn {
				next = 0
			}
			for signal, n := range values {
				if off := n - s.Points[i].Truth[signal]; off > s.E || off < -s.E || n < s.Config.Lo || n > s.Config.Hi {
					t.Fatalf("of %+v, point %d, channel %d, signal %d: %d", s, i, channel, signal, n)
				}
			}
		}
	}
	narrow(t, s, l)
}

// narrow holds that ranges are at most twice the error wide, and that what is sent is in them.
func narrow(t testing.TB, s Scene, l []api.Cycle) {
	t.Helper()
	// Of very many points just some: each range looks at all of them.
	const some = 20
	for n := range min(len(l), some) {
		i := n * len(l) / min(len(l), some)
		for signal := range signals {
			lo, hi := Range(s, i, signal)
			if hi < lo || hi-lo > 2*s.E {
				t.Fatalf("of %+v: Range(%d, %d): %d, %d", s, i, signal, lo, hi)
			}
			ends := 0
			for channel := range s.Config.N {
				if _, values, _ := readOf(channel, l[i][channel]); channel != s.Odd {
					if values[signal] < lo || values[signal] > hi {
						t.Fatalf("of %+v: Range(%d, %d): %d, %d; channel %d: %d", s, i, signal, lo, hi, channel, values[signal])
					}
					if values[signal] == lo {
						ends |= 1
					}
					if values[signal] == hi {
						ends |= 2
					}
				}
			}
			if ends != 3 {
				t.Fatalf("of %+v: Range(%d, %d): %d, %d, which nobody sent", s, i, signal, lo, hi)
			}
		}
	}
}
