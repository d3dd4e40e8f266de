package fusion

import (
	"encoding/binary"
	"slices"
	"testing"

	"rudder/api"
)

// drawnConfig is one of small numbers, each of which has its part in what comes near to it.
func drawnConfig(draw func(int) int) api.Config {
	c := api.Config{
		N:  3 + draw(2),
		Lo: -20 - draw(20), Hi: 20 + draw(20), Safe: draw(41) - 20,
		Step: 5 + draw(40), Stuck: draw(20), Window: 2 + draw(3), Drift: 5 + draw(25), Lag: draw(4), Mis: 5 + draw(25),
		Auth: draw(12), Gain: draw(4), Clip: draw(15),
		Latch: 1 + draw(4), Clean: 1 + draw(4), Budget: draw(4), Limit: 1 + draw(8),
	}
	for i := range c.N {
		c.Weights[i] = 1 + draw(16)
	}
	return c
}

// sender is a channel that sends frames of values near to a number most often, and anything else at times.
type sender struct {
	channel, seq int
	before       []byte // of its last frame
}

// frame is the channel's next one.
func (x *sender) frame(draw func(int) int, near int) []byte {
	values := all(near)
	for i := range values {
		values[i] += draw(7) - 3
		if draw(12) == 0 {
			values[i] += draw(100) - 50
		}
	}
	x.before = frameOf(x.channel, x.seq, values)
	x.seq = (x.seq + 1) % turn
	return x.before
}

// send is its next slot.
func (x *sender) send(draw func(int) int, near int) api.Slot {
	switch draw(30) {
	case 0:
		return api.Slot{Bytes: x.before}
	case 1:
		return api.Slot{Is: true, Bytes: x.before} // none yet, or the same one again
	case 2:
		x.seq = (x.seq + draw(3)) % turn
		return api.Slot{Is: true, Bytes: x.frame(draw, near)}
	case 3:
		b := slices.Clone(x.frame(draw, near))
		b[draw(len(b))] ^= byte(1 + draw(255))
		return api.Slot{Is: true, Bytes: b}
	case 4:
		b := x.frame(draw, near)
		return api.Slot{Is: true, Bytes: append(slices.Clone(b), b...)[:draw(2*len(b))]}
	case 5:
		return slotOf(draw(6), x.seq, all(near))
	}
	return api.Slot{Is: true, Bytes: x.frame(draw, near)}
}

// seen counts what cycles told.
type seen map[string]int

func (n seen) add(f *Fusion, o api.Output) {
	if f.Shut() > 0 {
		n["shut"]++
	}
	for _, x := range f.Notes() {
		n[[]string{"latched", "back", "out"}[x.Kind]]++
	}
	if f.Lost() > 0 {
		n["lost"]++
	}
	for _, s := range o.Status {
		if s.Fail {
			n["fail"]++
		}
		if s.Suspect >= 0 {
			n["suspect"]++
		}
	}
}

// often holds that cycles told each of these so often.
func (n seen) often(t *testing.T, least int, names ...string) {
	t.Helper()
	for _, name := range names {
		if n[name] < least {
			t.Errorf("%s: just %d times", name, n[name])
		}
	}
}

// P20.1, P20.2: drawn cycles of drawn configurations, held against the words.
func TestDrawn(t *testing.T) {
	count := seen{}
	for seed := range 150 {
		draw := drawer(seed)
		c := drawnConfig(draw)
		f, m := both(t, c)
		var senders [4]sender
		for i := range senders {
			senders[i] = sender{channel: i, seq: draw(turn)}
		}
		near := 0
		for range 100 {
			near = min(max(near+draw(9)-4, c.Lo-3), c.Hi+3)
			var sent api.Cycle
			for i := range sent {
				sent[i] = senders[i].send(draw, near)
			}
			count.add(f, steps(t, f, m, sent))
		}
	}
	count.often(t, 500, "shut", "latched", "back", "out", "lost", "fail", "suspect")
}

// drawnBytes are any bytes: of any number, or of a frame's with its sum right, or with all but that.
func drawnBytes(draw func(int) int, channel, seq int) []byte {
	b := make([]byte, 38)
	for i := range b {
		b[i] = byte(draw(256))
	}
	switch draw(8) {
	case 0:
		return b[:draw(38)]
	case 1:
		return append(b, b...)[:38+draw(38)]
	case 2:
		return b
	case 3:
		b[0] = 165
		return b
	}
	b[0], b[1] = 165, byte(channel)
	if draw(8) == 0 {
		return b
	}
	binary.BigEndian.PutUint16(b[2:], uint16(seq))
	// Values of any size, not just great ones.
	for at := 4; at < 36; at += 4 {
		n := int32(binary.BigEndian.Uint32(b[at:]))
		binary.BigEndian.PutUint32(b[at:], uint32(n>>draw(32)))
	}
	return sealed(b[:36])
}

// wide is a drawn configuration with numbers of any size.
func wide(draw func(int) int) api.Config {
	c := drawnConfig(draw)
	size := func() int { return draw(most) >> draw(32) }
	c.Lo, c.Hi = -size()-1, size()
	c.Safe = []int{c.Lo, c.Hi, 0}[draw(3)]
	c.Step, c.Stuck, c.Drift, c.Mis, c.Auth, c.Clip = size(), size(), size(), size(), size(), size()
	switch draw(4) {
	case 0:
		c.Lo, c.Hi, c.Safe = least, most, least
	case 1:
		c.Lo, c.Hi, c.Safe = least, most, most
		c.Step, c.Stuck, c.Drift, c.Mis, c.Auth, c.Clip = most, most, most, most, most, most
	}
	return c
}

// P1, P20.2: drawn cycles of drawn bytes: what is told may be, and comes back from its bytes; it is what the words say.
func TestDrawnBytes(t *testing.T) {
	count := seen{}
	for seed := range 150 {
		draw := drawer(20000 + seed)
		f, m := both(t, wide(draw))
		seqs := [4]int{draw(turn), draw(turn), draw(turn), draw(turn)}
		for range 80 {
			var sent api.Cycle
			for i := range sent {
				sent[i] = api.Slot{Is: draw(12) > 0, Bytes: drawnBytes(draw, i, seqs[i])}
				if judge(i, sent[i]) == fine {
					seqs[i] = (seqs[i] + 1) % turn
				}
			}
			count.add(f, steps(t, f, m, sent))
		}
	}
	count.often(t, 500, "shut", "latched", "back", "out", "lost", "fail")
}

// P20.2: values at the ends of a range that is as wide as it may be, and outside of a narrow one.
func TestEnds(t *testing.T) {
	for n := 3; n <= 4; n++ {
		for seed := range 20 {
			draw := drawer(30000 + seed)
			c := open(n)
			c.Auth, c.Gain, c.Step, c.Mis = most, draw(9), most, most
			if seed%2 == 0 {
				c.Lo, c.Hi, c.Safe = least, most, []int{least, most}[draw(2)]
			}
			f, m := both(t, c)
			for i := range 40 {
				var values [4][signals]int
				for channel := range values {
					for at := range values[channel] {
						values[channel][at] = []int{least, most, -100, 100, -101, 101, 0}[draw(7)]
					}
				}
				steps(t, f, m, cycleOf(i, values[:]...))
			}
		}
	}
}

// P20.2: if no channel sends a frame, every value stays, and is told to have failed; from the first cycle on it is Safe.
func TestNothingSent(t *testing.T) {
	for n := 3; n <= 4; n++ {
		f, m := both(t, open(n))
		for i := range 10 {
			o := steps(t, f, m, api.Cycle{})
			if o.Values != all(5) || inOf(o) != all(0) || !o.Status[0].Fail || !o.Status[7].Fail {
				t.Errorf("cycle %d: %+v", i, o)
			}
		}
		if want := 1<<n - 1; f.Shut() != want || f.Lost() != 8*n-min(32, 8*n) {
			t.Errorf("of %d: shut %d, lost %d", n, f.Shut(), f.Lost())
		}
	}
}
