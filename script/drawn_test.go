package script

import (
	"encoding/binary"
	"slices"
	"testing"

	"rudder/api"
	"rudder/config"
)

// drawnConfig is one of small numbers, each of which has its part in what comes near to it.
func drawnConfig(draw func(int) int) api.Config {
	c := api.Config{
		N:  3 + draw(2),
		Lo: -20 - draw(20), Hi: 20 + draw(20), Safe: draw(41) - 20,
		Step: 5 + draw(40), Stuck: draw(20), Window: 2 + draw(3), Drift: 5 + draw(25), Lag: draw(4), Mis: 5 + draw(25),
		Auth: draw(12), Gain: draw(4), Clip: draw(15),
		Latch: 1 + draw(4), Clean: 1 + draw(4), Budget: draw(4), Limit: 1 + draw(8),
	}
	for i := range c.N {
		c.Weights[i] = 1 + draw(16)
	}
	return c
}

// sender is a channel that sends frames of values near to a number most often, and anything else at times.
type sender struct {
	channel, seq int
	before       []byte // of its last frame
}

// frame is the channel's next one.
func (x *sender) frame(draw func(int) int, near int) []byte {
	values := all(near)
	for i := range values {
		values[i] += draw(7) - 3
		if draw(12) == 0 {
			values[i] += draw(100) - 50
		}
	}
	x.before = frameOf(x.channel, x.seq, values)
	x.seq = (x.seq + 1) % turn
	return x.before
}

// send is its next slot.
func (x *sender) send(draw func(int) int, near int) api.Slot {
	switch draw(30) {
	case 0:
		return api.Slot{Bytes: x.before}
	case 1:
		return api.Slot{Is: true, Bytes: x.before} // none yet, or the same one again
	case 2:
		x.seq = (x.seq + draw(3)) % turn
		return api.Slot{Is: true, Bytes: x.frame(draw, near)}
	case 3:
		b := slices.Clone(x.frame(draw, near))
		b[draw(len(b))] ^= byte(1 + draw(255))
		return api.Slot{Is: true, Bytes: b}
	case 4:
		b := x.frame(draw, near)
		return api.Slot{Is: true, Bytes: append(slices.Clone(b), b...)[:draw(2*len(b))]}
	case 5:
		return slotOf(draw(6), x.seq, all(near))
	}
	return api.Slot{Is: true, Bytes: x.frame(draw, near)}
}

// drawnScript is a drawn configuration, and as many drawn cycles.
func drawnScript(seed, n int) (api.Config, []api.Cycle) {
	draw := drawer(seed)
	c := drawnConfig(draw)
	var senders [channels]sender
	for i := range senders {
		senders[i] = sender{channel: i, seq: draw(turn)}
	}
	near := 0
	var l []api.Cycle
	for range n {
		near = min(max(near+draw(9)-4, c.Lo-3), c.Hi+3)
		var sent api.Cycle
		for i := range sent {
			sent[i] = senders[i].send(draw, near)
		}
		l = append(l, sent)
	}
	return c, l
}

// seen counts what runs told.
type seen map[string]int

func (n seen) add(r Result) {
	for _, x := range r.Notes {
		n[[]string{"latched", "back", "out"}[x.Kind]]++
	}
	if r.Lost > 0 {
		n["lost"]++
	} else if len(r.Notes) > 0 {
		n["not lost"]++
	}
	for _, o := range r.Outputs {
		for _, s := range o.Status {
			if s.Fail {
				n["fail"]++
			}
			if s.Suspect >= 0 {
				n["suspect"]++
			}
		}
	}
}

// often holds that runs told each of these so often.
func (n seen) often(t *testing.T, least int, names ...string) {
	t.Helper()
	for _, name := range names {
		if n[name] < least {
			t.Errorf("%s: just %d times", name, n[name])
		}
	}
}

// P21.1, P21.3: drawn scripts of all lengths, held against the words.
func TestDrawn(t *testing.T) {
	count := seen{}
	for seed := range 300 {
		c, l := drawnScript(2000+seed, seed%100)
		count.add(runs(t, c, l))
	}
	count.often(t, 30, "latched", "back", "out", "lost", "not lost", "fail", "suspect")
}

// drawnBytes are any bytes: of any number, or of a frame's with its sum right, or with all but that.
func drawnBytes(draw func(int) int, channel, seq int) []byte {
	b := make([]byte, 38)
	for i := range b {
		b[i] = byte(draw(256))
	}
	switch draw(8) {
	case 0:
		return b[:draw(38)]
	case 1:
		return append(b, b...)[:38+draw(38)]
	case 2:
		return b
	case 3:
		return nil
	}
	b[0], b[1] = 165, byte(channel)
	if draw(8) == 0 {
		return b
	}
	binary.BigEndian.PutUint16(b[2:], uint16(seq))
	// Values of any size, not just great ones.
	for at := 4; at < 36; at += 4 {
		n := int32(binary.BigEndian.Uint32(b[at:]))
		binary.BigEndian.PutUint32(b[at:], uint32(n>>draw(32)))
	}
	return sealed(b[:36])
}

// wide is a drawn configuration with numbers of any size.
func wide(draw func(int) int) api.Config {
	c := drawnConfig(draw)
	size := func() int { return draw(most) >> draw(32) }
	c.Lo, c.Hi = -size()-1, size()
	c.Safe = []int{c.Lo, c.Hi, 0}[draw(3)]
	c.Step, c.Stuck, c.Drift, c.Mis, c.Auth, c.Clip = size(), size(), size(), size(), size(), size()
	if draw(3) == 0 {
		c.Lo, c.Hi, c.Safe = least, most, []int{least, most}[draw(2)]
		c.Step, c.Stuck, c.Drift, c.Mis, c.Auth, c.Clip = most, most, most, most, most, most
	}
	return c
}

// P1, P21.1, P21.3: drawn cycles of drawn bytes.
func TestDrawnBytes(t *testing.T) {
	count := seen{}
	for seed := range 200 {
		draw := drawer(20000 + seed)
		c := wide(draw)
		var l []api.Cycle
		for i := range draw(80) {
			var sent api.Cycle
			for channel := range sent {
				sent[channel] = api.Slot{Is: draw(12) > 0, Bytes: drawnBytes(draw, channel, i)}
			}
			l = append(l, sent)
		}
		count.add(runs(t, c, l))
	}
	count.often(t, 30, "latched", "back", "out", "lost", "fail")
}

// P21.1: the default configurations.
func TestDefault(t *testing.T) {
	for n := 3; n <= 4; n++ {
		c, e := config.Default(n)
		if e != 0 {
			t.Fatalf("Default(%d): %d", n, e)
		}
		for seed := range 10 {
			_, l := drawnScript(7000+seed, 200)
			runs(t, c, l)
		}
		if r := runs(t, c, fineOnes(500)); len(r.Notes) != 0 || r.Outputs[499].Status[7].In != 1<<n-1 {
			t.Errorf("of %d: %v", n, r.Notes)
		}
	}
}
