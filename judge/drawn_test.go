package judge

import (
	"math"
	"testing"

	"rudder/api"
	"rudder/scene"
	"rudder/script"
)

// wide is any number: near 0, at ends, or of any size.
func wide(draw func(int) int) int {
	ends := []int{math.MinInt, least, -turn, 0, turn, many, 1 << 30, most, 1 << 40, 1 << 41, math.MaxInt}
	switch draw(4) {
	case 0:
		return draw(20) - 10
	case 1:
		return ends[draw(len(ends))] + draw(3) - 1
	}
	return (draw(1<<31)<<31 + draw(1<<31)) >> draw(62) * (1 - 2*draw(2))
}

// anything changes something of a scene to anything.
func anything(draw func(int) int, s *scene.Scene) {
	switch draw(8) {
	case 0:
		s.E = wide(draw)
	case 1:
		s.R = wide(draw)
	case 2:
		s.Odd = wide(draw)
	case 3:
		s.Seqs[draw(channels)] = wide(draw)
	case 4:
		s.Config.N = wide(draw)
	case 5:
		for _, n := range []*int{&s.Config.Lo, &s.Config.Hi, &s.Config.Mis, &s.Config.Auth, &s.Config.Clip, &s.Config.Latch} {
			if draw(3) == 0 {
				*n = wide(draw)
			}
		}
	}
	if len(s.Points) == 0 {
		return
	}
	p := &s.Points[draw(len(s.Points))]
	switch draw(4) {
	case 0:
		p.Truth[draw(signals)] = wide(draw)
	case 1:
		p.Off[draw(channels)][draw(signals)] = wide(draw)
	case 2:
		_, l := strange(draw(channels), p.Truth)
		p.Slot = l[draw(len(l))]
	}
}

// drawn is a right scene whose configuration covers its error, and rate, just so, or more.
func drawn(draw func(int) int) scene.Scene {
	e, r := draw(1<<draw(20)), draw(1<<draw(20))
	c := tight(3+draw(2), e, r)
	c.Auth, c.Clip = draw(1<<draw(20)), draw(1<<draw(20))
	c.Mis, c.Stuck = 2*e+2*c.Auth+c.Clip+draw(2)*draw(99), 4*e+2*c.Auth+2*c.Clip
	c.Lo = draw(1<<21) - 1<<20
	c.Hi = c.Lo + 2*e + draw(1<<draw(20))
	c.Safe = c.Lo + draw(c.Hi-c.Lo+1)
	c.Latch, c.Clean, c.Budget = 1+draw(4), 1+draw(4), draw(3)
	s := scene.Scene{Config: c, E: e, R: r, Odd: draw(c.N+1) - 1}
	for channel := range s.Seqs {
		s.Seqs[channel] = draw(turn)
	}
	var at [signals]int
	for signal := range at {
		at[signal] = c.Lo + e + draw(c.Hi-c.Lo-2*e+1)
	}
	way := 0
	for i := range draw(25) {
		p := scene.Point{Truth: at}
		for channel := range p.Off {
			for signal := range p.Off[channel] {
				p.Off[channel][signal] = []int{e, -e, 0, draw(2*e+1) - e}[draw(4)]
			}
		}
		if draw(3) == 0 {
			way = draw(4)
		}
		p.Slot = oddSlot(draw, s, at, way, i)
		s.Points = append(s.Points, p)
		for signal, n := range at {
			by := []int{r, -r, 0, draw(2*r+1) - r}[draw(4)]
			at[signal] = min(max(n+by, c.Lo+e), c.Hi-e)
		}
	}
	return s
}

// oddSlot is what an odd channel may send: for a while near the truths, near the bound from them, beyond it of some, or what is strange.
func oddSlot(draw func(int) int, s scene.Scene, truth [signals]int, way, i int) api.Slot {
	channel, bound := max(s.Odd, 0), boundOf(s)
	for signal := range truth {
		by := 0
		switch way {
		case 1:
			by = []int{bound, bound + 1, bound - 1}[draw(3)]
		case 2:
			by = bound + 1 + draw(bound+1)
		}
		truth[signal] += by * (1 - 2*draw(2))
	}
	if way == 3 {
		_, l := strange(channel, truth)
		return l[draw(len(l))]
	}
	return slotOf(channel, i, truth)
}

// flawed are outputs of a right scene that are fine, but of some places.
func flawed(draw func(int) int, s scene.Scene) []api.Output {
	l := fine(s)
	if len(l) == 0 {
		return l
	}
	for range draw(12) {
		o, signal := &l[draw(len(l))], draw(signals)
		switch draw(8) {
		case 0:
			o.Status[signal].Fail = true
		case 1:
			o.Status[signal].In = draw(20)
		case 2:
			o.Status[signal].Latched = draw(20)
		case 3:
			o.Status[signal].In = wide(draw)
		case 4:
			o.Status[signal].Latched = wide(draw)
		case 5:
			o.Values[signal] = wide(draw)
		case 6:
			o.Values[signal] += (draw(2) + s.Config.Auth + s.Config.Clip) * (1 - 2*draw(2))
		case 7:
			o.Status[signal].Latched = 0
		}
	}
	return l
}

// P23.1, P23.2: drawn right scenes, with outputs that are fine, and with flawed ones.
func TestDrawn(t *testing.T) {
	often := map[string]int{}
	for seed := range 400 {
		draw := drawer(50000 + seed)
		s := drawn(draw)
		good(t, s, fine(s))
		if seed%4 == 0 {
			rowed(t, s)
		}
		for range 4 {
			for _, x := range judged(t, s, flawed(draw, s)) {
				often[x.Word]++
			}
		}
	}
	for _, word := range inOrder {
		if often[word] < 150 {
			t.Errorf("%q just %d times", word, often[word])
		}
	}
}

// P23.3: drawn good outputs, with values anywhere in the range and up to Auth and Clip beyond, are so with values moved nearer, one, or more of them.
func TestDrawnNearer(t *testing.T) {
	for seed := range 40 {
		draw := drawer(70000 + seed)
		s := drawn(draw)
		l := fine(s)
		for i := range l {
			for signal := range signals {
				lo, hi := rangeOf(s, i, signal)
				room := s.Config.Auth + s.Config.Clip
				n := lo - room + draw(hi-lo+2*room+1)
				l[i].Values[signal] = n
			}
		}
		good(t, s, l)
		for range 5 * len(l) {
			i, signal := draw(len(l)), draw(signals)
			n := &l[i].Values[signal]
			lo, hi := rangeOf(s, i, signal)
			switch {
			case *n < lo:
				*n += 1 + draw(lo-*n)
			case *n > hi:
				*n -= 1 + draw(*n-hi)
			default:
				*n = lo + draw(hi-lo+1)
			}
			if !Good(s, l) {
				t.Fatalf("of %+v: not good with %d, of %d to %d", s, *n, lo, hi)
			}
		}
	}
}

// P23.1, P1: scenes of drawn numbers, of which most are wrong, in any way, and any number of outputs.
func TestDrawnWrong(t *testing.T) {
	often := map[string]int{}
	for seed := range 4000 {
		draw := drawer(90000 + seed)
		s := drawn(draw)
		for range draw(4) {
			anything(draw, &s)
		}
		l := make([]api.Output, len(s.Points))
		if draw(4) == 0 {
			l = make([]api.Output, draw(30))
		}
		word := faultOf(s)
		often[word]++
		if word == "" && len(l) == len(s.Points) {
			judged(t, s, l)
		} else {
			refused(t, s, l)
		}
		i, signal := draw(len(s.Points)+2)-1, draw(signals+2)-1
		if got, want := Row(s, i, signal), rowOf(s, i, signal); got != want {
			t.Fatalf("of %+v: Row(%d, %d) %d, not %d", s, i, signal, got, want)
		}
	}
	for _, word := range []string{"", "cover", "odd", "number", "truth", "off"} {
		if often[word] < 60 {
			t.Errorf("%q just %d times", word, often[word])
		}
	}
}

// P23.1, T3, T4: what a whole run tells of a right scene is good, whatever the odd channel sends.
func TestRuns(t *testing.T) {
	lost := 0
	run := func(s scene.Scene) {
		cycles, e := scene.Cycles(s)
		if e != 0 {
			t.Fatalf("the test's own: %q", faultOf(s))
		}
		y, e := script.Run(s.Config, cycles)
		if e != 0 {
			t.Fatalf("Run: %d", e)
		}
		good(t, s, y.Outputs)
		// With no channel told as latched, the odd one is lost where it was.
		for i := range y.Outputs {
			for signal := range signals {
				y.Outputs[i].Status[signal].Latched = 0
			}
		}
		for _, x := range judged(t, s, y.Outputs) {
			if x.Word != "lost" {
				t.Fatalf("%v", x)
			}
			lost++
		}
	}
	for n := 3; n <= 4; n++ {
		for _, odd := range odds(n) {
			run(plain(n, odd, 120))
		}
	}
	for seed := range 400 {
		run(drawn(drawer(20000 + seed)))
	}
	if lost < 3000 {
		t.Errorf("lost just %d times", lost)
	}
}
