package scene

import (
	"math"
	"testing"

	"rudder/api"
	"rudder/config"
)

// wide is any number: near 0, at ends, or of any size.
func wide(draw func(int) int) int {
	ends := []int{math.MinInt, least, -turn, 0, turn, many, 1 << 30, most, 1 << 40, 1 << 41, math.MaxInt}
	switch draw(4) {
	case 0:
		return draw(20) - 10
	case 1:
		return ends[draw(len(ends))] + draw(3) - 1
	}
	return (draw(1<<31)<<31 + draw(1<<31)) >> draw(62) * (1 - 2*draw(2))
}

// anything changes something of a scene to anything.
func anything(draw func(int) int, s *Scene) {
	switch draw(12) {
	case 0:
		s.E = wide(draw)
	case 1:
		s.R = wide(draw)
	case 2:
		s.Odd = wide(draw)
	case 3:
		s.Seqs[draw(channels)] = wide(draw)
	case 4:
		s.Config.N = wide(draw)
	case 5:
		for _, n := range []*int{&s.Config.Lo, &s.Config.Hi, &s.Config.Safe, &s.Config.Mis, &s.Config.Auth, &s.Config.Clip, &s.Config.Step, &s.Config.Stuck, &s.Config.Drift} {
			if draw(4) == 0 {
				*n = wide(draw)
			}
		}
	}
	if len(s.Points) == 0 {
		return
	}
	p := &s.Points[draw(len(s.Points))]
	switch draw(6) {
	case 0:
		p.Truth[draw(signals)] = wide(draw)
	case 1, 2:
		p.Off[draw(channels)][draw(signals)] = wide(draw)
	case 3:
		_, l := strange(draw(channels), p.Truth)
		p.Slot = l[draw(len(l))]
	case 4:
		p.Slot = api.Slot{Is: draw(2) == 0, Bytes: make([]byte, draw(60))}
	}
}

// drawn is a right scene whose configuration covers its error, and rate, just so, or more.
func drawn(draw func(int) int) Scene {
	e, r := draw(1<<draw(20)), draw(1<<draw(20))
	c := tight(3+draw(2), e, r)
	c.Auth, c.Clip = draw(1<<draw(20)), draw(1<<draw(20))
	c.Mis, c.Stuck = 2*e+2*c.Auth+c.Clip+draw(2)*draw(99), 4*e+2*c.Auth+2*c.Clip
	c.Lo = draw(1<<21) - 1<<20
	c.Hi = c.Lo + 2*e + draw(1<<draw(20))
	c.Safe = c.Lo
	s := Scene{Config: c, E: e, R: r, Odd: draw(c.N+1) - 1}
	for channel := range s.Seqs {
		s.Seqs[channel] = draw(turn)
	}
	var at [signals]int
	for signal := range at {
		at[signal] = c.Lo + e + draw(c.Hi-c.Lo-2*e+1)
	}
	for range draw(20) {
		p := Point{Truth: at}
		for channel := range p.Off {
			for signal := range p.Off[channel] {
				p.Off[channel][signal] = []int{e, -e, 0, draw(2*e+1) - e}[draw(4)]
			}
		}
		p.Slot = oddSlot(draw, s, at)
		s.Points = append(s.Points, p)
		for signal, n := range at {
			by := []int{r, -r, 0, draw(2*r+1) - r}[draw(4)]
			at[signal] = min(max(n+by, c.Lo+e), c.Hi-e)
		}
	}
	return s
}

// oddSlot is what an odd channel may send: near the bound from the truths, mostly.
func oddSlot(draw func(int) int, s Scene, truth [signals]int) api.Slot {
	channel := max(s.Odd, 0)
	for signal := range truth {
		bound := s.Config.Mis + s.E + 2*s.Config.Auth + s.Config.Clip
		truth[signal] += []int{bound, bound + 1, bound - 1, 0, draw(3*bound + 3)}[draw(5)] * (1 - 2*draw(2))
	}
	if draw(4) > 0 {
		return slotOf(channel, draw(turn), truth)
	}
	_, l := strange(channel, truth)
	return l[draw(len(l))]
}

// P22.1, P22.2: drawn right scenes, and what is one beyond a bound of them.
func TestDrawn(t *testing.T) {
	far := [2]int{}
	for seed := range 1500 {
		draw := drawer(40000 + seed)
		s := drawn(draw)
		if !config.Covers(s.Config, s.E, s.R) {
			t.Fatalf("the test's own: %+v", s)
		}
		right(t, s)
		for i := range s.Points {
			if s.Odd >= 0 && Far(s, i, draw(signals)) {
				far[0]++
			} else if s.Odd >= 0 {
				far[1]++
			}
		}
		if len(s.Points) > 0 {
			beyond(t, draw, s)
		}
	}
	if far[0] < 2000 || far[1] < 2000 {
		t.Errorf("far off %d times, and %d times not", far[0], far[1])
	}
}

// beyond holds that a right scene with one number one beyond its bound is wrong.
func beyond(t testing.TB, draw func(int) int, s Scene) {
	t.Helper()
	i, signal, channel, way := draw(len(s.Points)), draw(signals), draw(s.Config.N), draw(2)
	ends := [2]int{s.Config.Lo + s.E - 1, s.Config.Hi - s.E + 1}
	wrong(t, changed(s, func(s *Scene) { s.Points[i].Truth[signal] = ends[way] }), "truth")
	if i > 0 {
		wrong(t, changed(s, func(s *Scene) { s.Points[i].Truth[signal] = s.Points[i-1].Truth[signal] + (s.R+1)*(1-2*way) }), "truth")
	}
	off := changed(s, func(s *Scene) { s.Points[i].Off[channel][signal] = (s.E + 1) * (1 - 2*way) })
	if channel == s.Odd {
		sends(t, off)
	} else {
		wrong(t, off, "off")
	}
	wrong(t, changed(s, func(s *Scene) { s.Seqs[channel] = []int{-1, turn}[way] }), "number")
	wrong(t, changed(s, func(s *Scene) { s.Odd = []int{-2, s.Config.N}[way] }), "odd")
	wrong(t, changed(s, func(s *Scene) { s.E = config.Most(s.Config, s.R) + 1 }), "cover")
}

// P22.1: scenes of drawn numbers, of which most are wrong, in any way, and in several.
func TestDrawnWrong(t *testing.T) {
	often := map[string]int{}
	for seed := range 6000 {
		draw := drawer(90000 + seed)
		s := drawn(draw)
		for range draw(4) {
			anything(draw, &s)
		}
		word := faultOf(s)
		often[word]++
		if word == "" {
			sends(t, s)
		} else {
			wrong(t, s, word)
		}
		seen(t, s, draw(len(s.Points)+2)-1, draw(signals+2)-1)
	}
	for _, word := range []string{"", "cover", "odd", "number", "truth", "off"} {
		if often[word] < 100 {
			t.Errorf("%q just %d times", word, often[word])
		}
	}
}
