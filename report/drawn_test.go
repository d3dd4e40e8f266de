package report

import (
	"math"
	"slices"
	"testing"

	"rudder/api"
	"rudder/scene"
	"rudder/script"
)

// wide is any number: near 0, at ends, or of any size.
func wide(draw func(int) int) int {
	ends := []int{math.MinInt, least, -turn, 0, 258, turn, most, 1 << 32, 1 << 40, math.MaxInt}
	switch draw(4) {
	case 0:
		return draw(20) - 10
	case 1:
		return ends[draw(len(ends))] + draw(3) - 1
	}
	return (draw(1<<31)<<31 + draw(1<<31)) >> draw(62) * (1 - 2*draw(2))
}

// P24.1, P24.2: drawn outputs that may be come back from their lines; with some number changed to any, most have none.
func TestDrawnOutputs(t *testing.T) {
	wrong := 0
	for seed := range 20000 {
		draw := drawer(seed)
		o := drawnOutput(draw)
		lined(t, o)
		for range 1 + draw(2) {
			i := draw(signals)
			switch draw(6) {
			case 0:
				o.Seq = wide(draw)
			case 1:
				o.Values[i] = wide(draw)
			case 2:
				o.Status[i].In = wide(draw)
			case 3:
				o.Status[i].Latched = wide(draw)
			case 4:
				o.Status[i].Suspect = wide(draw)
			case 5:
				o.Status[i].Fail = draw(2) == 1
			}
		}
		if mayBe(o) {
			lined(t, o)
		} else {
			unlined(t, o)
			wrong++
		}
	}
	if wrong < 10000 {
		t.Errorf("just %d that may not be", wrong)
	}
}

// P24.1, P24.2: drawn lines, with some of their bytes left out, put in, changed, or exchanged.
func TestDrawnLines(t *testing.T) {
	const bytes = "0123456789-+/ \t\nquadtriplesingleduplexhold\x00\xff."
	is := 0
	for seed := range 30000 {
		draw := drawer(100000 + seed)
		b := []byte(lineOf(drawnOutput(draw)))
		for range 1 + draw(3) {
			i, other := draw(len(b)), bytes[draw(len(bytes))]
			switch draw(5) {
			case 0:
				b = slices.Delete(b, i, i+1)
			case 1:
				b = slices.Insert(b, i, other)
			case 2:
				b[i] = other
			case 3:
				k := draw(len(b))
				b[i], b[k] = b[k], b[i]
			case 4:
				b[i] = byte(draw(256))
			}
		}
		if parsed(t, string(b)) {
			is++
		}
	}
	if is < 500 || is > 15000 {
		t.Errorf("%d lines", is)
	}
}

// P1, P24.1: drawn texts of what lines are made of.
func TestDrawnTexts(t *testing.T) {
	parts := []string{"0", "1", "-", "-7", "258", "65535", "65536", "2147483647", "-2147483648", " ", " ", " ", "/", "/", "quad", "hold", "0/quad", " 0/quad", " -9/single", "+", "", "\n"}
	for seed := range 30000 {
		draw := drawer(200000 + seed)
		s := ""
		for range draw(40) {
			s += parts[draw(len(parts))]
		}
		parsed(t, s)
	}
	for seed := range 10000 {
		draw := drawer(300000 + seed)
		words := []string{"0", "258", "65535", "65536", "-1", "00"}
		s := words[draw(draw(6)+1)]
		for range 8 + (draw(9)-4)/4 {
			words := []string{" 0/quad", " -1/hold", " 2147483647/duplex", " -2147483648/triple", " 2147483648/single", " -0/quad", " 0/quads"}
			s += words[draw(draw(len(words))+1)]
		}
		parsed(t, s)
	}
}

// drawnScene is a right scene whose configuration covers its error, and rate, just so, or more.
func drawnScene(draw func(int) int) scene.Scene {
	e, r := draw(1<<draw(27)), draw(1<<draw(30))
	c := tight(3+draw(2), e, r)
	c.Auth, c.Clip = draw(1<<draw(27)), draw(1<<draw(27))
	c.Mis, c.Stuck = 2*e+2*c.Auth+c.Clip, 4*e+2*c.Auth+2*c.Clip
	if draw(3) == 0 {
		c.Mis, c.Step, c.Drift, c.Stuck = c.Mis+draw(100), c.Step+draw(100), c.Drift+draw(100), c.Stuck+draw(100)
	}
	c.Window, c.Lag, c.Gain = 2+draw(15), draw(9), draw(9)
	c.Latch, c.Clean, c.Budget, c.Limit = 1+draw(4), 1+draw(4), draw(4), 1+draw(8)
	for channel := range c.N {
		c.Weights[channel] = 1 + draw(16)
	}
	room := 2*e + draw(1<<draw(31))
	c.Lo = []int{least, most - room, -room / 2, draw(1<<32-room) + least}[draw(4)]
	c.Hi = c.Lo + room
	c.Safe = c.Lo + draw(room+1)
	s := scene.Scene{Config: c, E: e, R: r, Odd: draw(c.N+1) - 1}
	for channel := range s.Seqs {
		s.Seqs[channel] = draw(turn)
	}
	var truth [signals]int
	for signal := range truth {
		truth[signal] = c.Lo + e + draw(room-2*e+1)
	}
	way, stays := 0, [signals]bool{}
	for i := range draw(60) {
		if draw(5) == 0 {
			way, stays[draw(signals)] = draw(6), draw(2) == 0
		}
		s.Points = append(s.Points, drawnPoint(draw, s, truth, way, i))
		for signal, n := range truth {
			if by := []int{r, -r, 0, draw(2*r+1) - r}[draw(4)]; !stays[signal] {
				truth[signal] = min(max(n+by, c.Lo+e), c.Hi-e)
			}
		}
	}
	return s
}

// drawnPoint is one of such truths, whose odd channel sends what is near for a while, near the bound of what is far off, far off, strange, or what it sent ahead.
func drawnPoint(draw func(int) int, s scene.Scene, truth [signals]int, way, i int) scene.Point {
	e, bound := s.E, s.Config.Mis+s.E+2*s.Config.Auth+s.Config.Clip
	p := scene.Point{Truth: truth}
	for channel := range p.Off {
		for signal := range p.Off[channel] {
			p.Off[channel][signal] = []int{e, -e, 0, draw(2*e+1) - e}[draw(4)]
		}
	}
	odd := max(s.Odd, 0)
	for signal := range truth {
		by := draw(2*e+1) - e
		switch way {
		case 1:
			by = (bound + draw(3) - 1) * (1 - 2*draw(2))
		case 2:
			by = (bound + 1 + draw(bound+1)) * (1 - 2*draw(2))
		case 3:
			by = (draw(1<<32) - 1<<31) * draw(2)
		}
		truth[signal] = min(max(truth[signal]+by, least), most)
	}
	p.Slot = slotOf(odd, i, truth)
	switch l := strange(odd, truth); {
	case way == 4:
		p.Slot = l[draw(len(l))]
	case way == 5 && i > 0:
		p.Slot = slotOf(odd, i, s.Points[i-1].Truth)
	}
	return p
}

// P24.3: drawn right scenes, whatever the odd channel sends.
func TestDrawnScenes(t *testing.T) {
	noted := 0
	for seed := range 1500 {
		s := drawnScene(drawer(400000 + seed))
		noted += min(1, len(flies(t, s).Notes))
	}
	if noted < 300 {
		t.Errorf("just in %d scenes who was odd was found out", noted)
	}
}

// P24.1: reports of drawn right scenes, by outputs that are those of the run, but of some places, and by drawn ones.
func TestDrawnReports(t *testing.T) {
	lines := 0
	for seed := range 400 {
		draw := drawer(500000 + seed)
		s := drawnScene(draw)
		l := slices.Clone(flies(t, s).Outputs)
		for range len(l) {
			o, i := &l[draw(len(l))], draw(signals)
			switch draw(5) {
			case 0:
				o.Status[i].In = draw(16)
			case 1:
				o.Status[i].Latched = draw(16)
			case 2:
				o.Values[i] = wide(draw)
			case 3:
				o.Status[i].Fail = true
			case 4:
				*o = drawnOutput(draw)
			}
		}
		lines += len(scened(t, s, l))
		told(t, drawnResult(l, draw))
	}
	if lines < 10000 {
		t.Errorf("just %d lines", lines)
	}
}

// drawnResult is one of outputs, with drawn notes, of which some may not be, and any number of lost ones.
func drawnResult(l []api.Output, draw func(int) int) script.Result {
	r := script.Result{Outputs: l, Lost: wide(draw)}
	for range draw(33) {
		n := api.Note{Cycle: draw(many), Channel: draw(channels), Signal: draw(signals), Kind: draw(3), Trips: draw(64)}
		if draw(4) == 0 {
			*[]*int{&n.Cycle, &n.Channel, &n.Signal, &n.Kind, &n.Trips}[draw(5)] = wide(draw)
		}
		r.Notes = append(r.Notes, n)
	}
	return r
}

// P24.1, P1: right scenes, of which something is changed to any number: those that are wrong then do not fly, nor have a report; others do.
func TestDrawnWrong(t *testing.T) {
	wrong := 0
	for seed := range 3000 {
		draw := drawer(600000 + seed)
		s := drawnScene(draw)
		numbers := []*int{&s.E, &s.R, &s.Odd, &s.Seqs[draw(channels)], &s.Config.N, &s.Config.Lo, &s.Config.Hi, &s.Config.Mis, &s.Config.Step, &s.Config.Auth, &s.Config.Latch, &s.Config.Weights[draw(channels)]}
		for i := range s.Points {
			numbers = append(numbers, &s.Points[i].Truth[draw(signals)], &s.Points[i].Off[draw(channels)][draw(signals)])
		}
		for range 1 + draw(2) {
			*numbers[draw(len(numbers))] = wide(draw)
		}
		if scene.Fault(s) == "" {
			flies(t, s)
			continue
		}
		wrong++
		grounded(t, s)
		if got, e := Scene(s, make([]api.Output, len(s.Points))); len(got) != 0 || e != api.ErrArg {
			t.Fatalf("of the fault %q: %q, %d", scene.Fault(s), got, e)
		}
	}
	if wrong < 1500 {
		t.Errorf("just %d wrong scenes", wrong)
	}
}
