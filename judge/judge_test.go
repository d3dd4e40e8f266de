package judge

import (
	"math"
	"reflect"
	"slices"
	"sync"
	"testing"

	"rudder/api"
	"rudder/scene"
)

// The signatures that other layers call, and what a complaint has.
var (
	_ func(s scene.Scene, l []api.Output) ([]Complaint, api.Errno) = All
	_ func(s scene.Scene, l []api.Output) bool                     = Good
	_ func(s scene.Scene, i, signal int) int                       = Row

	_ = Complaint{Point: int(0), Signal: int(0), Word: ""}
)

// inOrder are the words.
var inOrder = []string{"fail", "out", "latched", "low", "high", "lost"}

// P23.1, P23.2: what is written out: two healthy channels, and a third one that is far off of the signal 0 in the points 1 and 2, and sends nothing in the points 3 and 4.
func TestWrittenOut(t *testing.T) {
	s := scene.Scene{
		Config: api.Config{N: 3, Lo: -100, Hi: 100, Safe: 5, Step: 40, Stuck: 20, Window: 3, Drift: 30, Mis: 20, Auth: 2, Clip: 4, Latch: 2, Clean: 2, Budget: 1, Limit: 4, Weights: [4]int{1, 1, 2}},
		E:      2, R: 5, Odd: 2,
	}
	for _, slot := range []api.Slot{slotOf(2, 0, all(30)), slotOf(2, 1, [8]int{31, 30}), slotOf(2, 2, [8]int{-31, -30}), {}, {Is: true, Bytes: []byte{1}}} {
		s.Points = append(s.Points, scene.Point{Off: [4][8]int{{-1}, {2}}, Slot: slot})
	}
	// Mis, E, twice Auth, and Clip are 30; the range of the signal 0 is -1 to 2, of others 0 to 0.
	for signal, want := range [8][5]int{{0, 1, 2, 3, 4}, {0, 0, 0, 1, 2}, {0, 0, 0, 1, 2}, {0, 0, 0, 1, 2}, {0, 0, 0, 1, 2}, {0, 0, 0, 1, 2}, {0, 0, 0, 1, 2}, {0, 0, 0, 1, 2}} {
		for i, n := range want {
			if got := Row(s, i, signal); got != n {
				t.Errorf("Row(%d, %d): %d, not %d", i, signal, got, n)
			}
		}
	}
	told := func(in, latched, n int) api.Output {
		var o api.Output
		for signal := range signals {
			o.Values[signal], o.Status[signal] = n, api.Status{In: in, Latched: latched, Suspect: -1}
		}
		return o
	}
	l := []api.Output{told(7, 0, 0), told(7, 0, 0), told(7, 0, 0), told(3, 0, 0), told(3, 4, 0)}
	l[2].Status[0].Latched = 4
	l[3].Status[0].Latched = 4
	good(t, s, l)
	l[0].Values = [8]int{8, 6, -6, 7, -7, 6, 6, 6}
	l[1].Values[0], l[1].Status[7] = -8, api.Status{In: 4, Suspect: 2}
	l[2].Status[0].Latched, l[2].Status[3].Latched = 0, 5
	l[3].Values[0], l[3].Status[6] = -7, api.Status{Suspect: -1, Fail: true}
	l[4].Status[2].Latched = 0
	bad(t, s, l,
		Complaint{0, 3, "high"}, Complaint{0, 4, "low"}, Complaint{1, 0, "low"}, Complaint{1, 7, "out"}, Complaint{2, 0, "lost"}, Complaint{2, 3, "latched"}, Complaint{3, 6, "fail"}, Complaint{4, 2, "lost"})
}

// P23.1: right scenes of no points, of one, of some, of three and of four channels, with no odd channel, and with each one: good outputs, and those of zeros, of which each one is to be complained.
func TestRight(t *testing.T) {
	for n := 3; n <= 4; n++ {
		for _, odd := range odds(n) {
			for _, points := range []int{0, 1, 2, 3, 50} {
				for _, latch := range []int{1, 2, 5} {
					s := plain(n, odd, points)
					s.Config.Latch = latch
					rowed(t, s)
					good(t, s, fine(s))
					l := judged(t, s, make([]api.Output, points))
					if len(l) != 8*points {
						t.Fatalf("of %d, odd %d, %d points: %v", n, odd, points, l)
					}
				}
			}
		}
	}
}

// P23.1: with no points, and no outputs, there is nothing to complain, whether lists are nil or not, or have some behind their length.
func TestNoPoints(t *testing.T) {
	for n := 3; n <= 4; n++ {
		for _, odd := range odds(n) {
			for _, points := range [][]scene.Point{nil, {}, plain(n, odd, 5).Points[:0], plain(n, odd, 5).Points[5:]} {
				for _, l := range [][]api.Output{nil, {}, make([]api.Output, 3)[:0], make([]api.Output, 0, 9)} {
					s := plain(n, odd, 0)
					s.Points = points
					good(t, s, l)
					rowed(t, s)
				}
			}
		}
	}
}

// flaws are what makes each word hold of a signal of an output of a scene, whose odd channel, if there is one, was far off in as many points in a row as Latch tells; both of what is too low, and too high, can't be.
func flaws(s scene.Scene, i, signal int) map[string][]func(o *api.Output) {
	lo, hi := rangeOf(s, i, signal)
	room := s.Config.Auth + s.Config.Clip
	m := map[string][]func(o *api.Output){
		"fail": {func(o *api.Output) { o.Status[signal].Fail = true }},
		"low":  {func(o *api.Output) { o.Values[signal] = lo - room - 1 }, func(o *api.Output) { o.Values[signal] = math.MinInt }},
		"high": {func(o *api.Output) { o.Values[signal] = hi + room + 1 }, func(o *api.Output) { o.Values[signal] = math.MaxInt }},
	}
	for _, channel := range others(s) {
		m["out"] = append(m["out"], func(o *api.Output) { o.Status[signal].In &^= 1 << channel })
		m["latched"] = append(m["latched"], func(o *api.Output) { o.Status[signal].Latched |= 1 << channel })
	}
	if s.Odd >= 0 {
		m["lost"] = []func(o *api.Output){func(o *api.Output) { o.Status[signal].Latched &^= 1 << s.Odd }}
	}
	return m
}

// P23.1: each word alone, of each point and signal, by each of its ways; nothing else is complained.
func TestEachWord(t *testing.T) {
	for n := 3; n <= 4; n++ {
		for _, odd := range odds(n) {
			s := rows(n, odd, 255, 255, 255)
			s.Config.Latch = 1
			l := fine(s)
			good(t, s, l)
			for i := range l {
				for signal := range signals {
					for word, ways := range flaws(s, i, signal) {
						for _, do := range ways {
							bad(t, s, with(l, i, do), Complaint{i, signal, word})
						}
					}
				}
			}
		}
	}
}

// P23.1, P23.2: any words that hold at once of one point and signal, of which the first one alone is told: all sets, each by some of its ways, and of two places at once.
func TestFirstWord(t *testing.T) {
	for n := 3; n <= 4; n++ {
		for _, odd := range odds(n) {
			draw := drawer(100*n + odd)
			s := rows(n, odd, 255, -1, 255)
			s.Config.Latch = 1
			l := fine(s)
			for set := 1; set < 64; set++ {
				if set&24 == 24 || odd < 0 && set&32 != 0 {
					continue // a value is not both too low, and too high; none is lost where none is odd
				}
				i, signal := draw(3), draw(signals)
				first := ""
				told := slices.Clone(l)
				for at := 5; at >= 0; at-- {
					if set>>at&1 == 1 {
						first = inOrder[at]
						ways := flaws(s, i, signal)[first]
						ways[draw(len(ways))](&told[i])
					}
				}
				if got := wordsOf(s, told, i, signal); len(got) == 0 || got[0] != first {
					t.Fatalf("the test's own: %v, not %q", got, first)
				}
				bad(t, s, told, Complaint{i, signal, first})
			}
		}
	}
}

// P23.1: values at Auth and Clip below the range, and above it, and one beyond, of each signal; those far off, of which a sum would wrap round.
func TestValues(t *testing.T) {
	for n := 3; n <= 4; n++ {
		for _, odd := range odds(n) {
			s := near(n, odd, 2)
			l := fine(s)
			for i := range l {
				for signal := range signals {
					lo, hi := rangeOf(s, i, signal)
					for _, x := range []struct {
						n    int
						word string
					}{
						{lo, ""}, {hi, ""}, {lo - 1, ""}, {hi + 1, ""}, {lo - 9, ""}, {hi + 9, ""}, {lo - 10, ""}, {hi + 10, ""},
						{lo - 11, "low"}, {hi + 11, "high"}, {lo - 12, "low"}, {hi + 12, "high"}, {-1001, "low"}, {1001, "high"}, {least, "low"}, {most, "high"}, {least - 1, "low"}, {most + 1, "high"},
						{lo + 1<<32, "high"}, {lo - 1<<32, "low"}, {hi + 1<<16, "high"}, {hi - 1<<16, "low"}, {lo + 1<<40, "high"}, {hi - 1<<40, "low"}, {1<<40 + 1, "high"}, {-1<<40 - 1, "low"}, {1 << 41, "high"}, {-1 << 41, "low"},
						{math.MinInt, "low"}, {math.MinInt + 1, "low"}, {math.MinInt + 10, "low"}, {math.MaxInt, "high"}, {math.MaxInt - 1, "high"}, {math.MaxInt - 10, "high"}, {math.MinInt + 1<<32, "low"}, {math.MaxInt - 1<<32, "high"},
					} {
						changed := with(l, i, func(o *api.Output) { o.Values[signal] = x.n })
						if x.word == "" {
							good(t, s, changed)
						} else {
							bad(t, s, changed, Complaint{i, signal, x.word})
						}
					}
				}
			}
		}
	}
}

// P23.1: what may be beyond the range hangs on Auth, and on Clip, once each, and on nothing else.
func TestRoom(t *testing.T) {
	base := near(3, 1, 1)
	base.Config.Mis, base.Config.Stuck = 500, 1000
	for _, x := range []struct {
		by     int
		change func(s *scene.Scene)
	}{
		{0, func(s *scene.Scene) {}},
		{1, func(s *scene.Scene) { s.Config.Auth++ }},
		{1, func(s *scene.Scene) { s.Config.Clip++ }},
		{-3, func(s *scene.Scene) { s.Config.Auth = 0 }},
		{-7, func(s *scene.Scene) { s.Config.Clip = 0 }},
		{-10, func(s *scene.Scene) { s.Config.Auth, s.Config.Clip = 0, 0 }},
		{40, func(s *scene.Scene) { s.Config.Auth, s.Config.Clip = 20, 30 }},
		{0, func(s *scene.Scene) { s.Config.Mis++ }},
		{0, func(s *scene.Scene) { s.Config.Step++ }},
		{0, func(s *scene.Scene) { s.Config.Stuck++ }},
		{0, func(s *scene.Scene) { s.E++; s.Config.Step += 2; s.Config.Drift += 2 }},
		{0, func(s *scene.Scene) { s.Points[0].Off[1] = all(900) }},
		{0, func(s *scene.Scene) { s.Points[0].Off[3] = all(-900) }},
	} {
		s := changed(base, x.change)
		l := fine(s)
		for signal := range signals {
			lo, hi := rangeOf(s, 0, signal)
			room := 10 + x.by
			for _, n := range []int{lo - room, hi + room} {
				good(t, s, with(l, 0, func(o *api.Output) { o.Values[signal] = n }))
			}
			bad(t, s, with(l, 0, func(o *api.Output) { o.Values[signal] = lo - room - 1 }), Complaint{0, signal, "low"})
			bad(t, s, with(l, 0, func(o *api.Output) { o.Values[signal] = hi + room + 1 }), Complaint{0, signal, "high"})
		}
	}
}

// P23.1: the greatest Auth, and Clip, at the ends of all values: what is beyond them is told by no output that may be, but is judged all the same.
func TestGreatest(t *testing.T) {
	for n := 3; n <= 4; n++ {
		for _, odd := range odds(n) {
			s := near(n, odd, 3)
			s.E, s.R = 0, farthest
			s.Config.Lo, s.Config.Hi, s.Config.Mis, s.Config.Step, s.Config.Stuck = least, most, most, most, most
			s.Config.Auth, s.Config.Clip = 400000000, 673741823
			for i := range s.Points {
				s.Points[i].Off = [4][8]int{}
				s.Points[i].Truth = all([]int{least, least + farthest, least + 2*farthest}[i])
			}
			l := fine(s)
			good(t, s, l)
			const room = 1073741823
			for i := range s.Points {
				truth := s.Points[i].Truth[0]
				for _, by := range []int{-room, room, 0, 1 - room, room - 1} {
					good(t, s, with(l, i, func(o *api.Output) { o.Values = all(truth + by) }))
				}
				for signal := range signals {
					bad(t, s, with(l, i, func(o *api.Output) { o.Values[signal] = truth - room - 1 }), Complaint{i, signal, "low"})
					bad(t, s, with(l, i, func(o *api.Output) { o.Values[signal] = truth + room + 1 }), Complaint{i, signal, "high"})
					bad(t, s, with(l, i, func(o *api.Output) { o.Values[signal] = math.MinInt }), Complaint{i, signal, "low"})
					bad(t, s, with(l, i, func(o *api.Output) { o.Values[signal] = math.MaxInt }), Complaint{i, signal, "high"})
				}
			}
		}
	}
}

// P23.1: all masks of In, from 0 to 15: each channel that there is, but the odd one, is to be in; of the odd one, and of one that there is not, it counts not.
func TestIn(t *testing.T) {
	for n := 3; n <= 4; n++ {
		for _, odd := range odds(n) {
			s := near(n, odd, 2)
			l := fine(s)
			for mask := range 16 {
				holds := false
				for channel := range n {
					holds = holds || channel != odd && mask&(1<<channel) == 0
				}
				for signal := range signals {
					changed := with(l, 1, func(o *api.Output) { o.Status[signal].In = mask })
					if holds {
						bad(t, s, changed, Complaint{1, signal, "out"})
					} else {
						good(t, s, changed)
					}
				}
			}
		}
	}
}

// P23.1: all masks of Latched, from 0 to 15: none of the channels that there are may be, but the odd one, which is to be where it was far off for so long.
func TestLatched(t *testing.T) {
	for n := 3; n <= 4; n++ {
		for _, odd := range odds(n) {
			for far := range 2 {
				s := rows(n, odd, 255*far, 255*far)
				l := fine(s)
				for mask := range 16 {
					word := ""
					if far == 1 && odd >= 0 && mask&(1<<odd) == 0 {
						word = "lost"
					}
					for channel := range n {
						if channel != odd && mask&(1<<channel) != 0 {
							word = "latched"
						}
					}
					for signal := range signals {
						changed := with(l, 1, func(o *api.Output) { o.Status[signal].Latched = mask })
						if word != "" {
							bad(t, s, changed, Complaint{1, signal, word})
						} else {
							good(t, s, changed)
						}
					}
				}
			}
		}
	}
}

// P23.1: bits of channels that there are not count not, in masks up to 65535; of what is no mask, no bit is 1.
func TestMasks(t *testing.T) {
	for n := 3; n <= 4; n++ {
		for _, odd := range odds(n) {
			s := rows(n, odd, 255, 255)
			l := fine(s)
			in, latched := l[1].Status[4].In, l[1].Status[4].Latched
			for bit := n; bit < 16; bit++ {
				good(t, s, with(l, 1, func(o *api.Output) { o.Status[4].In |= 1 << bit }))
				good(t, s, with(l, 1, func(o *api.Output) { o.Status[4].Latched |= 1 << bit }))
			}
			good(t, s, with(l, 1, func(o *api.Output) { o.Status[4].In = 65535 }))
			for bit := 16; bit < 64; bit++ {
				bad(t, s, with(l, 1, func(o *api.Output) { o.Status[4].In |= 1 << bit }), Complaint{1, 4, "out"})
			}
			wrong := []int{-1, -2, -16, -15, -1 << 16, -1<<16 + 15, -1 << 32, -1<<32 + 15, 65536, 65536 + 15, 1<<17 - 1, 1<<32 + 15, 1<<40 + 15, math.MaxInt, math.MinInt, math.MinInt + 15}
			for _, mask := range wrong {
				bad(t, s, with(l, 1, func(o *api.Output) { o.Status[4].In = mask }), Complaint{1, 4, "out"})
				changed := with(l, 1, func(o *api.Output) { o.Status[4].Latched = mask })
				if odd >= 0 {
					bad(t, s, changed, Complaint{1, 4, "lost"})
				} else {
					good(t, s, changed)
				}
				// Ahead of the point where it is to be latched, no bit is one that may not be.
				good(t, s, with(l, 0, func(o *api.Output) { o.Status[4].Latched = mask }))
			}
			if l[1].Status[4].In != in || l[1].Status[4].Latched != latched {
				t.Fatal("the test's own")
			}
		}
	}
}

// P23.1: a status that may not be is judged by In, Latched and Fail alone; the suspect one, and the number of an output, count not.
func TestWhatCountsNot(t *testing.T) {
	for n := 3; n <= 4; n++ {
		for _, odd := range odds(n) {
			s := rows(n, odd, 3, -1, 12)
			l := fine(s)
			for _, number := range []int{-2, -1, 0, 1, 2, 3, 4, 65535, 65536, math.MinInt, math.MaxInt} {
				for i := range l {
					for signal := range signals {
						good(t, s, with(l, i, func(o *api.Output) { o.Status[signal].Suspect = number }))
					}
					good(t, s, with(l, i, func(o *api.Output) { o.Seq = number }))
				}
			}
			bad(t, s, with(l, 2, func(o *api.Output) { o.Status[6].Fail = true }), Complaint{2, 6, "fail"})
			bad(t, s, with(l, 2, func(o *api.Output) { o.Status[6] = api.Status{} }), Complaint{2, 6, "out"})
			bad(t, s, with(l, 2, func(o *api.Output) { o.Status[6] = api.Status{Fail: true, Suspect: -1} }), Complaint{2, 6, "fail"})
		}
	}
}

// P23.1: rows one shorter than Latch, as long, and longer: it is lost from the point on where it is as long, if it is not latched.
func TestLost(t *testing.T) {
	for n := 3; n <= 4; n++ {
		for odd := range n {
			for _, latch := range []int{1, 2, 3, 7} {
				for length := range 10 {
					masks := []int{0, 0}
					for i := range length {
						masks = append(masks, []int{255, -1}[i%2])
					}
					masks = append(masks, 0, 0)
					s := rows(n, odd, masks...)
					s.Config.Latch = latch
					rowed(t, s)
					good(t, s, fine(s))
					var want []Complaint
					for i := 1 + latch; i < 2+length; i++ {
						for signal := range signals {
							want = append(want, Complaint{i, signal, "lost"})
						}
					}
					l := fine(s)
					for i := range l {
						for signal := range signals {
							l[i].Status[signal].Latched = 0
						}
					}
					bad(t, s, l, want...)
				}
			}
		}
	}
}

// P23.1: the longest Latch, at its end.
func TestLongestLatch(t *testing.T) {
	masks := make([]int, 103)
	for i := range masks {
		masks[i] = 32
	}
	masks[0] = 0
	s := rows(4, 3, masks...)
	s.Config.Latch = 100
	l := fine(s)
	for i := range l {
		if got := Row(s, i, 5); got != i {
			t.Errorf("Row(%d, 5): %d", i, got)
		}
		l[i].Status[5].Latched = 0
	}
	bad(t, s, l, Complaint{100, 5, "lost"}, Complaint{101, 5, "lost"}, Complaint{102, 5, "lost"})
	s.Points, l = s.Points[:100], l[:100]
	good(t, s, l)
}

// P23.1: a row that is broken begins anew, of each signal its own.
func TestBrokenRow(t *testing.T) {
	for n := 3; n <= 4; n++ {
		for odd := range n {
			s := rows(n, odd, 1, 1, 0, 1, 1, 1, 3, 2, 2, -1, 0, 128, 129, 1, -1)
			s.Config.Latch = 3
			rowed(t, s)
			for i, want := range []int{1, 2, 0, 1, 2, 3, 4, 0, 0, 1, 0, 0, 1, 2, 3} {
				if got := Row(s, i, 0); got != want {
					t.Errorf("Row(%d, 0): %d, not %d", i, got, want)
				}
			}
			l := fine(s)
			good(t, s, l)
			for i := range l {
				for signal := range signals {
					l[i].Status[signal].Latched = 0
				}
			}
			bad(t, s, l, Complaint{5, 0, "lost"}, Complaint{6, 0, "lost"}, Complaint{8, 1, "lost"}, Complaint{9, 1, "lost"}, Complaint{14, 0, "lost"})
		}
	}
}

// P23.1: the odd one is to be latched in the point itself: ahead of it, or behind it, counts not; nor does that of another signal.
func TestLatchedWhere(t *testing.T) {
	for n := 3; n <= 4; n++ {
		for odd := range n {
			s := rows(n, odd, 0, 16, 16, 0, 0)
			l := fine(s)
			for i := range l {
				l[i].Status[4].Latched = 0
			}
			bad(t, s, l, Complaint{2, 4, "lost"})
			for set := range 32 {
				told := slices.Clone(l)
				for i := range told {
					told[i].Status[4].Latched = set >> i & 1 << odd
					told[i].Status[5].Latched = 1 << odd
				}
				if set>>2&1 == 1 {
					good(t, s, told)
				} else {
					bad(t, s, told, Complaint{2, 4, "lost"})
				}
			}
		}
	}
}

// P23.1: the odd one is far off by more than its bound alone, to both sides, and by each way to send no frame.
func TestFarOff(t *testing.T) {
	for n := 3; n <= 4; n++ {
		for odd := range n {
			s := near(n, odd, 1)
			s.Config.Latch = 1
			l := fine(s)
			for signal := range signals {
				for _, way := range []int{1, -1} {
					for beyond := range 2 {
						values := s.Points[0].Truth
						values[signal] += way * (boundOf(s) + beyond)
						s.Points[0].Slot = slotOf(odd, 3, values)
						rowed(t, s)
						if beyond == 0 {
							good(t, s, l)
						} else {
							bad(t, s, l, Complaint{0, signal, "lost"})
						}
					}
				}
			}
			none, slots := strange(odd, s.Points[0].Truth)
			for at, slot := range slots {
				s.Points[0].Slot = slot
				rowed(t, s)
				if got := judged(t, s, l); len(got) != 8 && at < none || len(got) != 0 && at >= none {
					t.Errorf("of %d, odd %d, slot %d: %v", n, odd, at, got)
				}
			}
		}
	}
}

// P23.1: with no odd channel none is lost, whatever slots hold, and every channel that there is, is to be in, and not latched.
func TestNoOdd(t *testing.T) {
	for n := 3; n <= 4; n++ {
		for channel := range channels {
			_, slots := strange(channel, all(900))
			for _, slot := range slots {
				s := near(n, -1, 3)
				s.Config.Latch = 1
				for i := range s.Points {
					s.Points[i].Slot = slot
				}
				rowed(t, s)
				l := fine(s)
				good(t, s, l)
				for _, latched := range []int{0, 16, 1 << 15, -1, 65536} {
					good(t, s, with(l, 1, func(o *api.Output) { o.Status[2].Latched = latched }))
				}
			}
		}
	}
}

// P23.1: Row of points, and signals, that there are not.
func TestNoSuch(t *testing.T) {
	outside := []int{-1, -2, -1 << 16, -1 << 31, -1 << 32, -1<<32 + 1, 1<<32 + 1, 1 << 32, 1<<40 + 1, 1 << 62, math.MaxInt, math.MinInt, math.MinInt + 1}
	for n := 3; n <= 4; n++ {
		for _, odd := range odds(n) {
			s := rows(n, odd, -1, -1, -1)
			rowed(t, s)
			for _, i := range append(outside, 3, 4) {
				for _, signal := range []int{0, 1, 7, -1, 8} {
					if got := Row(s, i, signal); got != 0 {
						t.Errorf("Row(%d, %d): %d", i, signal, got)
					}
				}
			}
			for _, signal := range append(outside, 8, 9) {
				for _, i := range []int{0, 1, 2, 3} {
					if got := Row(s, i, signal); got != 0 {
						t.Errorf("Row(%d, %d): %d", i, signal, got)
					}
				}
			}
		}
	}
}

// P23.1: scenes with each fault, in which all is told well, or not: nothing is answered.
func TestNotRight(t *testing.T) {
	for n := 3; n <= 4; n++ {
		for odd := range n {
			base := rows(n, odd, -1, -1, 255, 0)
			healthy := others(base)[0]
			for i, x := range []struct {
				word   string
				change func(s *scene.Scene)
			}{
				{"cover", func(s *scene.Scene) { s.E = 7 }},
				{"cover", func(s *scene.Scene) { s.R = -1 }},
				{"cover", func(s *scene.Scene) { s.Config.Mis-- }},
				{"cover", func(s *scene.Scene) { s.Config = api.Config{} }},
				{"cover", func(s *scene.Scene) { s.Config.N = math.MinInt }},
				{"cover", func(s *scene.Scene) { s.Config.N = math.MaxInt }},
				{"cover", func(s *scene.Scene) { s.Config.N = 5 }},
				{"odd", func(s *scene.Scene) { s.Odd = n }},
				{"odd", func(s *scene.Scene) { s.Odd = -2 }},
				{"odd", func(s *scene.Scene) { s.Odd = math.MinInt }},
				{"number", func(s *scene.Scene) { s.Seqs[n-1] = 65536 }},
				{"number", func(s *scene.Scene) { s.Seqs[0] = -1 }},
				{"truth", func(s *scene.Scene) { s.Points[0].Truth[7] = 995 }},
				{"truth", func(s *scene.Scene) { s.Points[3].Truth[0] += 100 }},
				{"truth", func(s *scene.Scene) { s.Points[2].Truth[0] -= 100 }},
				{"off", func(s *scene.Scene) { s.Points[3].Off[healthy][0] = 7 }},
				{"off", func(s *scene.Scene) { s.Points[0].Off[healthy][7] = -7 }},
			} {
				s := changed(base, x.change)
				if got := faultOf(s); got != x.word {
					t.Fatalf("the test's own, %d: %q, not %q", i, got, x.word)
				}
				for _, l := range [][]api.Output{fine(base), make([]api.Output, 4), make([]api.Output, 3), nil} {
					refused(t, s, l)
				}
				rowed(t, s) // the model's rows are 0
			}
		}
	}
}

// P23.1: as many points as there may be, and one more; what is asked of as many ends in good time.
func TestMostPoints(t *testing.T) {
	for n := 3; n <= 4; n++ {
		masks := make([]int, many)
		for i := range masks {
			masks[i] = 2
		}
		masks[5000] = 1
		s := rows(n, 1, masks...)
		l := make([]api.Output, many)
		for i := range l {
			for signal := range signals {
				lo, _ := rangeOf(s, i, signal)
				l[i].Values[signal], l[i].Status[signal] = lo, api.Status{In: 15, Latched: 2}
			}
		}
		if got, e := All(s, l); len(got) != 0 || e != 0 || !Good(s, l) {
			t.Fatalf("of %d: %v, %d", n, got, e)
		}
		for _, x := range [][2]int{{-1, 0}, {0, 1}, {1, 2}, {4999, 5000}, {5000, 0}, {5001, 1}, {9998, 4998}, {9999, 4999}, {10000, 0}} {
			if got := Row(s, x[0], 1); got != x[1] {
				t.Errorf("of %d: Row(%d, 1) %d, not %d", n, x[0], got, x[1])
			}
		}
		l[9999].Status[7].In, l[0].Values[3], l[5001].Status[1].Latched, l[9998].Status[1].Latched = 11, 5000, 0, 0
		want := []Complaint{{0, 3, "high"}, {9998, 1, "lost"}, {9999, 7, "out"}}
		if got, e := All(s, l); !slices.Equal(got, want) || e != 0 || Good(s, l) {
			t.Errorf("of %d: %v, %d", n, got, e)
		}
		s.Points, l = append(s.Points, s.Points[9999]), append(l, l[9999])
		refused(t, s, l)
		if got := Row(s, 9999, 1); got != 0 {
			t.Errorf("of too many points: Row %d", got)
		}
	}
}

// P23.1: each output told by none, each of 80000 complained.
func TestMostComplaints(t *testing.T) {
	s := near(3, -1, many)
	l := make([]api.Output, many)
	got, e := All(s, l)
	if len(got) != 8*many || e != 0 || Good(s, l) {
		t.Fatalf("%d, %d", len(got), e)
	}
	for i, x := range got {
		if x != (Complaint{i / 8, i % 8, "out"}) {
			t.Fatalf("%d: %v", i, x)
		}
	}
}

// P23.1: fewer outputs than points, and more, none, and nil.
func TestCounts(t *testing.T) {
	for n := 3; n <= 4; n++ {
		for _, odd := range odds(n) {
			for points := range 5 {
				s := rows(n, odd, []int{0, 255, 255, -1}[:min(points, 4)]...)
				whole := append(fine(s), make([]api.Output, 70)...)
				for outputs := range 70 {
					l := whole[:outputs]
					if outputs == len(s.Points) {
						good(t, s, l)
					} else {
						refused(t, s, l)
						refused(t, s, make([]api.Output, outputs))
					}
				}
				if len(s.Points) > 0 {
					refused(t, s, nil)
				}
			}
		}
	}
}

// P23.2: with something wrong in any places, complaints rise, one of each place at most, whichever words hold.
func TestRising(t *testing.T) {
	for n := 3; n <= 4; n++ {
		for _, odd := range odds(n) {
			s := rows(n, odd, 255, 255, -1, 0, 129)
			for seed := range 40 {
				draw := drawer(3000 + seed)
				l := fine(s)
				places := map[Complaint]bool{}
				for range draw(60) {
					i, signal := draw(len(l)), draw(signals)
					for word, ways := range flaws(s, i, signal) {
						if word != "lost" && draw(3) == 0 {
							ways[draw(len(ways))](&l[i])
							places[Complaint{i, signal, ""}] = true
						}
					}
				}
				got := judged(t, s, l)
				if len(got) != len(places) {
					t.Fatalf("%v of %v", got, places)
				}
				for _, x := range got {
					if !places[Complaint{x.Point, x.Signal, ""}] {
						t.Fatalf("%v of %v", x, places)
					}
				}
			}
		}
	}
}

// P23.3: good outputs stay good with any one value moved nearer to its range, or within it.
func TestNearer(t *testing.T) {
	for n := 3; n <= 4; n++ {
		for _, odd := range odds(n) {
			s := rows(n, odd, 255, 3, -1)
			l := fine(s)
			good(t, s, l)
			for i := range l {
				for signal := range signals {
					lo, hi := rangeOf(s, i, signal)
					away := func(n int) int { return max(lo-n, n-hi, 0) }
					was := away(l[i].Values[signal])
					for value := lo - 12; value <= hi+12; value++ {
						moved := with(l, i, func(o *api.Output) { o.Values[signal] = value })
						if away(value) <= was && !Good(s, moved) {
							t.Fatalf("of %+v: Good with %d, moved to %d, of %d to %d", s, l[i].Values[signal], value, lo, hi)
						}
						judged(t, s, moved)
					}
				}
			}
		}
	}
}

// P23.1, rule 4: what is answered is new memory; what is handed in stays, and what lies behind lengths is neither read nor written.
func TestNewMemory(t *testing.T) {
	for n := 3; n <= 4; n++ {
		for _, odd := range odds(n) {
			s := rows(n, odd, 255, 255, -1, 0, 0)
			l := fine(s)
			s.Points, l = s.Points[:3], l[:3]
			l[1].Status[3].In = 0
			keptScene, keptOutputs := copied(s), slices.Clone(l)
			behindPoints, behindOutputs := slices.Clone(s.Points[3:5]), slices.Clone(l[3:5])
			first, want := judged(t, s, l), judged(t, s, l)
			rowed(t, s)
			for i := range first[:cap(first)] {
				first[:cap(first)][i] = Complaint{9, 9, "x"}
			}
			if got := judged(t, s, l); !slices.Equal(got, want) {
				t.Fatalf("%v, not %v", got, want)
			}
			if !reflect.DeepEqual(s, keptScene) || !slices.Equal(l, keptOutputs) || !reflect.DeepEqual(s.Points[3:5], behindPoints) || !slices.Equal(l[3:5], behindOutputs) {
				t.Fatalf("of %d, odd %d: what was handed in is changed", n, odd)
			}
			// What lies behind is anything.
			for i := 3; i < 5; i++ {
				s.Points[:5][i], l[:5][i] = scene.Point{Truth: all(most)}, api.Output{}
			}
			if got := judged(t, s, l); !slices.Equal(got, want) {
				t.Fatalf("%v, not %v", got, want)
			}
		}
	}
}

// P2: what is answered hangs on the arguments alone: asked again, of others between, and beside each other.
func TestAskedAgain(t *testing.T) {
	s, other := rows(4, 2, 255, 255, -1, 0), plain(3, 0, 9)
	l := fine(s)
	l[3].Values[7], l[2].Status[1].Latched = 4000, 0
	want := []Complaint{{2, 1, "lost"}, {3, 7, "high"}}
	var group sync.WaitGroup
	for range 8 {
		group.Go(func() {
			for range 30 {
				if got, e := All(s, l); !slices.Equal(got, want) || e != 0 || Good(s, l) {
					t.Errorf("%v, %d", got, e)
				}
				if got := Row(s, 2, 6); got != 3 {
					t.Errorf("Row: %d", got)
				}
				if _, e := All(other, l); e != 1 {
					t.Errorf("of fewer outputs than points: %d", e)
				}
				good(t, other, fine(other))
			}
		})
	}
	group.Wait()
}

// P1: any arguments, of zeros too.
func TestAnything(t *testing.T) {
	refused(t, scene.Scene{}, nil)
	refused(t, scene.Scene{Points: make([]scene.Point, 3)}, make([]api.Output, 3))
	rowed(t, scene.Scene{})
	rowed(t, scene.Scene{Points: make([]scene.Point, 3)})
	s := near(3, 1, 2)
	s.Points = make([]scene.Point, 2)
	judged(t, s, make([]api.Output, 2))
	rowed(t, s)
}
