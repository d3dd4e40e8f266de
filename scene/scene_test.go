package scene

import (
	"math"
	"reflect"
	"slices"
	"sync"
	"testing"

	"rudder/api"
	"rudder/config"
)

// The signatures that other layers call, and what a point, and a scene, have.
var (
	_ func(s Scene) string                    = Fault
	_ func(s Scene) ([]api.Cycle, api.Errno)  = Cycles
	_ func(s Scene, i, signal int) (int, int) = Range
	_ func(s Scene, i, signal int) bool       = Far

	_ = Point{Truth: [8]int{}, Off: [4][8]int{}, Slot: api.Slot{}}
	_ = Scene{Config: api.Config{}, E: int(0), R: int(0), Odd: int(0), Seqs: [4]int{}, Points: []Point(nil)}
)

// outside are numbers of which none is an odd channel, a frame's number, or a truth of these scenes; some have the lower bits of one that is.
var outside = []int{-2, -3, -1 << 16, -1 << 31, -1<<31 - 1, -1 << 32, 1<<32 - 2, -1<<32 - 2, math.MinInt, math.MinInt + 1, math.MaxInt, 1 << 32, 1<<32 + 1, 1<<40 + 1, 1 << 62}

// inOrder are the faults.
var inOrder = []string{"cover", "odd", "number", "points", "truth", "off"}

// P22.1: what is written out: two channels tell two points, the third one sends nothing that is a frame.
func TestWrittenOut(t *testing.T) {
	s := Scene{
		Config: api.Config{N: 3, Lo: -100, Hi: 100, Safe: 5, Step: 40, Stuck: 20, Window: 3, Drift: 30, Mis: 20, Auth: 2, Clip: 4, Latch: 2, Clean: 2, Budget: 1, Limit: 4, Weights: [4]int{1, 1, 2}},
		E:      2, R: 5, Odd: 2, Seqs: [4]int{65535, 258, 3},
		Points: []Point{
			{Truth: [8]int{0: 7, 7: -98}, Off: [4][8]int{0: {0: 1, 7: -2}, 1: {0: -2}, 2: {0: 90}}, Slot: api.Slot{Is: true, Bytes: []byte{1, 2}}},
			{Truth: [8]int{0: 12, 7: -93}, Off: [4][8]int{0: {0: 2}, 1: {0: 1}}},
		},
	}
	right(t, s)
	l := sends(t, s)
	zeros := func(n int) []byte { return make([]byte, n) }
	for i, want := range [][]byte{
		slices.Concat([]byte{165, 0, 255, 255, 0, 0, 0, 8}, zeros(24), []byte{255, 255, 255, 156}),
		slices.Concat([]byte{165, 1, 1, 2, 0, 0, 0, 5}, zeros(24), []byte{255, 255, 255, 158}),
		slices.Concat([]byte{165, 0, 0, 0, 0, 0, 0, 14}, zeros(24), []byte{255, 255, 255, 163}),
		slices.Concat([]byte{165, 1, 1, 3, 0, 0, 0, 13}, zeros(24), []byte{255, 255, 255, 163}),
	} {
		want = append(want, byte(sumOf(want)>>8), byte(sumOf(want)))
		if got := l[i/2][i%2]; !sameSlot(got, api.Slot{Is: true, Bytes: want}) {
			t.Errorf("point %d, channel %d: %v, not %v", i/2, i%2, got, want)
		}
	}
	if !sameSlot(l[0][2], api.Slot{Is: true, Bytes: []byte{1, 2}}) || !sameSlot(l[1][2], api.Slot{}) || !sameSlot(l[0][3], api.Slot{}) || !sameSlot(l[1][3], api.Slot{}) {
		t.Errorf("%v", l)
	}
	for _, x := range []struct{ i, signal, lo, hi int }{{0, 0, 5, 8}, {0, 1, 0, 0}, {0, 7, -100, -98}, {1, 0, 13, 14}, {1, 7, -93, -93}} {
		if lo, hi := Range(s, x.i, x.signal); lo != x.lo || hi != x.hi || !Far(s, x.i, x.signal) {
			t.Errorf("%+v: %d, %d", x, lo, hi)
		}
	}
}

// P22.1, P22.2: right scenes of no points, of one, of some, of three and of four channels, with no odd channel, and with each one.
func TestRight(t *testing.T) {
	for n := 3; n <= 4; n++ {
		for _, odd := range odds(n) {
			for _, points := range []int{0, 1, 2, 3, 50} {
				right(t, plain(n, odd, points))
			}
		}
	}
}

// P22.1: with no points there are no cycles, and no error, whether the list is nil or not, or has some behind its length.
func TestNoPoints(t *testing.T) {
	for n := 3; n <= 4; n++ {
		for _, odd := range odds(n) {
			for _, l := range [][]Point{nil, {}, plain(n, odd, 5).Points[:0], plain(n, odd, 5).Points[5:], make([]Point, 0, 9)} {
				s := plain(n, odd, 0)
				s.Points = l
				right(t, s)
			}
		}
	}
}

// P22.1: as many points as there may be, one more, far more; as many are all there, and their numbers go round.
func TestMostPoints(t *testing.T) {
	for n := 3; n <= 4; n++ {
		for _, odd := range odds(n) {
			s := plain(n, odd, many)
			follows(t, s, sends(t, s))
			for _, i := range []int{-1, 0, 1, 9998, 9999, 10000, 10001} {
				seen(t, s, i, 3)
			}
			s.Points = append(s.Points, s.Points[0])
			wrong(t, s, "points")
		}
		s := plain(n, 1, many)
		s.Points = append(s.Points, make([]Point, 65536+5-many)...)
		wrong(t, s, "points")
	}
}

// does are one way, or more, in which a scene gets each fault, in their order.
func does(s *Scene) [][]func(s *Scene) {
	last := len(s.Points) - 1
	return [][]func(s *Scene){
		{
			func(s *Scene) { s.E = -1 },
			func(s *Scene) { s.R = -1 },
			func(s *Scene) { s.R = 1 << 31 },
			func(s *Scene) { s.Config.Mis = 0 },
			func(s *Scene) { s.Config.Lag = 9 },
			func(s *Scene) { s.Config = api.Config{} },
		},
		{
			func(s *Scene) { s.Odd = -2 },
			func(s *Scene) { s.Odd = 4 },
			func(s *Scene) { s.Odd = math.MaxInt },
			func(s *Scene) { s.Odd = math.MinInt },
		},
		{
			func(s *Scene) { s.Seqs[0] = -1 },
			func(s *Scene) { s.Seqs[1] = 65536 },
			func(s *Scene) { s.Seqs[2] = math.MinInt },
		},
		{
			func(s *Scene) { s.Points = append(s.Points, make([]Point, many)...) },
			func(s *Scene) { s.Points = append(make([]Point, many), s.Points...) },
		},
		{
			func(s *Scene) { s.Points[last].Truth[7] = 995 },
			func(s *Scene) { s.Points[0].Truth[0] = -995 },
			func(s *Scene) { s.Points[last].Truth[3] += 100 },
			func(s *Scene) { s.Points[last].Truth[3] = math.MinInt },
		},
		{
			func(s *Scene) { s.Points[0].Off[0][0], s.Points[0].Off[2][0] = 7, 7 },
			func(s *Scene) { s.Points[last].Off[1][7], s.Points[last].Off[2][0] = -7, -7 },
			func(s *Scene) { s.Points[last].Off[1][3], s.Points[0].Off[2][0] = math.MaxInt, math.MinInt },
		},
	}
}

// P22.1: each fault alone, and any of them together, of which the first one is told: all 63 sets, each by some of its ways.
func TestFaultsInOrder(t *testing.T) {
	for n := 3; n <= 4; n++ {
		for _, odd := range odds(n) {
			draw := drawer(100*n + odd)
			base := plain(n, odd, 4)
			ways := does(&base)
			for set := 1; set < 64; set++ {
				for range 2 {
					s := copied(base)
					first := ""
					// What is done to the points is done ahead of that which makes them more.
					for _, at := range []int{5, 4, 3, 2, 1, 0} {
						if set>>at&1 == 1 {
							ways[at][draw(len(ways[at]))](&s)
							first = inOrder[at]
						}
					}
					wrong(t, s, first)
				}
			}
			for at, l := range ways {
				for _, do := range l {
					wrong(t, changed(base, do), inOrder[at])
				}
			}
		}
	}
}

// P22.1: a truth's fault in the last point comes ahead of what is off in the first one, and in each one between.
func TestTruthAheadOfOff(t *testing.T) {
	base := plain(4, 2, 6)
	for off := range base.Points {
		wrong(t, changed(base, func(s *Scene) { s.Points[off].Off[1][4] = 7 }), "off")
		for truth := range base.Points {
			wrong(t, changed(base, func(s *Scene) { s.Points[off].Off[1][4], s.Points[truth].Truth[5] = 7, -995 }), "truth")
			wrong(t, changed(base, func(s *Scene) { s.Points[off].Off[1][4], s.Points[truth].Truth[5] = -7, 995 }), "truth")
		}
	}
}

// P22.1: an error, and a rate, that the configuration covers just so, and one more; those that no configuration covers.
func TestCover(t *testing.T) {
	for n := 3; n <= 4; n++ {
		base := plain(n, 1, 3)
		for _, change := range []func(s *Scene){
			func(s *Scene) { s.E = 7 },
			func(s *Scene) { s.R = 10 },
			func(s *Scene) { s.E, s.R = 7, 0 },
			func(s *Scene) { s.E = -1 },
			func(s *Scene) { s.R = -1 },
			func(s *Scene) { s.Config.Mis-- },
			func(s *Scene) { s.Config.Step-- },
			func(s *Scene) { s.Config.Drift-- },
			func(s *Scene) { s.Config.Stuck-- },
			func(s *Scene) { s.Config.Auth++ },
			func(s *Scene) { s.Config.Clip++ },
			func(s *Scene) { s.Config.Lo, s.Config.Hi, s.Config.Safe = 0, 11, 5 },
			func(s *Scene) { s.E = math.MinInt },
			func(s *Scene) { s.R = math.MinInt },
			func(s *Scene) { s.E = math.MaxInt },
			func(s *Scene) { s.R = math.MaxInt },
			func(s *Scene) { s.E += 1 << 32 },
			func(s *Scene) { s.R -= 1 << 32 },
			func(s *Scene) { s.E ^= math.MinInt },
			func(s *Scene) { s.R ^= math.MinInt },
		} {
			wrong(t, changed(base, change), "cover")
		}
		// One of the two may be greater where what it needs is there.
		for _, change := range []func(s *Scene){
			func(s *Scene) { s.R, s.Config.Step = 10, s.Config.Step+1 },
			func(s *Scene) { s.R, s.Config.Step = farthest, most },
			func(s *Scene) { s.Config.Mis, s.Config.Step, s.Config.Drift, s.Config.Stuck = most, most, most, most },
		} {
			right(t, changed(base, change))
		}
		wrong(t, changed(base, func(s *Scene) { s.R, s.Config.Step = farthest+1, most }), "cover")
	}
}

// P22.1: a configuration that covers an error just so is of no more: its range is as wide as two errors, and one less.
func TestRangeOfTruths(t *testing.T) {
	for n := 3; n <= 4; n++ {
		s := plain(n, -1, 0)
		s.Config.Lo, s.Config.Hi, s.Config.Safe = -10, 2, 0
		s.Points = make([]Point, 3)
		for i := range s.Points {
			s.Points[i].Truth = all(-4)
		}
		right(t, s)
		for i := range s.Points {
			wrong(t, changed(s, func(s *Scene) { s.Points[i].Truth[i] = -3 }), "truth")
			wrong(t, changed(s, func(s *Scene) { s.Points[i].Truth[i] = -5 }), "truth")
		}
		wrong(t, changed(s, func(s *Scene) { s.Config.Hi = 1 }), "cover")
		wrong(t, changed(s, func(s *Scene) { s.Config.Lo = -9 }), "cover")
	}
}

// P22.1: configurations that may not be, each field outside, alone, cover nothing.
func TestWrongConfigs(t *testing.T) {
	for n := 3; n <= 4; n++ {
		base := plain(n, 0, 2)
		for i, change := range []func(c *api.Config){
			func(c *api.Config) { c.N = 2 },
			func(c *api.Config) { c.N = 5 },
			func(c *api.Config) { c.N = 0 },
			func(c *api.Config) { c.N = -1 },
			func(c *api.Config) { c.N = math.MinInt },
			func(c *api.Config) { c.N = math.MaxInt },
			func(c *api.Config) { c.N += 1 << 32 },
			func(c *api.Config) { c.N = 7 - c.N }, // its weights are the other number's
			func(c *api.Config) { c.Lo = least - 1 },
			func(c *api.Config) { c.Hi = most + 1 },
			func(c *api.Config) { c.Hi = c.Lo - 1 },
			func(c *api.Config) { c.Safe = c.Hi + 1 },
			func(c *api.Config) { c.Safe = c.Lo - 1 },
			func(c *api.Config) { c.Step = most + 1 },
			func(c *api.Config) { c.Stuck = most + 1 },
			func(c *api.Config) { c.Window = 17 },
			func(c *api.Config) { c.Window = 1 },
			func(c *api.Config) { c.Drift = most + 1 },
			func(c *api.Config) { c.Lag = 9 },
			func(c *api.Config) { c.Mis = most + 1 },
			func(c *api.Config) { c.Auth = -1 },
			func(c *api.Config) { c.Gain = -1 },
			func(c *api.Config) { c.Clip = -1 },
			func(c *api.Config) { c.Latch = 0 },
			func(c *api.Config) { c.Clean = 1001 },
			func(c *api.Config) { c.Budget = 11 },
			func(c *api.Config) { c.Limit = 0 },
			func(c *api.Config) { c.Weights[2] = 0 },
			func(c *api.Config) { c.Weights[0] = 17 },
			func(c *api.Config) { c.Weights[3] = 20 },
		} {
			s := changed(base, func(s *Scene) { change(&s.Config) })
			if config.Right(s.Config) {
				t.Fatalf("the test's own: %d", i)
			}
			wrong(t, s, "cover")
		}
	}
}

// P22.1: Odd is -1, or a channel that there is; nothing else.
func TestOdd(t *testing.T) {
	for n := 3; n <= 4; n++ {
		base := plain(n, -1, 2)
		for _, odd := range odds(n) {
			right(t, changed(base, func(s *Scene) { s.Odd = odd }))
		}
		for _, odd := range append(outside, n, n+1, 5, 255, 65535, 1<<32+1, -1-1<<32, 1<<32-1) {
			wrong(t, changed(base, func(s *Scene) { s.Odd = odd }), "odd")
		}
	}
}

// P22.1: the first frames' numbers of the channels that there are, the odd one too, are from 0 to 65535; that of another one counts not.
func TestNumbers(t *testing.T) {
	for n := 3; n <= 4; n++ {
		for _, odd := range odds(n) {
			base := plain(n, odd, 3)
			for channel := range channels {
				for _, number := range []int{0, 1, 255, 256, 32767, 32768, 65533, 65534, 65535} {
					right(t, changed(base, func(s *Scene) { s.Seqs[channel] = number }))
				}
				for _, number := range append(outside, -1, 65536, 65537, 131072) {
					s := changed(base, func(s *Scene) { s.Seqs[channel] = number })
					if channel < n {
						wrong(t, s, "number")
					} else {
						right(t, s)
					}
				}
			}
		}
	}
}

// P22.1: truths from Lo and E to Hi less E, and one beyond, of each signal, in the first point, and in all.
func TestTruthsInRange(t *testing.T) {
	for n := 3; n <= 4; n++ {
		base := plain(n, 1, 3)
		for signal := range signals {
			for _, x := range []struct {
				truth int
				word  string
			}{{-994, ""}, {-993, ""}, {993, ""}, {994, ""}, {-995, "truth"}, {-1000, "truth"}, {-1001, "truth"}, {995, "truth"}, {1000, "truth"}, {1001, "truth"}} {
				s := changed(base, func(s *Scene) {
					for i := range s.Points {
						s.Points[i].Truth[signal] = x.truth
					}
				})
				if x.word == "" {
					right(t, s)
				} else {
					wrong(t, s, x.word)
				}
			}
			for i := range base.Points {
				for _, truth := range append(outside, 1<<16*50, -1<<40-1, 1<<41, -1<<41, 1<<32+base.Points[i].Truth[signal], base.Points[i].Truth[signal]-1<<32, base.Points[i].Truth[signal]+1<<62) {
					if truth < -994 || truth > 994 {
						wrong(t, changed(base, func(s *Scene) { s.Points[i].Truth[signal] = truth }), "truth")
					}
				}
			}
		}
	}
}

// P22.1: truths far off in two points in a row, which are near each other, or whose sums would wrap round.
func TestTruthsFarOff(t *testing.T) {
	for _, truth := range []int{math.MinInt, math.MinInt + 1, math.MaxInt - 1, math.MaxInt, 1 << 41, -1 << 41, 1 << 32, -1 << 32, least - 1, most + 1} {
		for next := -1; next <= 1; next++ {
			s := plain(3, -1, 2)
			s.Points[0].Truth[2], s.Points[1].Truth[2] = truth, truth+next
			wrong(t, s, "truth")
		}
	}
}

// P22.1: truths move by R, and by one more, of each signal, in each point, up and down; what they move ahead of the first point counts not.
func TestTruthsMove(t *testing.T) {
	for n := 3; n <= 4; n++ {
		for _, r := range []int{0, 1, 9, 400} {
			base := plain(n, 2, 5)
			base.R, base.Config.Step = r, r+12
			for i := range base.Points {
				base.Points[i].Truth = all(400)
			}
			right(t, base)
			for signal := range signals {
				for i := range base.Points {
					for _, by := range []int{r, -r, r + 1, -r - 1} {
						// One point alone, and all from it on.
						one := changed(base, func(s *Scene) { s.Points[i].Truth[signal] += by })
						from := changed(base, func(s *Scene) {
							for at := i; at < len(s.Points); at++ {
								s.Points[at].Truth[signal] += by
							}
						})
						if by == r || by == -r {
							right(t, one)
							right(t, from)
							continue
						}
						wrong(t, one, "truth")
						if i == 0 {
							right(t, from)
						} else {
							wrong(t, from, "truth")
						}
					}
				}
			}
		}
	}
}

// P22.1: the first point's truths hang on no point ahead; a point's on the one ahead alone, of the same signal.
func TestFirstPoint(t *testing.T) {
	for _, first := range []int{-994, -10, 0, 10, 994} {
		s := plain(3, 0, 1)
		s.Points[0].Truth = all(first)
		right(t, s)
	}
	s := plain(3, -1, 0)
	// It moves by R in each point, and so far more over all.
	for i := range 100 {
		p := Point{Truth: [8]int{9 * i, -9 * i, 500 - 9*i, 9*i - 500, 0, 994, -994, 3}}
		s.Points = append(s.Points, p)
	}
	right(t, s)
	wrong(t, changed(s, func(s *Scene) { s.Points = append(s.Points[:50], s.Points[51:]...) }), "truth")
	wrong(t, changed(s, func(s *Scene) { s.Points[50], s.Points[51] = s.Points[51], s.Points[50] }), "truth")
}

// P22.1: what is off by E, and by one more, of each channel and each signal, in each point; of the odd one, and of those that there are not, it counts not.
func TestOff(t *testing.T) {
	for n := 3; n <= 4; n++ {
		for _, odd := range odds(n) {
			base := plain(n, odd, 3)
			for channel := range channels {
				for signal := range signals {
					for i := range base.Points {
						for _, off := range []int{6, -6, 5, 0} {
							s := changed(base, func(s *Scene) { s.Points[i].Off[channel][signal] = off })
							sends(t, s)
							seen(t, s, i, signal)
						}
						for _, off := range []int{7, -7, 1 << 32, -1 << 32, 1<<32 + 3, 1<<16 + 3, math.MinInt, math.MinInt + 1, math.MaxInt, math.MaxInt - 5, 1 << 62} {
							s := changed(base, func(s *Scene) { s.Points[i].Off[channel][signal] = off })
							if channel >= n || channel == odd {
								sends(t, s)
								seen(t, s, i, signal)
							} else {
								wrong(t, s, "off")
							}
						}
					}
				}
			}
		}
	}
}

// P22.1, P22.2: with the error 0 nobody is off, and the range is the truth alone.
func TestNoError(t *testing.T) {
	for n := 3; n <= 4; n++ {
		s := plain(n, -1, 5)
		s.E, s.Config = 0, tight(n, 0, 9)
		wrong(t, s, "off")
		for i := range s.Points {
			s.Points[i].Off = [4][8]int{}
		}
		right(t, s)
		for i, p := range s.Points {
			for signal, n := range p.Truth {
				if lo, hi := Range(s, i, signal); lo != n || hi != n {
					t.Errorf("Range(%d, %d): %d, %d, not %d", i, signal, lo, hi, n)
				}
			}
		}
		for _, off := range []int{1, -1} {
			for channel := range n {
				wrong(t, changed(s, func(s *Scene) { s.Points[4].Off[channel][7] = off }), "off")
			}
		}
	}
}

// P22.1, P22.2: numbers from which whole rounds are taken: each first number near the end of a round, each channel its own.
func TestRounds(t *testing.T) {
	for n := 3; n <= 4; n++ {
		for _, odd := range odds(n) {
			s := plain(n, odd, 12)
			for first := 65536 - 14; first < 65536; first++ {
				for channel := range s.Seqs {
					s.Seqs[channel] = (first + 5*channel) % turn
				}
				follows(t, s, sends(t, s))
			}
		}
	}
}

// P22.1: the odd channel's slot is sent as it is, whatever it is, and it is far off, if it is no frame of that channel; its number counts not.
func TestOddSlots(t *testing.T) {
	for n := 3; n <= 4; n++ {
		for odd := range n {
			base := plain(n, odd, 3)
			for i := range base.Points {
				none, l := strange(odd, base.Points[i].Truth)
				for at, slot := range l {
					s := changed(base, func(s *Scene) { s.Points[i].Slot = slot })
					c := sends(t, s)
					if !sameSlot(c[i][odd], slot) {
						t.Errorf("of %d, odd %d, slot %d: %v", n, odd, at, c[i][odd])
					}
					for signal := range signals {
						seen(t, s, i, signal)
						if Far(s, i, signal) != (at < none) {
							t.Errorf("of %d, odd %d, slot %d: Far(%d, %d) %t", n, odd, at, i, signal, at >= none)
						}
					}
				}
			}
		}
	}
}

// P22.1: with no odd channel, no slot is looked at, and none is far off.
func TestNoOdd(t *testing.T) {
	for n := 3; n <= 4; n++ {
		for channel := range channels {
			_, l := strange(channel, all(least))
			for _, slot := range l {
				s := plain(n, -1, 2)
				s.Points[1].Slot = slot
				right(t, s)
				for i := -1; i < 3; i++ {
					for signal := -1; signal < 9; signal++ {
						if Far(s, i, signal) {
							t.Errorf("of %d: Far(%d, %d)", n, i, signal)
						}
					}
				}
			}
		}
	}
}

// P22.1: far off is more than Mis, E, twice Auth, and Clip from the truth, to both sides, each signal by its own value.
func TestFarBound(t *testing.T) {
	for n := 3; n <= 4; n++ {
		for odd := range n {
			base := plain(n, odd, 2)
			base.Config.Mis, base.Config.Auth, base.Config.Clip, base.Config.Stuck = 1000, 40, 300, 1000
			const bound = 1000 + 6 + 80 + 300
			for signal := range signals {
				for _, x := range []struct {
					off int
					far bool
				}{{0, false}, {bound - 1, false}, {bound, false}, {bound + 1, true}, {bound + 2, true}, {1 - bound, false}, {-bound, false}, {-bound - 1, true}, {-bound - 2, true}, {1 << 20, true}, {-1 << 20, true}} {
					values := base.Points[1].Truth
					values[signal] += x.off
					s := changed(base, func(s *Scene) { s.Points[1].Slot = slotOf(odd, 9, values) })
					for at := range signals {
						seen(t, s, 1, at)
						if Far(s, 1, at) != (x.far && at == signal) {
							t.Errorf("of %d, odd %d, signal %d off by %d: Far of %d: %t", n, odd, signal, x.off, at, !x.far)
						}
					}
				}
			}
		}
	}
}

// P22.1: the bound has each of its parts: a configuration with one of them greater by 1 has it greater by that, or twice that.
func TestFarParts(t *testing.T) {
	base := plain(3, 1, 1)
	for i := range base.Points {
		base.Points[i].Off = [4][8]int{}
	}
	base.E, base.Config.Mis, base.Config.Stuck = 2, 500, 1000
	const bound = 500 + 2 + 6 + 7
	for _, x := range []struct {
		by     int
		change func(s *Scene)
	}{
		{0, func(s *Scene) {}},
		{1, func(s *Scene) { s.Config.Mis++ }},
		{1, func(s *Scene) { s.E++ }},
		{2, func(s *Scene) { s.Config.Auth++ }},
		{1, func(s *Scene) { s.Config.Clip++ }},
		{0, func(s *Scene) { s.Config.Step++ }},
		{0, func(s *Scene) { s.R-- }},
		{0, func(s *Scene) { s.Config.Stuck++ }},
		{0, func(s *Scene) { s.Config.Drift++ }},
		{0, func(s *Scene) { s.Points[0].Off[1] = all(9) }},
	} {
		for _, way := range []int{1, -1} {
			for beyond := range 2 {
				s := changed(base, x.change)
				values := s.Points[0].Truth
				values[4] += way * (bound + x.by + beyond)
				s.Points[0].Slot = slotOf(1, 0, values)
				seen(t, s, 0, 4)
				if Far(s, 0, 4) != (beyond == 1) {
					t.Errorf("off by %d: %t", values[4]-s.Points[0].Truth[4], beyond == 0)
				}
			}
		}
	}
}

// P22.1: Range and Far of points, and signals, that there are not, answer nothing.
func TestNoSuch(t *testing.T) {
	for n := 3; n <= 4; n++ {
		for _, odd := range odds(n) {
			s := plain(n, odd, 3)
			if odd >= 0 {
				for i := range s.Points {
					s.Points[i].Slot = api.Slot{} // else each one is far off
				}
			}
			for _, i := range append(outside, -1, 3, 4, 1<<32+1) {
				for _, signal := range []int{0, 5, 7, -1, 8} {
					seen(t, s, i, signal)
				}
			}
			for _, signal := range append(outside, -1, 8, 9, 1<<32+1) {
				for _, i := range []int{0, 2, -1, 3} {
					seen(t, s, i, signal)
				}
			}
		}
	}
}

// P22.1: what the odd channel, and a channel that there is not, is off, is in no range.
func TestWhoIsInRange(t *testing.T) {
	for n := 3; n <= 4; n++ {
		for _, odd := range odds(n) {
			for low := range channels {
				for high := range channels {
					s := plain(n, odd, 1)
					s.Points[0].Truth[3] = 100
					for channel := range s.Points[0].Off {
						s.Points[0].Off[channel][3] = 0
					}
					s.Points[0].Off[low][3], s.Points[0].Off[high][3] = -5, 4
					// Others are off by 0; there is always one that tells.
					lo, hi := 100, 100
					if low < n && low != odd && low != high {
						lo = 95
					}
					if high < n && high != odd {
						hi = 104
					}
					if gotLo, gotHi := Range(s, 0, 3); gotLo != lo || gotHi != hi {
						t.Errorf("of %d, odd %d, low %d, high %d: %d, %d, not %d, %d", n, odd, low, high, gotLo, gotHi, lo, hi)
					}
					right(t, s)
				}
			}
		}
	}
}

// P22.1, P22.2: the greatest error, and truths, that a configuration can have: nothing wraps round.
func TestGreatest(t *testing.T) {
	for n := 3; n <= 4; n++ {
		for _, odd := range odds(n) {
			c := tight(n, 0, 0)
			c.Lo, c.Hi, c.Safe = least, most, 0
			c.Step, c.Stuck, c.Drift, c.Mis, c.Auth, c.Clip = most, most, most, most, 0, 0
			const e = (1<<31 - 1) / 4
			s := Scene{Config: c, E: e, R: farthest, Odd: odd}
			for i, p := range []Point{{Truth: all(least + e)}, {Truth: all(least + e + s.R)}, {Truth: all(least + e + 2*s.R)}, {Truth: all(most - e - s.R)}, {Truth: all(most - e)}} {
				for channel := range p.Off {
					p.Off[channel] = all(e * (1 - 2*((i+channel)%2)))
				}
				if odd >= 0 {
					p.Slot = slotOf(odd, 0, all([]int{least, most}[i%2]))
				}
				s.Points = append(s.Points, p)
			}
			right(t, s)
			wrong(t, changed(s, func(s *Scene) { s.Points[0].Truth[1]-- }), "truth")
			wrong(t, changed(s, func(s *Scene) { s.Points[4].Truth[1]++ }), "truth")
			wrong(t, changed(s, func(s *Scene) { s.Points[1].Truth[1]++ }), "truth")
			wrong(t, changed(s, func(s *Scene) { s.E++ }), "cover")
		}
	}
}

// P22.1: a greatest Mis, Auth and Clip: values are at most 2^32 from a truth, and the bound is more than that.
func TestFarGreatest(t *testing.T) {
	s := plain(3, 2, 2)
	s.Config.Lo, s.Config.Hi = least, most
	s.Config.Mis, s.Config.Stuck = most, most
	s.Points[0].Truth, s.Points[1].Truth = all(most-6), all(most-6)
	s.Points[0].Slot, s.Points[1].Slot = slotOf(2, 0, all(least)), slotOf(2, 0, all(-20))
	right(t, s)
	if !Far(s, 0, 0) || Far(s, 1, 0) {
		t.Errorf("%t, %t", Far(s, 0, 0), Far(s, 1, 0))
	}
	s.Config.Mis, s.Config.Auth, s.Config.Clip, s.Config.Stuck = most, 400000000, 400000000, most
	s.E = 0
	for i := range s.Points {
		s.Points[i].Off = [4][8]int{}
		s.Points[i].Truth = all(most)
	}
	right(t, s)
	// The bound is 3347483647, and the first value is 4294967295 from the truth.
	if !Far(s, 0, 7) || Far(s, 1, 7) {
		t.Errorf("%t, %t", Far(s, 0, 7), Far(s, 1, 7))
	}
	for by := range 2 {
		s.Points[0].Slot = slotOf(2, 0, all(most-3347483647-by))
		if Far(s, 0, 3) != (by == 1) {
			t.Errorf("one beyond by %d: %t", by, by == 0)
		}
	}
}

// P22.1, rule 4: what is answered is new memory, each slot's its own, though the scene's slots share theirs; what is handed in stays, and what lies behind lengths is neither read nor written.
func TestNewMemory(t *testing.T) {
	for n := 3; n <= 4; n++ {
		for _, odd := range odds(n) {
			s := plain(n, odd, 6)
			memory := slices.Concat(frameOf(max(odd, 0), 5, all(4)), []byte{1, 2, 3})
			before := slices.Clone(memory)
			for i := range s.Points {
				s.Points[i].Slot = api.Slot{Is: true, Bytes: memory[:size-i/4]}
			}
			s.Points = s.Points[:5]
			kept := copied(s)
			behind := s.Points[:6][5]
			l := sends(t, s)
			want := sends(t, kept)
			for i := range s.Points {
				for signal := range signals {
					seen(t, s, i, signal)
				}
			}
			if !slices.Equal(memory, before) || !reflect.DeepEqual(s, kept) || !reflect.DeepEqual(s.Points[:6][5], behind) {
				t.Fatalf("of %d, odd %d: what was handed in is changed", n, odd)
			}
			for i := range l {
				for channel, slot := range l[i] {
					b := slot.Bytes[:cap(slot.Bytes)]
					for at := range b {
						b[at]++
					}
					want[i][channel] = api.Slot{}
					l[i][channel] = api.Slot{}
					if !sameCycles(l, want) || !slices.Equal(memory, before) {
						t.Fatalf("of %d, odd %d: the bytes of point %d, channel %d, are another one's too", n, odd, i, channel)
					}
				}
			}
		}
	}
}

// P22.1: a change of the bytes behind a call changes nothing of what it answered, and nothing is kept from call to call.
func TestNothingKept(t *testing.T) {
	for n := 3; n <= 4; n++ {
		for _, odd := range odds(n) {
			s := plain(n, odd, 30)
			want := sends(t, copied(s))
			l := sends(t, s)
			for i := range s.Points {
				for at := range s.Points[i].Slot.Bytes {
					s.Points[i].Slot.Bytes[at] ^= 255
				}
				s.Points[i].Truth = all(50)
			}
			if !sameCycles(l, want) {
				t.Fatalf("of %d, odd %d: changed", n, odd)
			}
			right(t, s) // by what it is now
		}
	}
}

// P1: nothing of a scene is anything that may be.
func TestAnything(t *testing.T) {
	wrong(t, Scene{}, "cover")
	wrong(t, Scene{Points: make([]Point, 3)}, "cover")
	wrong(t, Scene{Config: api.Config{N: math.MaxInt}, E: math.MaxInt, R: math.MinInt, Odd: math.MinInt, Points: make([]Point, 20000)}, "cover")
	draw := drawer(3)
	for range 3000 {
		s := plain(3+draw(2), draw(4)-1, draw(4))
		for range 1 + draw(4) {
			anything(draw, &s)
		}
		word := faultOf(s)
		if word == "" {
			right(t, s)
		} else {
			wrong(t, s, word)
		}
		seen(t, s, wide(draw), wide(draw))
		seen(t, s, draw(6)-1, wide(draw))
		seen(t, s, wide(draw), draw(10)-1)
	}
}

// P2: the same is answered when it is asked again, behind other calls, and beside each other.
func TestAgainAndBeside(t *testing.T) {
	var l []Scene
	for n := 3; n <= 4; n++ {
		for _, odd := range odds(n) {
			l = append(l, plain(n, odd, 20), changed(plain(n, odd, 20), func(s *Scene) { s.Points[19].Truth[0] = 999 }))
		}
	}
	ask := func() []any {
		var out []any
		for _, s := range l {
			c, e := Cycles(s)
			lo, hi := Range(s, 7, 3)
			out = append(out, Fault(s), c, e, lo, hi, Far(s, 7, 3))
		}
		return out
	}
	want := ask()
	var group sync.WaitGroup
	for range 8 {
		group.Go(func() {
			for range 5 {
				if !reflect.DeepEqual(ask(), want) {
					t.Error("answers differ")
				}
			}
		})
	}
	group.Wait()
}
