package report

import (
	"reflect"
	"slices"
	"sync"
	"testing"

	"rudder/api"
	"rudder/config"
	"rudder/scene"
	"rudder/script"
)

// same holds that a scene is as it was.
func same(t testing.TB, s, before scene.Scene) {
	t.Helper()
	if !reflect.DeepEqual(s, before) {
		t.Fatalf("%+v, not %+v", s, before)
	}
}

// flies holds P24.3 of a right scene, and answers its run.
func flies(t testing.TB, s scene.Scene) script.Result {
	t.Helper()
	if fault := scene.Fault(s); fault != "" {
		t.Fatalf("the test's own: %q", fault)
	}
	got, e := Fly(s)
	if e != api.OK || !slices.Equal(got, []string{"good"}) {
		t.Fatalf("of %+v: %q, %d", s, got, e)
	}
	cycles, _ := scene.Cycles(s)
	r, e := script.Run(s.Config, cycles)
	if e != api.OK {
		t.Fatalf("the test's own: %d", e)
	}
	says(t, s, r.Outputs, "good")
	return r
}

// grounded holds that a scene that is not right does not fly.
func grounded(t testing.TB, s scene.Scene) {
	t.Helper()
	if got, e := Fly(s); len(got) != 0 || e != api.ErrArg || scene.Fault(s) == "" {
		t.Fatalf("of the fault %q: %q, %d", scene.Fault(s), got, e)
	}
}

// ways are what an odd channel may send: what is near, far off, nothing, wrong bytes, and mixes of these.
func ways(odd int) map[string]func(i int, truth [signals]int) api.Slot {
	moved := func(i int, truth [signals]int, by int) api.Slot {
		for signal := range truth {
			truth[signal] += by
		}
		return slotOf(odd, i, truth)
	}
	near := func(i int, truth [signals]int) api.Slot { return moved(i, truth, i%13-6) }
	bound := 25 + 6 + 2*3 + 7 // Mis, E, twice Auth, and Clip
	far := func(i int, truth [signals]int) api.Slot { return moved(i, truth, bound+1) }
	m := map[string]func(i int, truth [signals]int) api.Slot{
		"near":      near,
		"far":       far,
		"far below": func(i int, truth [signals]int) api.Slot { return moved(i, truth, -bound-1) },
		"at bound":  func(i int, truth [signals]int) api.Slot { return moved(i, truth, bound*(1-i/3%2*2)) },
		"least":     func(i int, truth [signals]int) api.Slot { return slotOf(odd, i, all(least)) },
		"most":      func(i int, truth [signals]int) api.Slot { return slotOf(odd, i, all(most)) },
		"ends":      func(i int, truth [signals]int) api.Slot { return slotOf(odd, i, all([]int{least, most}[i%2])) },
		"frozen":    func(i int, truth [signals]int) api.Slot { return slotOf(odd, i, all(4)) },
		"drifts":    func(i int, truth [signals]int) api.Slot { return moved(i, truth, i) },
		"stale":     func(i int, truth [signals]int) api.Slot { return slotOf(odd, 7, truth) },
		"backward":  func(i int, truth [signals]int) api.Slot { return slotOf(odd, turn-1-i, truth) },
		"one far": func(i int, truth [signals]int) api.Slot {
			truth[i/5%8] += 10 * bound
			return slotOf(odd, i, truth)
		},
		"now and then": func(i int, truth [signals]int) api.Slot {
			if i%5 < 2 {
				return far(i, truth)
			}
			return near(i, truth)
		},
		"never again": func(i int, truth [signals]int) api.Slot {
			if i > 20 {
				return api.Slot{}
			}
			return near(i, truth)
		},
		"mixed": func(i int, truth [signals]int) api.Slot {
			l := append(strange(odd, truth), far(i, truth), near(i, truth))
			return l[i*7%len(l)]
		},
	}
	for k := range strange(odd, all(0)) {
		name := figuresOf(k)
		m["strange "+name] = func(i int, truth [signals]int) api.Slot { return strange(odd, truth)[k] }
		m["at times strange "+name] = func(i int, truth [signals]int) api.Slot {
			if i/4%3 == 1 {
				return strange(odd, truth)[k]
			}
			return near(i, truth)
		}
	}
	return m
}

// foundOut are some of these ways: Latch is 2.
var foundOut = []string{"far", "far below", "least", "most", "ends", "stale", "backward", "now and then", "never again", "mixed", "strange 0", "strange 4", "strange 6", "strange 9", "strange 11", "strange 12", "at times strange 0", "at times strange 11"}

// P24.3: scenes of no points, one, and many; of three channels and four; with no odd channel and each one, whatever that one sends: who is far off, or sends no frame, is found out, who is near is not.
func TestFlies(t *testing.T) {
	for n := 3; n <= 4; n++ {
		for _, odd := range odds(n) {
			for _, points := range []int{0, 1, 2, 3, 60} {
				s := plain(n, odd, points)
				r := flies(t, s)
				if len(r.Outputs) != points || len(r.Notes) != 0 {
					t.Fatalf("of %d, odd %d, %d points: %+v", n, odd, points, r)
				}
				if odd < 0 {
					continue
				}
				for name, way := range ways(odd) {
					r := flies(t, sends(s, way))
					if found := len(r.Notes) > 0; points == 60 && (found && name == "near" || !found && slices.Contains(foundOut, name)) {
						t.Fatalf("of %d, odd %d, %q: found out %t", n, odd, name, found)
					}
				}
			}
		}
	}
}

// P24.3: each Latch, Clean and Budget at its ends, with an odd channel that is far off for a while, and near for a while, in turn.
func TestFliesByRules(t *testing.T) {
	for _, x := range []struct{ latch, clean, budget, limit int }{{1, 1, 0, 1}, {1, 1, 10, 8}, {2, 3, 2, 4}, {100, 1, 10, 1}, {3, 1000, 1, 8}, {7, 5, 5, 2}} {
		for n := 3; n <= 4; n++ {
			for odd := range n {
				for _, length := range []int{1, 2, x.latch, x.latch + x.clean} {
					s := sends(plain(n, odd, 250), func(i int, truth [signals]int) api.Slot {
						if i/length%2 == 0 {
							return api.Slot{}
						}
						return slotOf(odd, i, truth)
					})
					s.Config.Latch, s.Config.Clean, s.Config.Budget, s.Config.Limit = x.latch, x.clean, x.budget, x.limit
					flies(t, s)
				}
			}
		}
	}
}

// P24.3: the default configurations, with the error and the rate that they cover, and truths up and down by that rate, up to the ends of the range.
func TestFliesByDefault(t *testing.T) {
	for n := 3; n <= 4; n++ {
		c, _ := config.Default(n)
		c.Lo, c.Hi = -2000, 2000
		for _, odd := range odds(n) {
			s := scene.Scene{Config: c, E: 75, R: 250, Odd: odd}
			truth, by := 0, 250
			for i := range 300 {
				if truth+by > 1925 || truth+by < -1925 {
					by = -by
				}
				truth += by
				p := scene.Point{Truth: all(truth)}
				for channel := range p.Off {
					for signal := range p.Off[channel] {
						p.Off[channel][signal] = 75 * (1 - 2*((i/(signal+1)+channel)%2))
					}
				}
				if odd >= 0 {
					p.Slot = slotOf(odd, i, all(truth+i%2*(i*3-400)))
				}
				s.Points = append(s.Points, p)
			}
			flies(t, s)
		}
	}
}

// P24.3: as many points as a scene may have, and one more.
func TestMostPoints(t *testing.T) {
	for n := 3; n <= 4; n++ {
		s := plain(n, n-1, many)
		s = sends(s, func(i int, truth [signals]int) api.Slot {
			if i/50%2 == 1 {
				return strange(n-1, truth)[i%13]
			}
			return slotOf(n-1, i, truth)
		})
		if r := flies(t, s); len(r.Outputs) != many {
			t.Fatalf("%d outputs", len(r.Outputs))
		}
		s.Points = append(s.Points, s.Points[many-2])
		grounded(t, s)
	}
}

// P24.1: scenes that are wrong, in each of the six ways, and of zeros.
func TestWrongScenes(t *testing.T) {
	for n := 3; n <= 4; n++ {
		for _, odd := range odds(n) {
			s := plain(n, odd, 3)
			all := wrongs(s)
			for word, l := range all {
				for _, change := range l {
					wrong := copied(s)
					change(&wrong)
					if scene.Fault(wrong) != word {
						t.Fatalf("the test's own: %q, not %q", scene.Fault(wrong), word)
					}
					grounded(t, wrong)
				}
			}
			if len(all) != 6 {
				t.Fatalf("the test's own: %d ways", len(all))
			}
		}
	}
	grounded(t, scene.Scene{})
	grounded(t, scene.Scene{Odd: -1, Points: make([]scene.Point, 2)})
}

// P24.3, P2, rule 4: it flies the same again, and beside itself; what is answered is new memory, and a scene is as it was, with what is behind its points.
func TestFlyMemory(t *testing.T) {
	s := sends(plain(4, 3, 60), ways(3)["mixed"])
	whole := copied(s)
	s.Points = s.Points[:50]
	before := copied(s)
	var wait sync.WaitGroup
	for range 8 {
		wait.Go(func() {
			for range 3 {
				got, e := Fly(s)
				if e != 0 || !slices.Equal(got, []string{"good"}) {
					t.Errorf("%q, %d", got, e)
					return
				}
				got[0] = "bad"
				_ = append(got, "worse")
			}
		})
	}
	wait.Wait()
	same(t, s, before)
	s.Points = s.Points[:60]
	same(t, s, whole)
}
