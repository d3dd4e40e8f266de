package report

import (
	"maps"
	"slices"
	"testing"

	"rudder/api"
	"rudder/judge"
	"rudder/scene"
	"rudder/script"
)

// notes are some that may be, of each kind.
func notes() []api.Note {
	return []api.Note{{}, {Cycle: 12, Channel: 3, Signal: 7, Kind: 2, Trips: 34}, {Cycle: 1 << 40, Channel: 1, Signal: 2, Kind: 1, Trips: 63}, {Cycle: 5, Channel: 2, Trips: 1}}
}

// wrongNotes may not be.
func wrongNotes() []api.Note {
	return []api.Note{{Cycle: -1}, {Channel: 4}, {Channel: -1}, {Signal: 8}, {Signal: -1}, {Kind: 3}, {Kind: -1}, {Trips: 64}, {Trips: -1}, {Cycle: -1 << 63, Kind: 1 << 62}}
}

// told holds a run's report against the words.
func told(t testing.TB, r script.Result) []string {
	t.Helper()
	got := Run(r)
	if want := runOf(r); !slices.Equal(got, want) {
		t.Fatalf("Run(%+v) = %q, not %q", r, got, want)
	}
	return got
}

// P24.1: what is written out: outputs, and notes, some of which may not be, and how many are lost.
func TestRunWrittenOut(t *testing.T) {
	got := told(t, script.Result{
		Bytes:   []byte{1, 2, 3},
		Outputs: []api.Output{some(), {}, with(some(), func(o *api.Output) { o.Seq = 0 })},
		Notes:   []api.Note{{Kind: 3}, {Cycle: 12, Channel: 3, Signal: 7, Kind: 2, Trips: 34}, {}, {Trips: 64}, {Cycle: 1, Kind: 1, Trips: 5}},
		Lost:    10,
	})
	want := []string{someLine, "", "0" + someLine[3:], "", "cycle 12 channel 3 signal 7 out range+mis", "cycle 0 channel 0 signal 0 latched -", "", "cycle 1 channel 0 signal 0 back frame+spike", "lost 10"}
	if !slices.Equal(got, want) {
		t.Errorf("%q, not %q", got, want)
	}
}

// P24.1: no outputs and some, no notes and some, with lost ones and without, each with each.
func TestRunParts(t *testing.T) {
	for _, outputs := range [][]api.Output{nil, {}, {some()}, {{}}, {some(), some()}, {{}, some(), {}}, make([]api.Output, 40)} {
		for _, l := range [][]api.Note{nil, {}, notes(), notes()[1:2], wrongNotes(), append(notes(), wrongNotes()...), append(wrongNotes(), notes()...)} {
			for _, lost := range []int{0, 1, 2, 9, 10, 11, 99, 100, 12345, 1 << 32, 1<<63 - 1, -1, -10, -1 << 63} {
				got := told(t, script.Result{Outputs: outputs, Notes: l, Lost: lost})
				if n := len(outputs) + len(l); len(got) != n && (lost < 1 || len(got) != n+1) {
					t.Fatalf("%q", got)
				}
			}
		}
	}
	if got := Run(script.Result{}); len(got) != 0 {
		t.Errorf("of nothing: %q", got)
	}
	if got := Run(script.Result{Bytes: make([]byte, 540)}); len(got) != 0 {
		t.Errorf("of bytes alone: %q", got)
	}
	for _, n := range wrongNotes() {
		if got := Run(script.Result{Notes: []api.Note{n}}); !slices.Equal(got, []string{""}) {
			t.Errorf("%+v: %q", n, got)
		}
	}
}

// P24.1: runs of scripts: of none, one and many cycles, with notes, with lost ones, and with the odd channel in any state.
func TestRunOfScripts(t *testing.T) {
	lost, noted := 0, 0
	for n := 3; n <= 4; n++ {
		for _, odd := range odds(n) {
			for _, points := range []int{0, 1, 2, 40, 300} {
				s := plain(n, odd, points)
				if odd >= 0 {
					s = sends(s, func(i int, truth [signals]int) api.Slot { return slotOf(odd, i, all(i%2*900)) })
				}
				cycles, _ := scene.Cycles(s)
				if points == 300 {
					cycles[200], cycles[201] = api.Cycle{}, api.Cycle{} // nothing comes of any
				}
				r, e := script.Run(s.Config, cycles)
				if e != 0 {
					t.Fatalf("the test's own: %d", e)
				}
				l := told(t, r)
				noted += len(r.Notes)
				lost += r.Lost
				for i := range points {
					values, seq, e := Parse(l[i])
					if values != r.Outputs[i].Values || seq != i || e != 0 {
						t.Fatalf("Parse(%q) = %v, %d, %d", l[i], values, seq, e)
					}
				}
			}
		}
	}
	if noted < 100 || lost < 50 {
		t.Errorf("just %d notes, %d lost", noted, lost)
	}
}

// P24.1, rule 4: what is answered is new memory; a result is as it was, and what is behind its lists' length is not asked.
func TestRunMemory(t *testing.T) {
	outputs, l := []api.Output{some(), {}, some()}, append(notes(), wrongNotes()...)
	r := script.Result{Bytes: []byte{1}, Outputs: outputs[:2], Notes: l[:3], Lost: 4}
	want := runOf(r)
	for range 3 {
		got := told(t, r)
		if len(got) != 6 {
			t.Fatalf("%q", got)
		}
		for i := range got {
			got[i] = "other"
		}
		_ = append(got, "more")
	}
	if !slices.Equal(Run(r), want) || !slices.Equal(outputs, []api.Output{some(), {}, some()}) || !slices.Equal(l, append(notes(), wrongNotes()...)) || r.Lost != 4 || !slices.Equal(r.Bytes, []byte{1}) {
		t.Errorf("%+v", r)
	}
}

// scened holds a scene's report, by outputs that fit it, against the complaints, and answers it.
func scened(t testing.TB, s scene.Scene, l []api.Output) []string {
	t.Helper()
	complaints, e := judge.All(s, l)
	if e != 0 {
		t.Fatalf("the test's own: %d", e)
	}
	got, e := Scene(s, l)
	if e != 0 || !slices.Equal(got, reportOf(complaints)) {
		t.Fatalf("of %+v, %+v: %q, %d, not %q", s, l, got, e, reportOf(complaints))
	}
	return got
}

// says holds that a scene's report, by outputs, is this.
func says(t testing.TB, s scene.Scene, l []api.Output, want ...string) {
	t.Helper()
	if got := scened(t, s, l); !slices.Equal(got, want) {
		t.Fatalf("%q, not %q", got, want)
	}
}

// P24.1: nothing to complain: with no points, one, and many.
func TestSceneGood(t *testing.T) {
	for n := 3; n <= 4; n++ {
		for _, odd := range odds(n) {
			for _, points := range []int{0, 1, 2, 50} {
				s := plain(n, odd, points)
				says(t, s, fine(s), "good")
			}
			for _, l := range [][]api.Output{nil, {}, make([]api.Output, 3)[:0]} {
				says(t, plain(n, odd, 0), l, "good")
			}
		}
	}
}

// P24.1: each of the six words alone, of each point and signal, and all at once, in their order.
func TestSceneWords(t *testing.T) {
	for n := 3; n <= 4; n++ {
		for odd := range n {
			s := sends(plain(n, odd, 3), func(int, [signals]int) api.Slot { return api.Slot{} })
			s.Config.Latch = 1
			healthy := 1 << ((odd + 1) % n)
			flaws := map[string]func(o *api.Output, signal int){
				"fail":    func(o *api.Output, signal int) { o.Status[signal].Fail = true },
				"out":     func(o *api.Output, signal int) { o.Status[signal].In -= healthy },
				"latched": func(o *api.Output, signal int) { o.Status[signal].Latched += healthy },
				"low":     func(o *api.Output, signal int) { o.Values[signal] -= 11 },
				"high":    func(o *api.Output, signal int) { o.Values[signal] += 40 },
				"lost":    func(o *api.Output, signal int) { o.Status[signal].Latched = 0 },
			}
			l := fine(s)
			says(t, s, l, "good")
			for i := range l {
				for signal := range signals {
					for word, flaw := range flaws {
						told := slices.Clone(l)
						flaw(&told[i], signal)
						says(t, s, told, "point "+figuresOf(i)+" signal "+figuresOf(signal)+" "+word)
					}
				}
			}
			words := slices.Sorted(maps.Keys(flaws))
			var want []string
			for k := range 12 {
				i, signal := k/6, k%6+k/6*2
				flaws[words[k%6]](&l[i], signal)
				want = append(want, "point "+figuresOf(i)+" signal "+figuresOf(signal)+" "+words[k%6])
			}
			says(t, s, l, want...)
		}
	}
}

// P24.1: a complaint of each signal of each point; the numbers of points have as many figures as they need.
func TestSceneMany(t *testing.T) {
	for _, points := range []int{1, 9, 10, 11, 101, 1001} {
		s := plain(3, -1, points)
		l := scened(t, s, make([]api.Output, points))
		if len(l) != 8*points || l[0] != "point 0 signal 0 out" || l[len(l)-1] != "point "+figuresOf(points-1)+" signal 7 out" {
			t.Fatalf("of %d points: %d lines, %q", points, len(l), l[len(l)-1])
		}
	}
}

// P24.1: of outputs that are not as many as the points, and of scenes with each fault, judge's error.
func TestSceneWrong(t *testing.T) {
	refuses := func(s scene.Scene, l []api.Output) {
		t.Helper()
		if got, e := Scene(s, l); len(got) != 0 || e != api.ErrArg {
			t.Fatalf("of the fault %q, %d points, %d outputs: %q, %d", scene.Fault(s), len(s.Points), len(l), got, e)
		}
	}
	for n := 3; n <= 4; n++ {
		for _, odd := range odds(n) {
			s := plain(n, odd, 3)
			for _, count := range []int{0, 1, 2, 4, 5, 100} {
				refuses(s, make([]api.Output, count))
			}
			refuses(s, nil)
			refuses(s, fine(s)[:2])
			refuses(plain(n, odd, 0), make([]api.Output, 1))
			for word, l := range wrongs(s) {
				for _, change := range l {
					wrong := copied(s)
					change(&wrong)
					if scene.Fault(wrong) != word {
						t.Fatalf("the test's own: %q, not %q", scene.Fault(wrong), word)
					}
					refuses(wrong, fine(s))
					refuses(wrong, make([]api.Output, len(wrong.Points)))
					refuses(wrong, nil)
				}
			}
		}
	}
	refuses(scene.Scene{}, nil)
}

// P24.1, rule 4: a scene's report is new memory, and scene and outputs are as they were.
func TestSceneMemory(t *testing.T) {
	s := sends(plain(4, 2, 4), func(i int, truth [signals]int) api.Slot { return strange(2, truth)[i] })
	l := make([]api.Output, 5)
	before := copied(s)
	for range 3 {
		got := scened(t, s, l[:4])
		if len(got) != 32 {
			t.Fatalf("%q", got)
		}
		for i := range got {
			got[i] = "other"
		}
		nothing := scened(t, s, fine(s))
		nothing[0] = "bad"
	}
	same(t, s, before)
	if !slices.Equal(l, make([]api.Output, 5)) {
		t.Errorf("%+v", l)
	}
}
