package status

import (
	"math"
	"slices"
	"strconv"
	"strings"
	"testing"

	"rudder/api"
	"rudder/word"
)

// The signatures that other layers call.
var (
	_ func(s api.Status) bool             = Right
	_ func(s api.Status) (int, api.Errno) = Word
	_ func(n int) (api.Status, api.Errno) = Parse
	_ func(s api.Status) string           = Mode
	_ func(s api.Status) string           = Text
)

// How many masks of channels, and how many statuses, there are, written out so that a wrong constant of the package does not hide itself.
const (
	masks    = 16
	statuses = 768
)

// lists are the channels of each mask, rising, as a text tells them.
func lists() []string {
	return []string{"-", "0", "1", "01", "2", "02", "12", "012", "3", "03", "13", "013", "23", "023", "123", "0123"}
}

// modesOf are the modes of each mask of the channels that are in.
func modesOf() []string {
	return []string{"hold", "single", "single", "duplex", "single", "duplex", "duplex", "triple", "single", "duplex", "duplex", "triple", "duplex", "triple", "triple", "quad"}
}

// mayBe tells whether a status may be, by the document's words.
func mayBe(s api.Status) bool {
	if s.In < 0 || s.In > 15 || s.Latched < 0 || s.Latched > 15 || s.Fail != (s.In == 0) {
		return false
	}
	switch s.Suspect {
	case -1:
		return true
	case 0, 1, 2, 3:
		return strings.Contains(lists()[s.In], strconv.Itoa(s.Suspect))
	}
	return false
}

// toldWord is a status's word, by the document's words.
func toldWord(s api.Status) int {
	n := s.In + 16*s.Latched
	if s.Suspect == -1 {
		n += 256 * 7
	} else {
		n += 256 * s.Suspect
	}
	if s.Fail {
		n += 2048
	}
	return n
}

// toldText is a status's text, by the document's words.
func toldText(s api.Status) string {
	suspect := "-"
	if s.Suspect != -1 {
		suspect = strconv.Itoa(s.Suspect)
	}
	return "in " + lists()[s.In] + " latched " + lists()[s.Latched] + " suspect " + suspect + " " + modesOf()[s.In]
}

// grid is each In and each Latched from 0 to 15, with each Suspect from -1 to 3, and each Fail.
func grid() []api.Status {
	var out []api.Status
	for in := range masks {
		for latched := range masks {
			for suspect := -1; suspect <= 3; suspect++ {
				for _, fail := range []bool{false, true} {
					out = append(out, api.Status{In: in, Latched: latched, Suspect: suspect, Fail: fail})
				}
			}
		}
	}
	return out
}

// all are all statuses that may be.
func all(t testing.TB) []api.Status {
	t.Helper()
	out := slices.DeleteFunc(grid(), func(s api.Status) bool { return !mayBe(s) })
	if len(out) != statuses {
		t.Fatalf("%d statuses may be", len(out))
	}
	return out
}

// words are all statuses' words, each with its status.
func words(t testing.TB) map[int]api.Status {
	t.Helper()
	out := map[int]api.Status{}
	for _, s := range all(t) {
		out[toldWord(s)] = s
	}
	if len(out) != statuses {
		t.Fatalf("%d words of %d statuses", len(out), statuses)
	}
	return out
}

// farOff are numbers that, added to one from -1 to 15, leave its lower bits as they are, and those at the ends of an int.
func farOff() []int {
	out := []int{16, 32, 48, 64, 240, -16, -32, -48, -256, math.MinInt, math.MaxInt - 15}
	for place := 8; place < 63; place++ {
		out = append(out, 1<<place, -1<<place)
	}
	return out
}

// holds holds what is told of a status against the document's words, one that may not be too.
func holds(t testing.TB, s api.Status) {
	t.Helper()
	if !mayBe(s) {
		refused(t, s)
		return
	}
	if !Right(s) {
		t.Fatalf("Right(%v) = false", s)
	}
	if n, e := Word(s); n != toldWord(s) || e != api.OK {
		t.Fatalf("Word(%v) = %d, %d, not %d", s, n, e, toldWord(s))
	}
	if got := Mode(s); got != modesOf()[s.In] {
		t.Fatalf("Mode(%v) = %q, not %q", s, got, modesOf()[s.In])
	}
	if got := Text(s); got != toldText(s) {
		t.Fatalf("Text(%v) = %q, not %q", s, got, toldText(s))
	}
}

// refused holds that statuses may not be, and have no word, no mode and no text.
func refused(t testing.TB, l ...api.Status) {
	t.Helper()
	for _, s := range l {
		n, e := Word(s)
		if Right(s) || n != 0 || e != api.ErrArg || Mode(s) != "" || Text(s) != "" {
			t.Fatalf("%v, which may not be: %t; %d, %d; %q; %q", s, Right(s), n, e, Mode(s), Text(s))
		}
	}
}

// parses holds what is parsed against the known words: nothing else is one.
func parses(t testing.TB, known map[int]api.Status, n int) {
	t.Helper()
	want, ok := known[n]
	wrong := api.OK
	if !ok {
		wrong = api.ErrForm
	}
	if s, e := Parse(n); s != want || e != wrong {
		t.Fatalf("Parse(%d) = %v, %d, not %v, %d", n, s, e, want, wrong)
	}
}

// noWords holds that numbers are no status's word.
func noWords(t testing.TB, l ...int) {
	t.Helper()
	for _, n := range l {
		if s, e := Parse(n); s != (api.Status{}) || e != api.ErrForm {
			t.Fatalf("Parse(%d) = %v, %d", n, s, e)
		}
	}
}

// drawer gives numbers from 0 on that hang on seed alone.
func drawer(seed int) func(below int) int {
	state := uint64(seed)*2862933555777941757 + 3037000493
	return func(below int) int {
		state = state*6364136223846793005 + 1442695040888963407
		return int(state>>29) % below
	}
}

// P16.1, P16.2: statuses with their words, their modes and their texts, written out.
func TestWrittenOut(t *testing.T) {
	for _, x := range []struct {
		s    api.Status
		n    int
		mode string
		text string
	}{
		{api.Status{In: 13, Latched: 2, Suspect: 3}, 813, "triple", "in 023 latched 1 suspect 3 triple"},
		{api.Status{In: 15, Suspect: -1}, 1807, "quad", "in 0123 latched - suspect - quad"},
		{api.Status{In: 15, Latched: 15, Suspect: 3}, 1023, "quad", "in 0123 latched 0123 suspect 3 quad"},
		{api.Status{In: 7, Latched: 8, Suspect: -1}, 1927, "triple", "in 012 latched 3 suspect - triple"},
		{api.Status{In: 6, Latched: 9, Suspect: 2}, 662, "duplex", "in 12 latched 03 suspect 2 duplex"},
		{api.Status{In: 9, Latched: 6, Suspect: 0}, 105, "duplex", "in 03 latched 12 suspect 0 duplex"},
		{api.Status{In: 1, Latched: 14, Suspect: 0}, 225, "single", "in 0 latched 123 suspect 0 single"},
		{api.Status{In: 1, Suspect: 0}, 1, "single", "in 0 latched - suspect 0 single"},
		{api.Status{In: 2, Latched: 2, Suspect: 1}, 290, "single", "in 1 latched 1 suspect 1 single"},
		{api.Status{In: 8, Suspect: -1}, 1800, "single", "in 3 latched - suspect - single"},
		{api.Status{Latched: 15, Suspect: -1, Fail: true}, 4080, "hold", "in - latched 0123 suspect - hold"},
		{api.Status{Suspect: -1, Fail: true}, 3840, "hold", "in - latched - suspect - hold"},
		{api.Status{Latched: 4, Suspect: -1, Fail: true}, 3904, "hold", "in - latched 2 suspect - hold"},
	} {
		if n, e := Word(x.s); n != x.n || e != api.OK {
			t.Errorf("Word(%v) = %d, %d, not %d", x.s, n, e, x.n)
		}
		if s, e := Parse(x.n); s != x.s || e != api.OK {
			t.Errorf("Parse(%d) = %v, %d, not %v", x.n, s, e, x.s)
		}
		if !Right(x.s) || Mode(x.s) != x.mode || Text(x.s) != x.text {
			t.Errorf("%v: %t, %q, %q", x.s, Right(x.s), Mode(x.s), Text(x.s))
		}
		if !mayBe(x.s) || toldWord(x.s) != x.n || modesOf()[x.s.In] != x.mode || toldText(x.s) != x.text {
			t.Errorf("the words tell %d, %q of %v", toldWord(x.s), toldText(x.s), x.s)
		}
	}
}

// P16.1: each In and each Latched, with each Suspect and each Fail.
func TestGrid(t *testing.T) {
	right := 0
	for _, s := range grid() {
		holds(t, s)
		if Right(s) {
			right++
		}
	}
	if right != statuses {
		t.Errorf("%d statuses may be, not %d", right, statuses)
	}
}

// P16.1: an In, and a Latched, of one below 0 and one above 15, whatever else is told, may not be.
func TestMasksOutside(t *testing.T) {
	for _, s := range grid() {
		for _, n := range []int{-1, 16} {
			in, latched, both := s, s, s
			in.In, latched.Latched = n, n
			both.In, both.Latched = n, n
			refused(t, in, latched, both)
		}
	}
	refused(t, api.Status{In: 16, Suspect: -1}, api.Status{In: -1, Suspect: -1}, api.Status{In: 16, Suspect: -1, Fail: true}, api.Status{In: 17, Suspect: 0}, api.Status{In: 31, Suspect: 4}, api.Status{In: 16, Suspect: 4})
	refused(t, api.Status{In: 1, Latched: 16, Suspect: -1}, api.Status{In: 1, Latched: -1, Suspect: -1}, api.Status{Latched: 16, Suspect: -1, Fail: true}, api.Status{Latched: -1, Suspect: -1, Fail: true})
}

// P16.1: a Suspect of -2 and of 4, whatever else is told, may not be.
func TestSuspectOutside(t *testing.T) {
	for _, s := range grid() {
		for _, n := range []int{-2, 4, 5, 6, 7, 8, 15, 16, -3, -7, -8} {
			s.Suspect = n
			refused(t, s)
		}
	}
}

// P16.1: numbers far off, with the lower bits of one that may be, and those at the ends of an int, may not be.
func TestFarOff(t *testing.T) {
	for _, s := range all(t) {
		for _, n := range farOff() {
			in, latched, suspect := s, s, s
			in.In += n
			latched.Latched += n
			suspect.Suspect += n
			refused(t, in, latched, suspect)
		}
		for _, n := range []int{math.MinInt, math.MinInt + 1, math.MaxInt - 1, math.MaxInt} {
			in, latched, suspect := s, s, s
			in.In, latched.Latched, suspect.Suspect = n, n, n
			refused(t, in, latched, suspect, api.Status{In: n, Latched: n, Suspect: n, Fail: s.Fail})
		}
	}
}

// P16.1: a Suspect whose bit is not in In may not be, though it is latched.
func TestSuspectNotIn(t *testing.T) {
	for in := range masks {
		for latched := range masks {
			for suspect := range 4 {
				s := api.Status{In: in, Latched: latched, Suspect: suspect, Fail: in == 0}
				if Right(s) != (in/[]int{1, 2, 4, 8}[suspect]%2 == 1) {
					t.Fatalf("Right(%v) = %t", s, Right(s))
				}
				holds(t, s)
			}
		}
	}
	refused(t, api.Status{In: 1, Suspect: 1}, api.Status{In: 14, Suspect: 0}, api.Status{In: 7, Latched: 8, Suspect: 3}, api.Status{In: 11, Latched: 15, Suspect: 2}, api.Status{Latched: 15, Suspect: 0, Fail: true}, api.Status{Suspect: 3, Fail: true})
}

// P16.1: a Fail that is true with In above 0, and one that is false with In 0, may not be.
func TestFail(t *testing.T) {
	for _, s := range all(t) {
		s.Fail = !s.Fail
		refused(t, s)
	}
	refused(t, api.Status{}, api.Status{Suspect: -1}, api.Status{Latched: 15, Suspect: -1}, api.Status{In: 1, Suspect: -1, Fail: true}, api.Status{In: 1, Suspect: 0, Fail: true}, api.Status{In: 15, Latched: 15, Suspect: 3, Fail: true}, api.Status{Fail: true})
}

// P16.1: the word of each status that may be is the sum of its parts, each at its place.
func TestWord(t *testing.T) {
	for in := 1; in < masks; in++ {
		for latched := range masks {
			for suspect := range 4 {
				if s := (api.Status{In: in, Latched: latched, Suspect: suspect}); mayBe(s) {
					if n, e := Word(s); n != in+16*latched+256*suspect || e != api.OK {
						t.Errorf("Word(%v) = %d, %d", s, n, e)
					}
				}
			}
			s := api.Status{In: in, Latched: latched, Suspect: -1}
			if n, e := Word(s); n != in+16*latched+1792 || e != api.OK {
				t.Errorf("Word(%v) = %d, %d", s, n, e)
			}
		}
	}
	for latched := range masks {
		s := api.Status{Latched: latched, Suspect: -1, Fail: true}
		if n, e := Word(s); n != 16*latched+1792+2048 || e != api.OK {
			t.Errorf("Word(%v) = %d, %d", s, n, e)
		}
	}
}

// P16.2: no two statuses have the same word, and each is from 0 to 65535, and so has two bytes.
func TestWordsDiffer(t *testing.T) {
	seen := map[int]api.Status{}
	for _, s := range all(t) {
		n, e := Word(s)
		if other, ok := seen[n]; ok || n < 0 || n > 65535 || e != api.OK {
			t.Errorf("Word(%v) = %d, %d, and that of %v", s, n, e, other)
		}
		seen[n] = s
		b := word.Put2(n)
		if back, ok := word.Get2(b); len(b) != 2 || back != n || !ok {
			t.Errorf("Word(%v) = %d has the bytes %v", s, n, b)
		}
	}
}

// P16.1, P16.2: each number of two bytes, and those beside them, is a status's word just if it is that of one that may be.
func TestParse(t *testing.T) {
	known := words(t)
	found := 0
	for n := -70000; n < 200000; n++ {
		parses(t, known, n)
		s, e := Parse(n)
		if e != api.OK {
			continue
		}
		found++
		if back, e := Word(s); !Right(s) || back != n || e != api.OK {
			t.Fatalf("Word(Parse(%d)) = %d, %d, of %v", n, back, e, s)
		}
	}
	if found != statuses {
		t.Errorf("%d numbers are words, not %d", found, statuses)
	}
}

// P16.1: numbers that are no words, written out: of a suspect that is not in, or is 4 to 6, of a Fail that is wrong, and beside the least and the greatest word.
func TestParseOfNoWords(t *testing.T) {
	noWords(t, -1, 0, 2, 4, 14, 15+16*15+1, 257, 513, 769, 256+13, 3*256+7, 4*256+15, 5*256+15, 6*256+15, 1024, 1280, 1536, 1792, 1792+240)
	noWords(t, 2048, 2048+1, 2048+1793, 2048+1807, 2048+1023, 4080-1, 4080+1, 4095, 4096, 4096+1, 4096+813, 4096+1807, 8192+3840, 65535, 65536, 65536+1, 65536+813)
	parses(t, words(t), 1)
	parses(t, words(t), 3840)
	parses(t, words(t), 4080)
}

// P16.1: numbers far above and far below, with the lower bits of a word, and those at the ends of an int, are no words.
func TestParseFarOff(t *testing.T) {
	for n := range words(t) {
		for place := 12; place < 63; place++ {
			noWords(t, n+1<<place, n-1<<place, -n-1<<place)
		}
		noWords(t, -n, -n-1, ^n, math.MinInt+n, math.MaxInt-n, math.MaxInt-4095+n, 3*4096+n, 5*4096+n, n-3*4096)
	}
	for n := range 5000 {
		noWords(t, math.MinInt+n, math.MaxInt-n, -n-1, 1<<32-n, 1<<32+n, 1<<40+n, -1<<31-n)
	}
}

// P16.1: the modes with 0 to 4 channels in, whoever they are, and whoever is latched or suspect.
func TestMode(t *testing.T) {
	for _, s := range all(t) {
		many := 0
		for _, bit := range []int{1, 2, 4, 8} {
			many += s.In / bit % 2
		}
		want := ""
		switch many {
		case 0:
			want = "hold"
		case 1:
			want = "single"
		case 2:
			want = "duplex"
		case 3:
			want = "triple"
		case 4:
			want = "quad"
		}
		if got := Mode(s); got != want {
			t.Errorf("Mode(%v) = %q, not %q", s, got, want)
		}
	}
}

// P16.1: a text has seven words, with one blank between: channels rise in it, and the last is the mode.
func TestText(t *testing.T) {
	seen := map[string]bool{}
	for _, s := range all(t) {
		text := Text(s)
		parts := strings.Split(text, " ")
		if len(parts) != 7 || slices.Contains(parts, "") || parts[0] != "in" || parts[2] != "latched" || parts[4] != "suspect" || parts[6] != Mode(s) {
			t.Fatalf("Text(%v) = %q", s, text)
		}
		for at, mask := range map[int]int{1: s.In, 3: s.Latched} {
			if own := []byte(parts[at]); !slices.IsSorted(own) || parts[at] != lists()[mask] {
				t.Errorf("Text(%v) = %q", s, text)
			}
		}
		if (parts[5] == "-") != (s.Suspect == -1) || parts[5] != "-" && parts[5] != strconv.Itoa(s.Suspect) {
			t.Errorf("Text(%v) = %q", s, text)
		}
		if seen[text] {
			t.Errorf("Text(%v) = %q is another one's, too", s, text)
		}
		seen[text] = true
	}
}

// P16.2: each status is that of its word, and each word that is one's is its.
func TestThereAndBack(t *testing.T) {
	for _, s := range all(t) {
		n, e := Word(s)
		if back, f := Parse(n); back != s || e != api.OK || f != api.OK {
			t.Errorf("Parse(Word(%v)) = %v, %d, %d", s, back, e, f)
		}
	}
	for n, s := range words(t) {
		got, e := Parse(n)
		if back, f := Word(got); got != s || back != n || e != api.OK || f != api.OK {
			t.Errorf("Word(Parse(%d)) = %d, %d, %d", n, back, e, f)
		}
	}
	for _, s := range grid() {
		if n, e := Word(s); e != api.OK {
			noWords(t, n)
		}
	}
}

// P16.1, P16.2: drawn statuses, near to those that may be and far off, and drawn numbers.
func TestDrawn(t *testing.T) {
	known := words(t)
	for seed := range 20000 {
		draw := drawer(seed)
		s := api.Status{In: draw(20) - 2, Latched: draw(20) - 2, Suspect: draw(8) - 3, Fail: draw(2) == 0}
		holds(t, s)
		holds(t, api.Status{In: s.In, Latched: s.Latched, Suspect: s.Suspect, Fail: s.In == 0})
		holds(t, api.Status{In: draw(math.MaxInt) >> draw(63), Latched: draw(math.MaxInt) >> draw(63), Suspect: draw(math.MaxInt)>>draw(63) - 1, Fail: draw(5) == 0})
		holds(t, api.Status{In: s.In, Latched: -(draw(math.MaxInt) >> draw(63)), Suspect: -1, Fail: s.In == 0})
		n := draw(math.MaxInt) >> draw(63)
		parses(t, known, n)
		parses(t, known, -n)
	}
}

// P2: what was asked before, right or wrong, tells nothing of what is asked then.
func TestAskedAgain(t *testing.T) {
	s := api.Status{In: 13, Latched: 2, Suspect: 3}
	wrong := api.Status{In: 16, Latched: -1, Suspect: 9, Fail: true}
	for _, before := range []func(){
		func() { Right(s) }, func() { Right(wrong) }, func() { Word(wrong) }, func() { Parse(4080) }, func() { Parse(-1) }, func() { Parse(2048) },
		func() { Mode(wrong) }, func() { Text(wrong) }, func() { Text(api.Status{Latched: 15, Suspect: -1, Fail: true}) },
	} {
		before()
		holds(t, s)
		refused(t, wrong)
		parses(t, words(t), 813)
		noWords(t, 257)
	}
}

// P2: calls that run beside each other answer as they do alone.
func TestBeside(t *testing.T) {
	l := all(t)
	done := make(chan bool)
	for from := range 8 {
		go func() {
			ok := true
			for i := range l {
				s := l[(i+from*7)%len(l)]
				n, e := Word(s)
				back, f := Parse(toldWord(s))
				ok = ok && n == toldWord(s) && e == api.OK && back == s && f == api.OK && Right(s) && Mode(s) == modesOf()[s.In] && Text(s) == toldText(s)
			}
			done <- ok
		}()
	}
	for range 8 {
		if !<-done {
			t.Error("calls beside each other answer otherwise")
		}
	}
}
