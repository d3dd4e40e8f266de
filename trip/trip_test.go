package trip

import (
	"math"
	"slices"
	"strconv"
	"strings"
	"testing"

	"rudder/api"
)

// The signatures that other layers call.
var (
	_ func(mask int) string           = Text
	_ func(s string) (int, api.Errno) = Parse
	_ func(l ...bool) int             = Mask
	_ func(mask, bit int) bool        = In
)

// How many masks there are, and how many trips, written out so that a wrong constant of the package does not hide itself.
const (
	masks = 64
	count = 6
)

// names are the trips' names, in order.
func names() []string { return []string{"frame", "range", "spike", "stuck", "drift", "mis"} }

// bits are the trips, in order.
func bits() []int { return []int{1, 2, 4, 8, 16, 32} }

// noMasks are numbers that are no masks, many of which have the lower bits of one.
func noMasks() []int {
	out := []int{-1, -2, -5, -31, -32, -33, -63, -64, -65, -100, 64, 65, 66, 69, 96, 98, 100, 126, 127, 128, math.MaxInt, math.MaxInt - 1, math.MaxInt - 63, math.MinInt, math.MinInt + 1, math.MinInt + 34, math.MinInt + 63}
	for _, above := range []int{1 << 6, 1 << 7, 1 << 8, 1 << 15, 1 << 16, 1 << 17, 1 << 31, 1 << 32, 1 << 33, 1 << 40, 1<<40 + 64, 1 << 41, 1 << 62} {
		for _, n := range []int{0, 1, 2, 5, 12, 32, 34, 63} {
			out = append(out, above+n, -above+n, -above-n-1)
		}
	}
	return slices.DeleteFunc(out, func(n int) bool { return 0 <= n && n < masks })
}

// noTrips are numbers that are none of the six: 0, sums of trips, and what is no mask.
func noTrips() []int {
	out := append(noMasks(), 0)
	for n := range masks {
		if !slices.Contains(bits(), n) {
			out = append(out, n)
		}
	}
	return out
}

// told is a mask's text, by the document's words.
func told(mask int) string {
	out := ""
	for i, name := range names() {
		if mask/bits()[i]%2 == 0 {
			continue
		}
		if out != "" {
			out += "+"
		}
		out += name
	}
	if out == "" {
		return "-"
	}
	return out
}

// texts are all masks' texts, each with its mask.
func texts(t testing.TB) map[string]int {
	t.Helper()
	out := map[string]int{}
	for mask := range masks {
		out[told(mask)] = mask
	}
	if len(out) != masks {
		t.Fatalf("%d texts of %d masks", len(out), masks)
	}
	return out
}

// parses holds what is parsed against all masks' texts: nothing else is one.
func parses(t testing.TB, all map[string]int, s string) {
	t.Helper()
	want, ok := all[s]
	wrong := api.OK
	if !ok {
		wrong = api.ErrForm
	}
	if mask, e := Parse(s); mask != want || e != wrong {
		t.Fatalf("Parse(%s) = %d, %d, not %d, %d", short(s), mask, e, want, wrong)
	}
}

// refused holds that texts are no mask's.
func refused(t testing.TB, l ...string) {
	t.Helper()
	for _, s := range l {
		if mask, e := Parse(s); mask != 0 || e != api.ErrForm {
			t.Fatalf("Parse(%s) = %d, %d", short(s), mask, e)
		}
	}
}

// short is a text as a test tells it.
func short(s string) string {
	if len(s) > 100 {
		return strconv.Quote(s[:100]) + " .."
	}
	return strconv.Quote(s)
}

// chosen is the list of six whose i-th element is true just if the i-th trip is in a mask.
func chosen(mask int) []bool {
	out := make([]bool, count)
	for i, bit := range bits() {
		out[i] = mask/bit%2 == 1
	}
	return out
}

// alike is a list of one bool, so many times.
func alike(n int, b bool) []bool { return slices.Repeat([]bool{b}, n) }

// masked holds the mask of a list that is handed in whole, and that the list, and what lies behind it in its memory, is as it was.
func masked(t testing.TB, l []bool, want int) {
	t.Helper()
	for _, behind := range [][]bool{nil, {true, true, true}, {false, true, false}} {
		own := slices.Concat(l, behind)
		if got := Mask(own[:len(l)]...); got != want {
			t.Fatalf("Mask(%v), with %v behind it, = %d, not %d", l, behind, got, want)
		}
		if !slices.Equal(own, slices.Concat(l, behind)) {
			t.Fatalf("Mask(%v) wrote: %v", l, own)
		}
	}
}

// within holds whether a trip is in a mask, against the document's words.
func within(t testing.TB, mask, bit int) {
	t.Helper()
	want := 0 <= mask && mask < masks && slices.Contains(bits(), bit) && mask/bit%2 == 1
	if got := In(mask, bit); got != want {
		t.Fatalf("In(%d, %d) = %t", mask, bit, got)
	}
}

// drawer gives numbers from 0 on that hang on seed alone.
func drawer(seed int) func(below int) int {
	state := uint64(seed)*2862933555777941757 + 3037000493
	return func(below int) int {
		state = state*6364136223846793005 + 1442695040888963407
		return int(state>>29) % below
	}
}

// P14.1: the texts of masks, written out.
func TestWrittenOut(t *testing.T) {
	for _, x := range []struct {
		mask int
		s    string
	}{
		{0, "-"}, {1, "frame"}, {2, "range"}, {3, "frame+range"}, {4, "spike"}, {5, "frame+spike"}, {6, "range+spike"}, {7, "frame+range+spike"},
		{8, "stuck"}, {9, "frame+stuck"}, {12, "spike+stuck"}, {15, "frame+range+spike+stuck"}, {16, "drift"}, {17, "frame+drift"}, {24, "stuck+drift"}, {31, "frame+range+spike+stuck+drift"},
		{32, "mis"}, {33, "frame+mis"}, {34, "range+mis"}, {42, "range+stuck+mis"}, {48, "drift+mis"}, {56, "stuck+drift+mis"}, {62, "range+spike+stuck+drift+mis"}, {63, "frame+range+spike+stuck+drift+mis"},
	} {
		if s := Text(x.mask); s != x.s {
			t.Errorf("Text(%d) = %q, not %q", x.mask, s, x.s)
		}
		if mask, e := Parse(x.s); mask != x.mask || e != api.OK {
			t.Errorf("Parse(%q) = %d, %d", x.s, mask, e)
		}
		if told(x.mask) != x.s {
			t.Errorf("the words tell %q of %d", told(x.mask), x.mask)
		}
	}
}

// P14.1: the trips are those of package api, each with its name.
func TestTripsOfApi(t *testing.T) {
	for i, bit := range []int{api.TripFrame, api.TripRange, api.TripSpike, api.TripStuck, api.TripDrift, api.TripMis} {
		if bit != bits()[i] || Text(bit) != names()[i] {
			t.Errorf("Text(%d) = %q, not %q", bit, Text(bit), names()[i])
		}
		if mask, e := Parse(names()[i]); mask != bit || e != api.OK {
			t.Errorf("Parse(%q) = %d, %d", names()[i], mask, e)
		}
		if !In(bit, bit) || In(63-bit, bit) {
			t.Errorf("In tells %d wrongly", bit)
		}
	}
}

// P14.1: the text of each mask, and of what is none.
func TestText(t *testing.T) {
	for mask := range masks {
		if s := Text(mask); s != told(mask) {
			t.Errorf("Text(%d) = %q, not %q", mask, s, told(mask))
		}
	}
	for _, n := range noMasks() {
		if s := Text(n); s != "" {
			t.Errorf("Text(%d) = %q", n, s)
		}
	}
	for n := -5000; n < 5000; n++ {
		if s := Text(n); (s == "") == (0 <= n && n < masks) {
			t.Errorf("Text(%d) = %q", n, s)
		}
	}
}

// P14.1: what each of the 64 texts parses to, and that the empty text is none.
func TestParse(t *testing.T) {
	all := texts(t)
	for s := range all {
		parses(t, all, s)
	}
	refused(t, "")
}

// P14.1: each text with a byte left out, and cut at each place, is another one's or none.
func TestByteLeftOut(t *testing.T) {
	all := texts(t)
	for s := range all {
		for at := range len(s) {
			parses(t, all, s[:at]+s[at+1:])
			parses(t, all, s[:at])
			parses(t, all, s[at:])
		}
	}
	refused(t, "rame", "fram", "frme", "framerange", "fame+range", "frame+rang", "mi", "is", "ms", "driftmis")
}

// P14.1: each text with a byte more, at its start, at its end, and within, is none, whatever byte.
func TestByteMore(t *testing.T) {
	all := texts(t)
	for s := range all {
		for at := range len(s) + 1 {
			for b := range 256 {
				refused(t, s[:at]+string([]byte{byte(b)})+s[at:])
			}
		}
	}
}

// P14.1: each text with one byte changed is none, whatever it is changed to.
func TestByteChanged(t *testing.T) {
	all := texts(t)
	for s := range all {
		own := []byte(s)
		for at := range own {
			for b := range 256 {
				own[at] = byte(b)
				if b != int(s[at]) {
					refused(t, string(own))
				}
			}
			own[at] = s[at]
		}
		parses(t, all, string(own))
	}
}

// P14.1: names in another order, and a name that stands twice, are none's: just those that rise are.
func TestOrders(t *testing.T) {
	all := texts(t)
	for a, first := range names() {
		for b, second := range names() {
			two := first + "+" + second
			parses(t, all, two)
			if a >= b {
				refused(t, two)
			}
			for c, third := range names() {
				three := two + "+" + third
				parses(t, all, three)
				if a >= b || b >= c {
					refused(t, three)
				}
				for _, fourth := range names() {
					parses(t, all, three+"+"+fourth)
				}
			}
		}
	}
	whole := names()
	for a := range whole {
		for b := range a {
			own := slices.Clone(whole)
			own[a], own[b] = own[b], own[a]
			refused(t, strings.Join(own, "+"))
			own[b] = own[a]
			refused(t, strings.Join(own, "+"))
		}
		refused(t, strings.Join(slices.Insert(slices.Clone(whole), a, whole[a]), "+"), "frame+range+spike+stuck+drift+mis+"+whole[a])
	}
	slices.Reverse(whole)
	refused(t, strings.Join(whole, "+"), "mis+range", "range+frame", "mis+mis", "frame+frame", "range+mis+range", "frame+mis+mis", "mis+drift+stuck+spike+range+frame")
}

// P14.1: a name that is part of another text, or has more or less than its letters, is none.
func TestPartsOfNames(t *testing.T) {
	refused(t, "frames", "ranges", "aframe", "orange", "arrange", "spikes", "spiked", "unstuck", "stuckmis", "adrift", "drifts", "miss", "amis", "mist", "mismis", "frameframe", "framemis", "misframe")
	refused(t, "frame+miss", "frames+mis", "frame+amis", "xframe+mis", "orange+mis", "range+mist", "frame+rangemis", "framerange+mis", "fr+ame", "frame+r+ange", "frame+range+m", "f", "m", "r+m", "fra+ran", "s", "st", "sp", "spi+stu")
	refused(t, "none", "ok", "fine", "trip", "0", "1", "34", "63", "range mis", "range,mis", "range|mis", "range&mis", "range-mis", "range++mis")
	for a, first := range names() {
		for cut := 1; cut < len(first); cut++ {
			refused(t, first[:cut], first[cut:], first[:cut]+"+"+first[cut:])
			for b, second := range names() {
				if a < b {
					refused(t, first[:cut]+"+"+second, first+"+"+second[:min(cut, len(second)-1)], first+second, first[:cut]+second)
				}
			}
		}
	}
}

// P14.1: names in other letters are none.
func TestOtherLetters(t *testing.T) {
	refused(t, "Mis", "MIS", "mIs", "miS", "Frame", "FRAME", "Range+mis", "range+Mis", "RANGE+MIS", "Frame+Range+Spike+Stuck+Drift+Mis", "FRAME+RANGE+SPIKE+STUCK+DRIFT+MIS")
	// The long s and the Kelvin sign fold to s and k, and a full-width letter looks like a narrow one.
	refused(t, "mi\u017f", "\u017fpike", "spi\u212ae", "stuc\u212a", "\uff4dis", "mi\u0455", "fr\u0430me", "range\uff0bmis", "range\u2795mis", "\u2212", "\u2013", "\u2014")
	all := texts(t)
	for s := range all {
		if s != "-" {
			refused(t, strings.ToUpper(s), strings.ToUpper(s[:1])+s[1:], s[:len(s)-1]+strings.ToUpper(s[len(s)-1:]))
		}
	}
}

// P14.1: a '-' beside names, and beside itself, is none's.
func TestDash(t *testing.T) {
	refused(t, "--", "---", "-+-", "-+", "+-", "- ", " -", "-+-+-", "-\n", "\n-", "-\x00")
	all := texts(t)
	for s := range all {
		refused(t, "-+"+s, s+"+-", "-"+s, s+"-", s+"+-+"+s, "-+"+s+"+-", strings.ReplaceAll(s+"+mis", "+", "-"))
		for at := range len(s) {
			if s[at] == '+' {
				refused(t, s[:at]+"+-"+s[at:], s[:at]+"-"+s[at:], s[:at+1]+"-"+s[at+1:])
			}
		}
	}
}

// P14.1: a '+' alone, at the start, at the end, and twice, is none's.
func TestPlus(t *testing.T) {
	refused(t, "+", "++", "+++", "++++++", "+ +", " + ", "+frame", "frame+", "+frame+", "frame++mis", "range++", "++mis", "frame+ mis", "frame +mis", "frame + mis")
	all := texts(t)
	for s := range all {
		refused(t, "+"+s, s+"+", "+"+s+"+", "++"+s, s+"++", s+"+ ", s+" +")
		for at := range len(s) {
			if s[at] == '+' {
				refused(t, s[:at]+"+"+s[at:], s[:at]+"++"+s[at:], s[:at]+s[at+1:])
			}
		}
	}
}

// P14.1: texts of up to five parts, of names and of what is near to one, are a mask's just if they are its text.
func TestAllParts(t *testing.T) {
	all := texts(t)
	parts := append(names(), "", "-", "Mis", "miss")
	l := []string{""}
	for range 5 {
		var longer []string
		for _, s := range l {
			for _, part := range parts {
				parses(t, all, s+part)
				longer = append(longer, s+part+"+")
			}
		}
		l = longer
	}
}

// P14.1: long texts are none's, and are told to be.
func TestLong(t *testing.T) {
	all := texts(t)
	for s := range all {
		for _, tail := range []string{"+", "-", "x", " ", "\x00", "mis", "+mis", "+frame", "+-"} {
			refused(t, s+strings.Repeat(tail, 5000), strings.Repeat(tail, 5000)+s)
		}
		refused(t, strings.Repeat(s+"+", 3000)+s, strings.Repeat(s, 3000))
	}
	for _, s := range []string{"+", "-", "a", "\x00", "\xff", "mis", "frame", "mis+", "frame+", "+mis", "frame+range+spike+stuck+drift+mis", "frame+range+spike+stuck+drift+mis+"} {
		refused(t, strings.Repeat(s, 1<<20), "frame+range+"+strings.Repeat(s, 1<<20), strings.Repeat(s, 1<<20)+"mis")
	}
}

// P14.1: texts of up to two bytes, whatever they are, but for the '-', are none's; so are bytes that are no letters.
func TestAnyBytes(t *testing.T) {
	for a := range 256 {
		if a != '-' {
			refused(t, string([]byte{byte(a)}))
		}
		for b := range 256 {
			refused(t, string([]byte{byte(a), byte(b)}))
		}
	}
	refused(t, "\x00", "\x00\x00\x00", "\xff\xfe", "\xc3\x28", "\xed\xa0\x80", "\xf4\x90\x80\x80", "mis\x00", "\x00mis", "m\x00is", "mis\xff", "\xffmis", "mis\xc3", "range+\xff", "\xff+mis", "range\x00mis", "range\n+mis", "range+mis\n", "\ufeffmis", "mis\u0301", "\r\nmis", "mis\t", "範囲", "\u200bmis")
}

// P14.1: drawn texts, of the bytes of names or of any, and texts of drawn parts, are a mask's just if they are its text.
func TestDrawnTexts(t *testing.T) {
	all := texts(t)
	parts := append(names(), names()...)
	parts = append(parts, "+", "-", "", "f", "is", "miss", " ")
	for seed := range 20000 {
		draw := drawer(seed)
		few, any := make([]byte, draw(8)), make([]byte, draw(40))
		for i := range few {
			few[i] = "+-misfrange"[draw(11)]
		}
		for i := range any {
			any[i] = byte(draw(256))
		}
		parses(t, all, string(few))
		parses(t, all, string(any))
		var drawn []string
		for range draw(8) {
			drawn = append(drawn, parts[draw(len(parts))])
		}
		parses(t, all, strings.Join(drawn, "+"))
		parses(t, all, strings.Join(drawn, ""))
	}
}

// P14.1: the mask of none, and of one to six trips, in each choice of them.
func TestMask(t *testing.T) {
	if Mask() != 0 || Mask(nil...) != 0 || Mask([]bool{}...) != 0 || Mask([]bool{true, true}[:0]...) != 0 {
		t.Error("Mask of none is not 0")
	}
	for mask := range masks {
		l := chosen(mask)
		for size := range count + 1 {
			want := 0
			for i := range size {
				if l[i] {
					want += bits()[i]
				}
			}
			masked(t, l[:size], want)
		}
		if got := Mask(l[0], l[1], l[2], l[3], l[4], l[5]); got != mask {
			t.Errorf("Mask of %v = %d, not %d", l, got, mask)
		}
	}
	for _, x := range []struct{ got, want int }{
		{Mask(false), 0}, {Mask(true), 1}, {Mask(false, true), 2}, {Mask(true, true), 3}, {Mask(false, false, true), 4}, {Mask(true, false, true), 5}, {Mask(false, false, false, true), 8},
		{Mask(false, false, false, false, true), 16}, {Mask(true, true, true, true, true), 31}, {Mask(false, false, false, false, false, true), 32}, {Mask(false, true, false, false, false, true), 34}, {Mask(true, true, true, true, true, true), 63}, {Mask(false, false, false, false, false, false), 0},
	} {
		if x.got != x.want {
			t.Errorf("Mask answers %d, not %d", x.got, x.want)
		}
	}
}

// P14.1: seven elements and more, all false, all true, and with one true at each place, have no mask.
func TestMaskOfMany(t *testing.T) {
	for _, size := range []int{7, 8, 9, 15, 16, 17, 31, 32, 33, 63, 64, 65, 70, 128, 1000} {
		masked(t, alike(size, false), 0)
		masked(t, alike(size, true), 0)
		for at := range size {
			own := alike(size, false)
			own[at] = true
			masked(t, own, 0)
		}
		for mask := range masks {
			masked(t, append(chosen(mask), alike(size-count, false)...), 0)
			masked(t, append(chosen(mask), alike(size-count, true)...), 0)
		}
	}
	for _, size := range []int{1 << 16, 1<<16 + 3, 1 << 20, 1<<20 + 6} {
		masked(t, alike(size, true), 0)
		masked(t, alike(size, false), 0)
	}
	if Mask(false, false, false, false, false, false, false) != 0 || Mask(true, true, true, true, true, true, false) != 0 || Mask(true, false, false, false, false, false, true) != 0 {
		t.Error("Mask of seven is not 0")
	}
}

// Rule 4: a list that is handed in whole is not kept: what is written into it later changes no answer.
func TestListIsNotKept(t *testing.T) {
	l := []bool{true, false, true}
	for range 3 {
		masked(t, l, 5)
		if Mask(l...) != 5 {
			t.Fatal("Mask of a list handed in whole is not 5")
		}
	}
	clear(l)
	masked(t, l, 0)
	masked(t, []bool{true, false, true}, 5)
	l[1] = true
	masked(t, l, 2)
}

// P14.1: whether a trip is in a mask: each mask with each of the six.
func TestIn(t *testing.T) {
	for mask := range masks {
		for i, bit := range bits() {
			within(t, mask, bit)
			if got := In(mask, bit); got != chosen(mask)[i] {
				t.Errorf("In(%d, %d) = %t", mask, bit, got)
			}
			if got := In(mask, bit); got != slices.Contains(strings.Split(told(mask), "+"), names()[i]) {
				t.Errorf("In(%d, %d) = %t, of %q", mask, bit, got, told(mask))
			}
		}
	}
	if !In(34, 32) || !In(34, 2) || In(34, 1) || In(34, 4) || In(34, 8) || In(34, 16) || In(0, 1) || In(0, 32) || !In(63, 1) || !In(63, 32) {
		t.Error("In tells 34, 0 or 63 wrongly")
	}
}

// P14.1: what is none of the six, 0 and the sums of trips too, is in no mask.
func TestInOfNoTrip(t *testing.T) {
	for mask := range masks {
		for _, n := range noTrips() {
			if In(mask, n) {
				t.Errorf("In(%d, %d)", mask, n)
			}
		}
		for n := -300; n < 300; n++ {
			within(t, mask, n)
		}
		for place := range 63 {
			within(t, mask, 1<<place)
			within(t, mask, -1<<place)
		}
		within(t, mask, math.MinInt)
		within(t, mask, math.MaxInt)
	}
	if In(34, 34) || In(34, 0) || In(63, 63) || In(63, 3) || In(63, 64) || In(63, -1) || In(0, 0) || In(1, 0) || In(32, -32) {
		t.Error("In tells what is no trip")
	}
}

// P14.1: nothing is in what is no mask, whatever bits it has.
func TestInOfNoMask(t *testing.T) {
	for _, n := range noMasks() {
		for _, bit := range append(noTrips(), bits()...) {
			if In(n, bit) {
				t.Errorf("In(%d, %d)", n, bit)
			}
		}
		if In(n, n) {
			t.Errorf("In(%d, %d)", n, n)
		}
	}
	for n := -300; n < 300; n++ {
		for _, bit := range bits() {
			within(t, n, bit)
		}
	}
}

// P14.2: each mask is that of its text, and no two masks have one.
func TestThereAndBack(t *testing.T) {
	seen := map[string]bool{}
	for mask := range masks {
		s := Text(mask)
		if got, e := Parse(s); got != mask || e != api.OK {
			t.Errorf("Parse(Text(%d)) = %d, %d", mask, got, e)
		}
		if s == "" || seen[s] {
			t.Errorf("Text(%d) = %q, which is empty or another mask's", mask, s)
		}
		seen[s] = true
		masked(t, chosen(mask), mask)
		for i, bit := range bits() {
			if In(mask, bit) != chosen(mask)[i] {
				t.Errorf("In(%d, %d) = %t", mask, bit, In(mask, bit))
			}
		}
	}
	for _, n := range noMasks() {
		if got, e := Parse(Text(n)); got != 0 || e != api.ErrForm {
			t.Errorf("Parse(Text(%d)) = %d, %d", n, got, e)
		}
	}
}

// P14.2: each text that is a mask's is its.
func TestBackAndThere(t *testing.T) {
	for s := range texts(t) {
		mask, e := Parse(s)
		if e != api.OK || Text(mask) != s {
			t.Errorf("Text(Parse(%q)) = %q, %d", s, Text(mask), e)
		}
	}
	for seed := range 20000 {
		draw := drawer(seed)
		var drawn []string
		for i := range names() {
			if draw(2) == 0 {
				drawn = append(drawn, names()[(i+draw(8)/7)%count])
			}
		}
		s := strings.Join(drawn, "+")
		if mask, e := Parse(s); e == api.OK && Text(mask) != s {
			t.Fatalf("Text(Parse(%q)) = %q", s, Text(mask))
		}
	}
}

// P2: what was asked before, right or wrong, tells nothing of what is asked then.
func TestAskedAgain(t *testing.T) {
	for _, before := range []func(){
		func() { Text(63) }, func() { Text(-1) }, func() { Parse("frame+mis") }, func() { Parse("mis+frame") }, func() { Parse("frame+range+") }, func() { Parse("") },
		func() { Mask(true, true, true) }, func() { Mask(alike(9, true)...) }, func() { In(63, 32) }, func() { In(-1, 64) },
	} {
		before()
		if s := Text(34); s != "range+mis" {
			t.Fatalf("Text(34) = %q", s)
		}
		if mask, e := Parse("range+mis"); mask != 34 || e != api.OK {
			t.Fatalf("Parse = %d, %d", mask, e)
		}
		refused(t, "range+mist")
		masked(t, []bool{false, true, false, false, false, true}, 34)
		if !In(34, 2) || In(34, 1) {
			t.Fatal("In tells 34 wrongly")
		}
	}
}

// P2: calls that run beside each other answer as they do alone.
func TestBeside(t *testing.T) {
	done := make(chan bool)
	for from := range 8 {
		go func() {
			ok := true
			for n := range 500 {
				mask := (n + from*7) % masks
				back, e := Parse(told(mask))
				ok = ok && Text(mask) == told(mask) && back == mask && e == api.OK && Mask(chosen(mask)...) == mask && In(mask, 4) == chosen(mask)[2]
			}
			done <- ok
		}()
	}
	for range 8 {
		if !<-done {
			t.Error("calls beside each other answer otherwise")
		}
	}
}
