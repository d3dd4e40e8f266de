package report

import (
	"math"
	"slices"
	"strconv"
	"strings"
	"testing"

	"rudder/api"
	"rudder/scene"
	"rudder/script"
)

// The signatures that are asked for.
var (
	_ func(o api.Output) string                                 = Line
	_ func(s string) ([api.Signals]int, int, api.Errno)         = Parse
	_ func(r script.Result) []string                            = Run
	_ func(s scene.Scene, l []api.Output) ([]string, api.Errno) = Scene
	_ func(s scene.Scene) ([]string, api.Errno)                 = Fly
)

// P24.1, P24.2: what is written out.
func TestWrittenOut(t *testing.T) {
	if got := lined(t, some()); got != someLine {
		t.Errorf("%q", got)
	}
	values, seq, e := Parse(someLine)
	if values != some().Values || seq != 258 || e != api.OK {
		t.Errorf("%v, %d, %d", values, seq, e)
	}
	if got := Line(api.Output{}); got != "" {
		t.Errorf("of zeros: %q", got)
	}
	values, seq, e = Parse("")
	if values != [8]int{} || seq != 0 || e != api.ErrForm {
		t.Errorf("of nothing: %v, %d, %d", values, seq, e)
	}
}

// P24.1, P24.2: each status that may be, in each place: its mode alone is told of it.
func TestModes(t *testing.T) {
	may := statuses()
	for i := range signals {
		for _, s := range may {
			line := lined(t, with(some(), func(o *api.Output) { o.Status[i] = s }))
			channels := strings.Count(strconv.FormatInt(int64(s.In), 2), "1")
			want := strings.Fields(someLine)
			want[1+i] = strings.Split(want[1+i], "/")[0] + "/" + inOrder[channels]
			if line != strings.Join(want, " ") {
				t.Fatalf("%+v at %d: %q", s, i, line)
			}
		}
	}
	for in, mode := range inOrder {
		o := api.Output{}
		for i := range o.Status {
			o.Status[i] = api.Status{In: 1<<in - 1, Suspect: -1, Fail: in == 0}
		}
		if want := "0" + strings.Repeat(" 0/"+mode, 8); lined(t, o) != want {
			t.Errorf("%q: %q", mode, Line(o))
		}
	}
}

// P24.1, P24.2: values at both ends of the range, around 0, and where a figure more is needed, in each place.
func TestValues(t *testing.T) {
	l := []int{least, least + 1, most, most - 1, -2, -1, 0, 1, 2}
	for n := 10; n < most; n *= 10 {
		l = append(l, n-1, n, n+1, 1-n, -n, -1-n)
	}
	for bit := range 31 {
		l = append(l, 1<<bit, -1<<bit, 1<<bit-1)
	}
	for i := range signals {
		for _, n := range l {
			lined(t, with(some(), func(o *api.Output) { o.Values[i] = n }))
		}
	}
	for _, n := range l {
		lined(t, with(some(), func(o *api.Output) { o.Values = all(n) }))
	}
}

// P24.1, P24.2: each Seq, from 0 to its greatest.
func TestSeqs(t *testing.T) {
	for seq := range turn {
		line := lined(t, with(some(), func(o *api.Output) { o.Seq = seq }))
		if line != strconv.Itoa(seq)+someLine[3:] {
			t.Fatalf("%d: %q", seq, line)
		}
	}
}

// P24.1: outputs that may not be, in each way, have no line.
func TestWrongOutputs(t *testing.T) {
	far := []int{math.MinInt, math.MinInt + 1, math.MaxInt, math.MaxInt - 1, 1 << 32, -1 << 32, 1<<32 + 5, -1<<32 + 5, 1 << 40, -1 << 40, 1 << 62}
	for _, n := range append(far, -1, -2, 65536, 65537, 65536+258, least, most) {
		unlined(t, with(some(), func(o *api.Output) { o.Seq = n }))
	}
	for i := range signals {
		for _, n := range append(far, least-1, least-2, most+1, most+2) {
			unlined(t, with(some(), func(o *api.Output) { o.Values[i] = n }))
		}
		for _, n := range append(far, -1, -2, -16, 16, 17, 31, 255+16) {
			unlined(t,
				with(some(), func(o *api.Output) { o.Status[i].In = n }),
				with(some(), func(o *api.Output) { o.Status[i].Latched = n }),
			)
		}
		for _, n := range append(far, -2, -3, 4, 5, 7, 15, 16) {
			unlined(t, with(some(), func(o *api.Output) { o.Status[i].Suspect = n }))
		}
		unlined(t,
			with(some(), func(o *api.Output) { o.Status[i].Fail = !o.Status[i].Fail }),
			with(some(), func(o *api.Output) { o.Status[i] = api.Status{} }),
			with(some(), func(o *api.Output) { o.Status[i] = api.Status{Fail: true} }),
			with(some(), func(o *api.Output) { o.Status[i] = api.Status{In: 7, Suspect: 3} }),
			with(some(), func(o *api.Output) { o.Status[i] = api.Status{In: 8, Suspect: 0} }),
		)
	}
}

// P24.1: texts that are none's, by one word of a line, or by its numbers.
func TestWrongWords(t *testing.T) {
	numbers := []string{
		"", "-", "+", "--", "-+", "00", "000", "01", "007", "-0", "-00", "-01", "+0", "+1", "+9", "--1", "-+1", "+-1", "1-", "0-", "1+", ".", "0.", "1.0", ".5", "1e1", "1e0", "0x1", "0b1", "0o1", "0x", "x", "a", "1a", "a1", "1_0", "1,0", "1'0", "\u0661", "\uff11", "\u22121", "2147483648", "2147483649", "-2147483649", "-2147483650", "4294967296", "4294967297", "-4294967296", "9999999999", "10000000000", "9223372036854775807", "9223372036854775808", "-9223372036854775808", "-9223372036854775809", "18446744073709551616", "18446744073709551617", "340282366920938463463374607431768211456", strings.Repeat("9", 100), "-" + strings.Repeat("9", 100), "1" + strings.Repeat("0", 64), strings.Repeat("0", 50) + "1", "inf", "NaN", "nil", "\x00", "1\x00", "\xff", "1\xff", "\u00a01",
	}
	modes := []string{
		"", "-", "none", "Quad", "QUAD", "quad.", "quads", "qua", "uad", "quadquad", "quadtriple", "quad-", "-quad", "+quad", "Triple", "tripl", "triples", "Duplex", "dupl", "Single", "sing", "Hold", "holds", "hol", "good", "fail", "penta", "0", "1", "4", "in", "quad\x00", "\x00quad", "quad\xff", "qu\xffd", "\u00a0quad", "quad\u00a0", "quad\t", "\tquad", "\nquad", "quad\n", "quad\r", "quad\v", "quad\f", "\ufeffquad", "\u212auad",
	}
	words := strings.Fields(someLine)
	at := func(i int, word string) string {
		l := slices.Clone(words)
		l[i] = word
		return strings.Join(l, " ")
	}
	for _, n := range append(numbers, "65536", "65537", "65794", "99999", "100000", "-1", "-258", "258/quad", "258/", "/258", "/") {
		refused(t, at(0, n))
	}
	for i := 1; i < len(words); i++ {
		for _, n := range numbers {
			refused(t, at(i, n+"/quad"), at(i, n+"/hold"))
		}
		for _, mode := range modes {
			refused(t, at(i, "0/"+mode), at(i, "-1/"+mode))
		}
		refused(t,
			at(i, "0"), at(i, "7"), at(i, "quad"), at(i, "/"), at(i, "//"), at(i, "0/"), at(i, "/quad"), at(i, "0quad"), at(i, "0//quad"), at(i, "/0/quad"), at(i, "0/quad/"), at(i, "0/quad/quad"), at(i, "0/0/quad"), at(i, "quad/0"), at(i, "quad/quad"), at(i, "0\\quad"), at(i, "0:quad"), at(i, "0|quad"), at(i, "0\u2215quad"), at(i, "0-quad"),
		)
		for _, mode := range inOrder {
			for _, n := range []string{"0", "-1", "1", "9", "10", "-10", "2147483647", "-2147483648"} {
				if !parsed(t, at(i, n+"/"+mode)) {
					t.Fatalf("%q at %d is none's", n+"/"+mode, i)
				}
			}
		}
	}
	for _, n := range []string{"0", "1", "9", "10", "99", "1000", "65534", "65535"} {
		if !parsed(t, at(0, n)) {
			t.Fatalf("%q is none's", at(0, n))
		}
	}
}

// P24.1: one word too few, one too many, none; a blank too many, or none; other white space.
func TestWrongBlanks(t *testing.T) {
	words := strings.Fields(someLine)
	refused(t, "", " ", "  ", "        ", "         ", "          ", "\n", "\t", "/", "good", "lost 3", "point 0 signal 3 low", "cycle 0 channel 0 signal 0 latched -", "in 023 latched 1 suspect 3 triple")
	for n := range words {
		refused(t, strings.Join(words[:n], " "), strings.Join(words[n+1:], " "), strings.Join(words[:n], " ")+" ", " "+strings.Join(words[n+1:], " "))
		refused(t, strings.Join(slices.Delete(slices.Clone(words), n, n+1), " "))
		for _, word := range []string{"", "0", "0/quad", "-1/hold", words[n], "good"} {
			refused(t, strings.Join(slices.Insert(slices.Clone(words), n, word), " "))
		}
	}
	for _, behind := range []string{" ", "  ", " 0/hold", " 0", " 258", " " + someLine, someLine, "\n", "\r\n", "\t", "\x00", "/", "/quad", "\u00a0", "\u2028", " \n", "\n" + someLine} {
		refused(t, someLine+behind)
	}
	for _, ahead := range []string{" ", "  ", "0 ", "258 ", "0/hold ", "\n", "\t", "\x00", "/", "+", "-", "0", "\ufeff", "\u00a0"} {
		refused(t, ahead+someLine)
	}
	for i := range len(someLine) {
		if someLine[i] != ' ' {
			continue
		}
		for _, other := range []string{"", "  ", "   ", "\t", "\n", "\r", "\v", "\f", "\u0085", "\u00a0", "\u2003", "\u3000", " \t", "\t ", "\x00", "_", ",", ", ", "/", " / ", "-", "+"} {
			refused(t, someLine[:i]+other+someLine[i+1:])
		}
	}
	for i := range len(someLine) {
		if someLine[i] == '/' {
			for _, other := range []string{"", "//", " ", " /", "/ ", " / ", "\\", "\u2044", "///"} {
				refused(t, someLine[:i]+other+someLine[i+1:])
			}
		}
	}
}

// P24.1: lines with each byte left out, doubled, put in, and changed to each other one, held against the document's words: most are none's, some another output's.
func TestEachByte(t *testing.T) {
	is := 0
	for _, line := range []string{someLine, "0 0/hold 1/single 2/duplex 3/triple 4/quad -5/quad -60/quad 70/quad", "65535" + strings.Repeat(" -2147483648/hold", 4) + strings.Repeat(" 2147483647/quad", 4)} {
		if !parsed(t, line) {
			t.Fatalf("%q is none's", line)
		}
		for i := range len(line) {
			parsed(t, line[:i])
			parsed(t, line[i:])
			parsed(t, line[:i]+line[i+1:])
			parsed(t, line[:i]+line[i:i+1]+line[i:])
			for b := range 256 {
				one := string([]byte{byte(b)})
				for _, s := range []string{line[:i] + one + line[i+1:], line[:i] + one + line[i:]} {
					if parsed(t, s) {
						is++
					}
				}
			}
		}
	}
	if is < 500 {
		t.Errorf("just %d lines", is)
	}
}

// P1, P24.1: very long texts, of which most begin, or end, as a line does.
func TestLongTexts(t *testing.T) {
	const long = 1 << 22
	for _, x := range []string{" ", "0", "9", "-", "/", "0/quad ", " 0/quad", "quad", someLine, someLine + " ", "\n", "\xff", "\x00"} {
		s := strings.Repeat(x, long/len(x))
		refused(t, s, "258 "+s, s+" 0/quad", someLine+s, s+someLine, "-"+s)
		for _, i := range []int{3, 4, 15, 16, len(someLine) - 7} {
			refused(t, someLine[:i]+s+someLine[i:])
		}
	}
}

// P24.1: bytes that are no text.
func TestNoTexts(t *testing.T) {
	for _, s := range []string{"\xff", "\x80", "\xc3", "\xed\xa0\x80", "\xf4\x90\x80\x80", "\xc0\xaf", "\xc0\xa0"} {
		refused(t, s, s+someLine, someLine+s, strings.ReplaceAll(someLine, " ", s), strings.ReplaceAll(someLine, "/", s), strings.Replace(someLine, "0", s, 1), strings.Replace(someLine, "quad", s, 1))
	}
}

// P24.1: no line hangs on those that were asked ahead of it, and an output that is handed in is as it was.
func TestAgain(t *testing.T) {
	o := some()
	for range 3 {
		if got := Line(o); got != someLine || o != some() {
			t.Fatalf("%q, %+v", got, o)
		}
		unlined(t, api.Output{})
		refused(t, "")
		if !parsed(t, someLine) {
			t.Fatal("none's")
		}
	}
}
