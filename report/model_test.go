package report

import (
	"fmt"
	"math/bits"
	"regexp"
	"strconv"
	"strings"
	"testing"

	"rudder/api"
	"rudder/judge"
	"rudder/script"
)

// The document's numbers, written out so that a wrong constant of the package does not hide itself.
const (
	channels = 4
	signals  = 8
	turn     = 65536
	most     = 2147483647
	least    = -2147483648
	many     = 10000
)

// inOrder are the modes, by how many channels are in.
var inOrder = []string{"hold", "single", "duplex", "triple", "quad"}

// statusMayBe tells whether a status may be, by chapter 16's words.
func statusMayBe(s api.Status) bool {
	if s.In < 0 || s.In > 15 || s.Latched < 0 || s.Latched > 15 || s.Fail != (s.In == 0) {
		return false
	}
	return s.Suspect == -1 || s.Suspect >= 0 && s.Suspect <= 3 && s.In/[]int{1, 2, 4, 8}[s.Suspect]%2 == 1
}

// mayBe tells whether an output may be, by chapter 19's words.
func mayBe(o api.Output) bool {
	for i, n := range o.Values {
		if n < least || n > most || !statusMayBe(o.Status[i]) {
			return false
		}
	}
	return o.Seq >= 0 && o.Seq <= 65535
}

// lineOf is an output's line, by the chapter's words; "", if it may not be.
func lineOf(o api.Output) string {
	if !mayBe(o) {
		return ""
	}
	line := fmt.Sprintf("%d", o.Seq)
	for i, n := range o.Values {
		line += fmt.Sprintf(" %d/%s", n, inOrder[bits.OnesCount(uint(o.Status[i].In))])
	}
	return line
}

// aLine is how each line looks, but for what numbers it may have.
var aLine = regexp.MustCompile(`\A(0|[1-9][0-9]{0,4})((?: (?:0|-?[1-9][0-9]{0,9})/(?:hold|single|duplex|triple|quad)){8})\z`)

// readOf is what a line tells, by the chapter's words; false, if it is none's.
func readOf(s string) (values [signals]int, seq int, ok bool) {
	parts := aLine.FindStringSubmatch(s)
	if parts == nil {
		return values, 0, false
	}
	var l [signals]int
	for i, word := range strings.Fields(parts[2]) {
		n, e := strconv.ParseInt(strings.Split(word, "/")[0], 10, 32)
		if e != nil {
			return values, 0, false
		}
		l[i] = int(n)
	}
	n, e := strconv.ParseUint(parts[1], 10, 16)
	if e != nil {
		return values, 0, false
	}
	return l, int(n), true
}

// noteOf is a note's text, by the words of chapters 14 and 17; "", if it may not be.
func noteOf(n api.Note) string {
	for _, x := range [][2]int{{n.Cycle, n.Cycle}, {n.Channel, 3}, {n.Signal, 7}, {n.Kind, 2}, {n.Trips, 63}} {
		if x[0] < 0 || x[0] > x[1] {
			return ""
		}
	}
	var trips []string
	for i, name := range []string{"frame", "range", "spike", "stuck", "drift", "mis"} {
		if n.Trips>>i&1 == 1 {
			trips = append(trips, name)
		}
	}
	if n.Trips == 0 {
		trips = []string{"-"}
	}
	return fmt.Sprintf("cycle %d channel %d signal %d %s %s", n.Cycle, n.Channel, n.Signal, []string{"latched", "back", "out"}[n.Kind], strings.Join(trips, "+"))
}

// runOf is a run's report, by the document's words.
func runOf(r script.Result) []string {
	var l []string
	for _, o := range r.Outputs {
		l = append(l, lineOf(o))
	}
	for _, n := range r.Notes {
		l = append(l, noteOf(n))
	}
	if r.Lost >= 1 {
		l = append(l, "lost "+figuresOf(r.Lost))
	}
	return l
}

// figuresOf is a number's figures, one by one.
func figuresOf(n int) string {
	if n < 10 {
		return string(rune('0' + n))
	}
	return figuresOf(n/10) + string(rune('0'+n%10))
}

// reportOf is a scene's report, by its complaints.
func reportOf(l []judge.Complaint) []string {
	if len(l) == 0 {
		return []string{"good"}
	}
	var out []string
	for _, x := range l {
		out = append(out, fmt.Sprintf("point %d signal %d %s", x.Point, x.Signal, x.Word))
	}
	return out
}

// lined holds P24.1 and P24.2 of an output that may be, and answers its line.
func lined(t testing.TB, o api.Output) string {
	t.Helper()
	if !mayBe(o) {
		t.Fatalf("the test's own: %+v", o)
	}
	line := Line(o)
	if want := lineOf(o); line != want {
		t.Fatalf("Line(%+v) = %q, not %q", o, line, want)
	}
	values, seq, e := Parse(line)
	if values != o.Values || seq != o.Seq || e != 0 {
		t.Fatalf("Parse(%q) = %v, %d, %d", line, values, seq, e)
	}
	return line
}

// unlined holds that outputs that may not be have no line.
func unlined(t testing.TB, l ...api.Output) {
	t.Helper()
	for _, o := range l {
		if mayBe(o) {
			t.Fatalf("the test's own: %+v", o)
		}
		if line := Line(o); line != "" {
			t.Fatalf("Line(%+v) = %q", o, line)
		}
	}
}

// parsed holds what is told of a text against the words, and answers whether it is a line.
func parsed(t testing.TB, s string) bool {
	t.Helper()
	want, number, ok := readOf(s)
	code := 0
	if !ok {
		code = 3
	}
	values, seq, e := Parse(s)
	if values != want || seq != number || int(e) != code {
		t.Fatalf("Parse(%.300q) = %v, %d, %d, not %v, %d, %d", s, values, seq, e, want, number, code)
	}
	return ok
}

// refused holds that texts are no output's line.
func refused(t testing.TB, l ...string) {
	t.Helper()
	for _, s := range l {
		if parsed(t, s) {
			t.Fatalf("the test's own: %q is a line", s)
		}
	}
}
