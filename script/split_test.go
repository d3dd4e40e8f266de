package script

import (
	"bytes"
	"encoding/binary"
	"math"
	"slices"
	"testing"

	"rudder/api"
)

// some is a run of three cycles whose outputs differ in all their parts.
func some(t testing.TB) Result {
	t.Helper()
	c := open(4)
	c.Latch = 1
	l := []api.Cycle{
		cycleOf(0, [signals]int{1, -2, 30, -40, 55, -66, 77, -100}, all(9), all(-7), all(100)),
		cycleOf(1, [signals]int{101, 2, 3, 4, 5, 6, 7, 101}, all(10), all(-101), all(50)),
		{},
	}
	return runs(t, c, l)
}

// drawnOutput is an output that may be, and is of no run.
func drawnOutput(draw func(int) int) api.Output {
	o := api.Output{Seq: draw(turn)}
	for i := range o.Status {
		o.Values[i] = draw(1<<32) + least
		s := api.Status{In: draw(16), Latched: draw(16), Suspect: -1}
		s.Fail = s.In == 0
		if at := draw(4); s.In>>at&1 == 1 {
			s.Suspect = at
		}
		o.Status[i] = s
	}
	return o
}

// P21.1: no bytes are no outputs'.
func TestSplitOfNone(t *testing.T) {
	b := some(t).Bytes
	for _, b := range [][]byte{nil, {}, make([]byte, 0, 100), b[:0], b[54:54], b[162:]} {
		if o, e := Split(b); len(o) != 0 || e != 0 {
			t.Errorf("%v, %d", o, e)
		}
	}
}

// P21.1: a run's bytes, and each piece of them: just those of whole cycles are outputs'.
func TestSplitOfPieces(t *testing.T) {
	r := some(t)
	for from := range len(r.Bytes) + 1 {
		for to := from; to <= len(r.Bytes); to++ {
			b := r.Bytes[from:to]
			if from == to || from%54 == 0 && to%54 == 0 {
				if o, e := Split(b); e != 0 || !slices.Equal(o, r.Outputs[(from+53)/54:][:(to-from)/54]) {
					t.Fatalf("from %d to %d: %v, %d", from, to, o, e)
				}
				continue
			}
			none(t, b)
		}
	}
}

// P21.1: with any bytes behind a run's, or ahead of them, they are none's, if these are not outputs' themselves.
func TestSplitWithMore(t *testing.T) {
	r := some(t)
	draw := drawer(1)
	for n := 1; n <= 170; n++ {
		drawn := make([]byte, n)
		for i := range drawn {
			drawn[i] = byte(draw(256))
		}
		begun := bytes.Repeat(r.Bytes, 2)[:n]
		for _, more := range [][]byte{make([]byte, n), bytes.Repeat([]byte{90}, n), bytes.Repeat([]byte{255}, n), drawn, begun} {
			behind, ahead := slices.Concat(r.Bytes, more), slices.Concat(more, r.Bytes)
			splits(t, behind)
			splits(t, ahead)
			if n%54 != 0 || !bytes.Equal(more, begun) {
				none(t, behind, ahead)
				continue
			}
			want := slices.Concat(r.Outputs, slices.Concat(r.Outputs, r.Outputs)[:n/54])
			if o, e := Split(behind); e != 0 || !slices.Equal(o, want) {
				t.Errorf("with %d more: %v, %d", n, o, e)
			}
		}
	}
}

// P21.1: without any of a run's bytes, in its middle too, they are none's, if these are not a whole cycle's.
func TestSplitWithout(t *testing.T) {
	r := some(t)
	for from := range r.Bytes {
		for n := 1; from+n <= len(r.Bytes); n++ {
			b := slices.Concat(r.Bytes[:from], r.Bytes[from+n:])
			splits(t, b)
			if n%54 != 0 {
				none(t, b)
			}
			if n == 54 && from%54 == 0 {
				if o, e := Split(b); e != 0 || !slices.Equal(o, slices.Concat(r.Outputs[:from/54], r.Outputs[from/54+1:])) {
					t.Errorf("without output %d: %v, %d", from/54, o, e)
				}
			}
		}
	}
}

// P21.1: with any one byte changed they are none's.
func TestSplitOfOneByteChanged(t *testing.T) {
	r := some(t)
	for at := range r.Bytes {
		for by := 1; by < 256; by++ {
			r.Bytes[at] ^= byte(by)
			none(t, r.Bytes)
			r.Bytes[at] ^= byte(by)
		}
	}
	splits(t, r.Bytes)
}

// P21.1: bytes of an output that is none, though their sum is right, at any place.
func TestSplitOfWrongOnes(t *testing.T) {
	r := some(t)
	for place := range 3 {
		told := r.Bytes[54*place : 54*place+52]
		for _, change := range []func(b []byte){
			func(b []byte) { b[0] = 91 },
			func(b []byte) { b[0] = 165 },
			func(b []byte) { b[0] = 0 },
			func(b []byte) { b[1]++ },
			func(b []byte) { b[1]-- },
			func(b []byte) { b[1] ^= 128 },
			func(b []byte) { binary.BigEndian.PutUint16(b[36:], 0) },
			func(b []byte) { binary.BigEndian.PutUint16(b[50:], 257) },    // the suspect is not in
			func(b []byte) { binary.BigEndian.PutUint16(b[40:], 4096+7) }, // no status has such a bit
			func(b []byte) { b[36] |= 240 },
		} {
			b := slices.Clone(told)
			change(b)
			wrong := slices.Concat(r.Bytes[:54*place], sealed(b), r.Bytes[54*place+54:])
			none(t, wrong, wrong[54*place:], wrong[:54*place+54])
		}
		// And one that is one: it is no run's, but the bytes are an output's.
		b := slices.Clone(told)
		b[2], b[39] = 255, 77
		splits(t, slices.Concat(r.Bytes[:54*place], sealed(b), r.Bytes[54*place+54:]))
	}
}

// P21.1: bytes of outputs of any order, of no run too, each of them as often as it stands there.
func TestSplitOfAnyOutputs(t *testing.T) {
	r := some(t)
	for _, order := range [][]int{{2, 1, 0}, {1, 1}, {2, 0, 2, 0}, {0, 0, 0, 0, 0}} {
		var want []api.Output
		for _, at := range order {
			want = append(want, r.Outputs[at])
		}
		if o, e := Split(joined(want...)); e != 0 || !slices.Equal(o, want) {
			t.Errorf("%v: %v, %d", order, o, e)
		}
	}
	for seed := range 60 {
		draw := drawer(seed)
		var want []api.Output
		for range draw(20) {
			want = append(want, drawnOutput(draw))
		}
		b := joined(want...)
		if o, e := Split(b); e != 0 || !slices.Equal(o, want) {
			t.Fatalf("seed %d: %v, %d, not %v", seed, o, e, want)
		}
		if len(b) > 0 {
			b[draw(len(b))] ^= byte(1 + draw(255))
			none(t, b)
		}
	}
}

// P21.1: the bytes of more outputs than a script may have cycles are these outputs' all the same.
func TestSplitOfMany(t *testing.T) {
	for _, count := range []int{many - 1, many, many + 1, 70000} {
		var want []api.Output
		o := drawnOutput(drawer(count))
		b := make([]byte, 0, size*count)
		for i := range count {
			o.Seq = i % 50
			want = append(want, o)
		}
		few := joined(want[:50]...)
		for i := range count {
			b = append(b, few[size*(i%50):][:size]...)
		}
		if got, e := Split(b); e != 0 || !slices.Equal(got, want) {
			t.Errorf("of %d: %d outputs, %d", count, len(got), e)
		}
		b[len(b)-1] ^= 1
		none(t, b, b[1:], b[:len(b)-1])
	}
}

// P21.1: any bytes.
func TestSplitOfAnyBytes(t *testing.T) {
	for seed := range 200 {
		draw := drawer(1000 + seed)
		b := make([]byte, 1+draw(300))
		for i := range b {
			b[i] = byte(draw(256))
		}
		if seed%2 == 0 {
			for at := 0; at < len(b); at += 54 {
				b[at] = 90
			}
		}
		none(t, b)
	}
}

// Rule 4: bytes stay as they were, those behind their length too, and are not kept.
func TestSplitKeepsNothing(t *testing.T) {
	r := some(t)
	for _, n := range []int{0, 1, 53, 54, 55, 107, 108, 161, 162} {
		b := slices.Clone(r.Bytes)
		b = append(b[:162], 1, 2, 3)
		kept := slices.Clone(b)
		o, e := Split(b[:n])
		if !bytes.Equal(b, kept) {
			t.Fatalf("of %d bytes: they are changed", n)
		}
		for i := range b {
			b[i] ^= 255
		}
		if n%54 == 0 && (e != 0 || !slices.Equal(o, r.Outputs[:n/54])) {
			t.Errorf("of %d bytes: %v, %d", n, o, e)
		}
	}
}

// same holds whether two have the same, whichever comes first, and that each has the same as itself.
func same(t testing.TB, name string, a, b Result, want bool) {
	t.Helper()
	if Same(a, b) != want || Same(b, a) != want || sameOf(a, b) != want {
		t.Errorf("%s: Same is %t, not %t", name, Same(a, b), want)
	}
	if !Same(a, a) || !Same(b, b) {
		t.Errorf("%s: one is not the same as itself", name)
	}
}

// P21.1: nil and empty lists are the same, in each place.
func TestSameOfEmptyOnes(t *testing.T) {
	for mask := range 8 {
		var a Result
		if mask&1 != 0 {
			a.Bytes = []byte{}
		}
		if mask&2 != 0 {
			a.Outputs = make([]api.Output, 0, 3)
		}
		if mask&4 != 0 {
			a.Notes = []api.Note{}
		}
		same(t, "empty", a, Result{}, true)
		for _, n := range []int{1, -1, 1 << 32, math.MinInt} {
			same(t, "lost", Result{Bytes: a.Bytes, Outputs: a.Outputs, Notes: a.Notes, Lost: n}, Result{}, false)
		}
		same(t, "bytes", Result{Bytes: []byte{0}}, a, false)
		same(t, "outputs", Result{Outputs: []api.Output{{}}}, a, false)
		same(t, "notes", Result{Notes: []api.Note{{}}}, a, false)
	}
}

// full is a result with several of all.
func full(t testing.TB) Result {
	t.Helper()
	c, l := drawnScript(8, 60)
	r := runs(t, c, l)
	if len(r.Notes) != 32 || r.Lost == 0 {
		t.Fatalf("%d notes, lost %d", len(r.Notes), r.Lost)
	}
	return r
}

// P21.1: those that differ in one byte.
func TestSameWithOtherBytes(t *testing.T) {
	r := full(t)
	same(t, "a copy", r, cloned(r), true)
	for at := range r.Bytes {
		for _, by := range []byte{1, 128, 255} {
			x := cloned(r)
			x.Bytes[at] ^= by
			same(t, "a byte", r, x, false)
		}
	}
}

// P21.1: those that differ in one number, or bool, of an output.
func TestSameWithOtherOutputs(t *testing.T) {
	r := full(t)
	for at := range r.Outputs {
		for _, by := range []int{1, -1, 65536, 1 << 32, math.MinInt} {
			i := at % signals
			for _, change := range []func(o *api.Output){
				func(o *api.Output) { o.Seq += by },
				func(o *api.Output) { o.Values[i] += by },
				func(o *api.Output) { o.Status[i].In += by },
				func(o *api.Output) { o.Status[i].Latched += by },
				func(o *api.Output) { o.Status[i].Suspect += by },
				func(o *api.Output) { o.Status[i].Fail = !o.Status[i].Fail },
			} {
				x := cloned(r)
				change(&x.Outputs[at])
				same(t, "an output", r, x, false)
			}
		}
	}
}

// P21.1: those that differ in one number of a note.
func TestSameWithOtherNotes(t *testing.T) {
	r := full(t)
	for at := range r.Notes {
		for _, by := range []int{1, -1, 65536, 1 << 32, math.MinInt} {
			for _, change := range []func(n *api.Note){
				func(n *api.Note) { n.Cycle += by },
				func(n *api.Note) { n.Channel += by },
				func(n *api.Note) { n.Signal += by },
				func(n *api.Note) { n.Kind += by },
				func(n *api.Note) { n.Trips += by },
			} {
				x := cloned(r)
				change(&x.Notes[at])
				same(t, "a note", r, x, false)
			}
		}
	}
}

// P21.1: those that differ in what is lost, or in how many of these there are.
func TestSameWithOtherNumbers(t *testing.T) {
	r := full(t)
	for _, by := range []int{1, -1, 32, 256, 1 << 32, math.MinInt} {
		x := cloned(r)
		x.Lost += by
		same(t, "lost", r, x, false)
	}
	for _, n := range []int{0, 1, 5} {
		bytes, outputs, notes := cloned(r), cloned(r), cloned(r)
		bytes.Bytes = bytes.Bytes[:n]
		outputs.Outputs = outputs.Outputs[:n]
		notes.Notes = notes.Notes[:n]
		same(t, "bytes", r, bytes, false)
		same(t, "outputs", r, outputs, false)
		same(t, "notes", r, notes, false)
	}
	more := cloned(r)
	more.Bytes = append(more.Bytes, 0)
	same(t, "a byte more", r, more, false)
	more = cloned(r)
	more.Outputs = append(more.Outputs, more.Outputs[59])
	same(t, "an output more", r, more, false)
	more = cloned(r)
	more.Notes = append(more.Notes, more.Notes[31])
	same(t, "a note more", r, more, false)
}

// P21.1: two of another order differ.
func TestSameOfAnotherOrder(t *testing.T) {
	r := full(t)
	x := cloned(r)
	slices.Reverse(x.Outputs)
	same(t, "outputs", r, x, false)
	x = cloned(r)
	slices.Reverse(x.Notes)
	same(t, "notes", r, x, false)
	x = cloned(r)
	slices.Reverse(x.Bytes)
	same(t, "bytes", r, x, false)
}

// Rule 4: what is held against each other stays as it was; what lies behind a length counts not.
func TestSameChangesNothing(t *testing.T) {
	r := full(t)
	kept := cloned(r)
	long := Result{Bytes: append(cloned(r).Bytes, 1)[:len(r.Bytes)], Outputs: append(cloned(r).Outputs, api.Output{})[:len(r.Outputs)], Notes: append(cloned(r).Notes, api.Note{})[:len(r.Notes)], Lost: r.Lost}
	same(t, "with more behind", r, long, true)
	if !sameOf(r, kept) || !sameOf(long, kept) || long.Bytes[:len(r.Bytes)+1][len(r.Bytes)] != 1 {
		t.Error("what is handed in is changed")
	}
}
