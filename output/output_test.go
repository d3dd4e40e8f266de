package output

import (
	"bytes"
	"encoding/binary"
	"math"
	"slices"
	"testing"

	"rudder/api"
)

// The signatures that other layers call.
var (
	_ func(o api.Output) bool                = Right
	_ func(o api.Output) ([]byte, api.Errno) = Encode
	_ func(b []byte) (api.Output, api.Errno) = Decode
	_ func(o api.Output) int                 = Failed
)

// P19.1, P19.2: outputs with their bytes, written out.
func TestWrittenOut(t *testing.T) {
	for _, x := range []struct {
		o      api.Output
		failed int
		b      []byte
	}{
		{some(), 1, []byte{
			90, 1, 18, 52,
			0, 0, 0, 1, 255, 255, 255, 254, 0, 0, 1, 44, 255, 255, 99, 192, 0, 76, 75, 64, 220, 60, 186, 0, 127, 255, 255, 255, 128, 0, 0, 0,
			7, 15, 3, 45, 2, 150, 15, 240, 7, 120, 0, 7, 1, 67, 7, 1,
			59, 11,
		}},
		{calm(), 0, []byte{
			90, 0, 0, 0,
			0, 0, 0, 0, 0, 0, 0, 0, 0, 0, 0, 0, 0, 0, 0, 0, 0, 0, 0, 0, 0, 0, 0, 0, 0, 0, 0, 0, 0, 0, 0, 0,
			7, 15, 7, 15, 7, 15, 7, 15, 7, 15, 7, 15, 7, 15, 7, 15,
			201, 156,
		}},
		{withFailed(withSeq(calm(), 65535), 255), 8, []byte{
			90, 8, 255, 255,
			0, 0, 0, 0, 0, 0, 0, 0, 0, 0, 0, 0, 0, 0, 0, 0, 0, 0, 0, 0, 0, 0, 0, 0, 0, 0, 0, 0, 0, 0, 0, 0,
			15, 0, 15, 16, 15, 32, 15, 48, 15, 64, 15, 80, 15, 96, 15, 112,
			243, 115,
		}},
	} {
		if b, e := Encode(x.o); !bytes.Equal(b, x.b) || e != api.OK {
			t.Errorf("Encode(%v) = %v, %d, not %v", x.o, b, e, x.b)
		}
		if o, e := Decode(x.b); o != x.o || e != api.OK {
			t.Errorf("Decode(%v) = %v, %d, not %v", x.b, o, e, x.o)
		}
		if !Right(x.o) || Failed(x.o) != x.failed {
			t.Errorf("%v: %t, %d", x.o, Right(x.o), Failed(x.o))
		}
		if !mayBe(x.o) || failedOf(x.o) != x.failed || !bytes.Equal(bytesOf(x.o), x.b) {
			t.Errorf("the words tell %t, %d, %v of %v", mayBe(x.o), failedOf(x.o), bytesOf(x.o), x.o)
		}
	}
}

// P19.1: all outputs of the list that may be, and of that which may not.
func TestLists(t *testing.T) {
	for _, o := range outputs() {
		if !mayBe(o) {
			t.Fatalf("%v may not be", o)
		}
		holds(t, o)
	}
	for _, o := range noOutputs() {
		if mayBe(o) {
			t.Fatalf("%v may be", o)
		}
		refused(t, o)
	}
}

// P19.1: an output of each Seq there is, and of those beside them.
func TestAllSeqs(t *testing.T) {
	for seq := range 65536 {
		holds(t, withSeq(some(), seq))
	}
	for n := range 70000 {
		refused(t, withSeq(some(), -1-n), withSeq(some(), 65536+n))
	}
}

// P19.1: Seq at its edges.
func TestSeqAtTheEdges(t *testing.T) {
	for _, o := range bothBases() {
		for _, x := range []struct {
			seq int
			may bool
		}{{math.MinInt, false}, {-65536, false}, {-1, false}, {0, true}, {1, true}, {65534, true}, {65535, true}, {65536, false}, {65537, false}, {1 << 32, false}, {math.MaxInt, false}} {
			told := withSeq(o, x.seq)
			if Right(told) != x.may {
				t.Errorf("Right with the Seq %d: %t", x.seq, !x.may)
			}
			holds(t, told)
		}
	}
}

// P19.1: each of the values at its edges, alone and in all places.
func TestValuesAtTheEdges(t *testing.T) {
	for _, o := range bothBases() {
		for _, x := range []struct {
			n   int
			may bool
		}{{math.MinInt, false}, {-1 << 32, false}, {least - 1, false}, {least, true}, {least + 1, true}, {-1, true}, {0, true}, {most - 1, true}, {most, true}, {most + 1, false}, {1 << 32, false}, {1<<32 + 5, false}, {math.MaxInt, false}} {
			everywhere := o
			for at := range signals {
				told := withValue(o, at, x.n)
				if Right(told) != x.may {
					t.Errorf("Right with the value %d at %d: %t", x.n, at, !x.may)
				}
				holds(t, told)
				everywhere.Values[at] = x.n
			}
			holds(t, everywhere)
		}
	}
}

// P19.1: each of the statuses that may be, and each of those beside them, in each place.
func TestStatusesInEachPlace(t *testing.T) {
	for at := range signals {
		for _, s := range statusesOf(true) {
			told := withStatus(some(), at, s)
			if !Right(told) {
				t.Fatalf("Right with %v at %d: false", s, at)
			}
			holds(t, told)
		}
		for _, s := range statusesOf(false) {
			refused(t, withStatus(some(), at, s))
		}
		for _, s := range statusesOf(true) {
			in, latched, suspect := s, s, s
			in.In, latched.Latched, suspect.Suspect = s.In+16, -1-s.Latched, s.Suspect+8
			refused(t, withStatus(some(), at, in), withStatus(some(), at, latched), withStatus(calm(), at, suspect))
		}
	}
}

// P19.1: what may not be in several parts, or in all, may not be either.
func TestSeveralThatMayNotBe(t *testing.T) {
	l := noOutputs()
	for i, o := range l {
		o.Seq = []int{-1, 65536, o.Seq}[i%3]
		o.Values[i%8], o.Values[i/8%8] = most+1, least-1
		refused(t, o)
		o.Status[i%8] = api.Status{}
		refused(t, o)
	}
	refused(t, api.Output{}, api.Output{Seq: -1}, api.Output{Status: [8]api.Status{{In: 1, Suspect: -1}}})
}

// P19.1: Failed of each set of signals that failed, and of those that may not be.
func TestFailed(t *testing.T) {
	for mask := range 256 {
		want := 0
		for i := range signals {
			want += mask >> i % 2
		}
		for _, o := range bothBases() {
			told := withFailed(o, mask)
			b, e := Encode(told)
			if Failed(told) != want || e != api.OK || len(b) != size || int(b[1]) != want {
				t.Fatalf("%v: %d failed, not %d; %v, %d", told, Failed(told), want, b, e)
			}
			holds(t, told)
			for _, wrong := range []api.Output{withSeq(told, -1), withSeq(told, 65536), withValue(told, mask%8, most+1), withValue(told, mask%8, least-1)} {
				if Failed(wrong) != want {
					t.Fatalf("%v: %d failed, not %d", wrong, Failed(wrong), want)
				}
				refused(t, wrong)
			}
		}
	}
	if n := Failed(api.Output{}); n != 0 {
		t.Errorf("of none %d failed", n)
	}
}

// P19.1: each byte is at its place: a part that is changed changes its own bytes, the count and the sum alone.
func TestBytesInTheirPlaces(t *testing.T) {
	changes := func(o api.Output, places ...int) {
		t.Helper()
		was, now := bytesOf(some()), bytesOf(o)
		b, e := Encode(o)
		if e != api.OK || len(b) != size {
			t.Fatalf("Encode(%v) = %v, %d", o, b, e)
		}
		for at := range 52 {
			if slices.Contains(places, at) != (b[at] != was[at]) || b[at] != now[at] {
				t.Fatalf("Encode(%v) = %v: %d at %d, %d in %v", o, b, b[at], at, was[at], was)
			}
		}
	}
	for place, by := range []int{1 << 8, 1} {
		changes(withSeq(some(), some().Seq^by), 2+place)
	}
	for at := range signals {
		for place, by := range []int{1 << 24, 1 << 16, 1 << 8, 1} {
			changes(withValue(some(), at, some().Values[at]^by), 4+4*at+place)
		}
		latched := some().Status[at]
		latched.Latched ^= 4
		changes(withStatus(some(), at, latched), 37+2*at)
		if suspect := some().Status[at]; suspect.Suspect != -1 {
			suspect.Suspect = -1
			changes(withStatus(some(), at, suspect), 36+2*at)
			changes(withStatus(some(), at, api.Status{Suspect: -1, Latched: 1 + suspect.Latched, Fail: true}), 1, 36+2*at, 37+2*at)
		}
	}
}

// P19.1: bytes of any other length than 54 are none's: the first ones of an output's, those with others behind them, and with a right sum.
func TestLengths(t *testing.T) {
	none(t, nil, []byte{}, []byte{90}, make([]byte, size), make([]byte, 53), make([]byte, 55), make([]byte, 100000), []byte{90, 0})
	for _, o := range outputs()[:40] {
		b := bytesOf(o)
		long := slices.Concat(b, b, b)
		for n := range long {
			if n == size {
				continue
			}
			none(t, long[:n])
			if n >= 2 {
				none(t, sealed(long[:n-2]))
			}
		}
		none(t, b[:53], b[1:], append(slices.Clone(b), 0), append(slices.Clone(b), 90), append([]byte{90}, b...))
		if back, e := Decode(long[:size]); back != o || e != api.OK {
			t.Fatalf("Decode(%v) = %v, %d", b, back, e)
		}
	}
}

// P19.1: with any other first byte, and a right sum, bytes are none's.
func TestFirstByte(t *testing.T) {
	for _, o := range outputs()[:40] {
		for first := range 256 {
			b := toldOf(o)
			b[0] = byte(first)
			if b = sealed(b); first != 90 {
				none(t, b)
			} else if back, e := Decode(b); back != o || e != api.OK {
				t.Fatalf("Decode(%v) = %v, %d", b, back, e)
			}
		}
	}
}

// P19.1: with another count than the statuses tell, and a right sum, bytes are none's.
func TestCount(t *testing.T) {
	for mask := range 256 {
		for _, o := range bothBases() {
			o = withFailed(o, mask)
			for count := range 256 {
				b := toldOf(o)
				b[1] = byte(count)
				if b = sealed(b); count != failedOf(o) {
					none(t, b)
				} else if back, e := Decode(b); back != o || e != api.OK {
					t.Fatalf("Decode(%v) = %v, %d", b, back, e)
				}
			}
		}
	}
}

// P19.1: with another sum bytes are none's.
func TestSum(t *testing.T) {
	for _, o := range bothBases() {
		for sum := range 65536 {
			b := binary.BigEndian.AppendUint16(toldOf(o), uint16(sum))
			if !bytes.Equal(b, bytesOf(o)) {
				none(t, b)
			} else if back, e := Decode(b); back != o || e != api.OK {
				t.Fatalf("Decode(%v) = %v, %d", b, back, e)
			}
		}
		b := bytesOf(o)
		b[52], b[53] = ^b[52], ^b[53]
		none(t, b)
	}
}

// P19.1, P19.2: bytes with a right sum, with each word in each place: none's, if it is no status's, whatever the count is.
func TestWordsInEachPlace(t *testing.T) {
	known := wordsOf(t)
	for at := range signals {
		for n := range 65536 {
			if n > 8192 && n%8 != at {
				continue
			}
			b := toldOf(calm())
			binary.BigEndian.PutUint16(b[36+2*at:], uint16(n))
			if known[n].Fail {
				none(t, sealed(b))
				b[1] = 1
			}
			decodes(t, known, sealed(b))
		}
		for _, n := range []int{0, 2, 257, 1024, 1792, 2048, 2049, 4081, 4096 + 813, 8192 + 3840, 65535} {
			for count := range 256 {
				b := toldOf(some())
				b[1] = byte(count)
				binary.BigEndian.PutUint16(b[36+2*at:], uint16(n))
				none(t, sealed(b))
			}
		}
	}
}

// P19.2: outputs at the edges and drawn ones come back from their bytes.
func TestThereAndBack(t *testing.T) {
	back := func(o api.Output) {
		t.Helper()
		b, e := Encode(o)
		if e != api.OK || len(b) != size {
			t.Fatalf("Encode(%v) = %v, %d", o, b, e)
		}
		if got, e := Decode(b); got != o || e != api.OK {
			t.Fatalf("Decode(%v) = %v, %d, not %v", b, got, e, o)
		}
	}
	for _, o := range outputs() {
		back(o)
	}
	for seed := range 20000 {
		o := drawn(seed)
		back(o)
		holds(t, o)
	}
}

// drawnBytes are 52 bytes, most of them with words that are statuses', and a count that is theirs, and with the first byte of an output's.
func drawnBytes(seed int, words []int) []byte {
	draw := drawer(seed)
	b := make([]byte, 52)
	for i := range b {
		b[i] = byte(draw(256))
	}
	b[0], b[1] = 90, 0
	for at := 36; at < 52; at += 2 {
		n := words[draw(len(words))]
		binary.BigEndian.PutUint16(b[at:], uint16(n))
		b[1] += byte(n / 2048)
	}
	switch draw(8) {
	case 0:
		b[0] = byte(draw(256))
	case 1:
		b[1] = byte(draw(10))
	case 2:
		binary.BigEndian.PutUint16(b[36+2*draw(signals):], uint16(draw(65536)))
	case 3:
		binary.BigEndian.PutUint16(b[36+2*draw(signals):], uint16(draw(4096)))
	}
	return b
}

// P19.2: drawn bytes that are one's come back from their output; the others are none's.
func TestBytesComeBack(t *testing.T) {
	known := wordsOf(t)
	var words []int
	for _, s := range statusesOf(true) {
		words = append(words, wordOf(s))
	}
	fine, bad := 0, 0
	for seed := range 20000 {
		b := sealed(drawnBytes(seed, words))
		o, e := Decode(b)
		if e != api.OK {
			bad++
		} else if back, f := Encode(o); !Right(o) || f != api.OK || !bytes.Equal(back, b) {
			t.Fatalf("Encode(Decode(%v)) = %v, %d", b, back, f)
		} else {
			fine++
		}
		decodes(t, known, b)
	}
	if fine < 1000 || bad < 1000 {
		t.Errorf("%d were one's, %d none's", fine, bad)
	}
	for seed := range 20000 {
		draw := drawer(seed)
		b := make([]byte, 52+draw(5))
		for i := range b {
			b[i] = byte(draw(256))
		}
		decodes(t, known, b)
		decodes(t, known, sealed(b[:52]))
	}
}

// P19.2: with any one byte changed to any other value they are none's.
func TestOneByteChanged(t *testing.T) {
	l := outputs()
	for _, o := range slices.Concat(bothBases(), []api.Output{withFailed(some(), 255), withFailed(calm(), 90)}, l[len(l)-20:]) {
		b, e := Encode(o)
		if e != api.OK || len(b) != size {
			t.Fatalf("Encode(%v) = %v, %d", o, b, e)
		}
		for at := range b {
			for by := 1; by < 256; by++ {
				b[at] ^= byte(by)
				none(t, b)
				b[at] ^= byte(by)
			}
		}
		if back, e := Decode(b); back != o || e != api.OK {
			t.Fatalf("Decode(%v) = %v, %d", b, back, e)
		}
	}
}

// P19.2: no two outputs have the same bytes.
func TestEachHasItsOwnBytes(t *testing.T) {
	seen := map[string]api.Output{}
	for _, o := range outputs() {
		b, _ := Encode(o)
		if had, ok := seen[string(b)]; ok && had != o {
			t.Errorf("%v and %v have the bytes %v", had, o, b)
		}
		seen[string(b)] = o
	}
}

// Rule 4: bytes that are handed in stay as they were, and what lies behind their length is neither read nor written.
func TestBytesStayAsTheyWere(t *testing.T) {
	whole := bytesOf(some())
	changed := slices.Clone(whole)
	changed[20]++
	for _, b := range [][]byte{nil, {}, {90}, whole[:52], whole[:53], whole, append(slices.Clone(whole), 0), changed, sealed(changed[:52]), make([]byte, size)} {
		want, e := Decode(slices.Clip(slices.Clone(b)))
		for _, behind := range [][]byte{{0}, {255, 255}, whole[min(len(b), size):], whole} {
			memory := slices.Concat(b, behind)
			before := slices.Clone(memory)
			if o, f := Decode(memory[:len(b)]); o != want || f != e {
				t.Fatalf("Decode(%v), %v behind it, = %v, %d, not %v, %d", b, behind, o, f, want, e)
			}
			if !bytes.Equal(memory, before) {
				t.Fatalf("%v was written into: %v", before, memory)
			}
		}
	}
}

// Rule 4: an answer is new memory, to its last cell; an output that was told stays, whatever becomes of its bytes.
func TestAnswersShareNoMemory(t *testing.T) {
	for _, o := range outputs() {
		first, _ := Encode(o)
		second, _ := Encode(o)
		kept := slices.Clone(second)
		for i := range first[:cap(first)] {
			first[:cap(first)][i] ^= 255
		}
		if !bytes.Equal(second, kept) {
			t.Fatalf("the bytes of %v share memory: %v, at first %v", o, second, kept)
		}
		holds(t, o)
		told, e := Decode(second)
		clear(second)
		if told != o || e != api.OK {
			t.Fatalf("%v was kept: %v, %d", o, told, e)
		}
		told.Seq, told.Values, told.Status = 1, [8]int{9, 9}, [8]api.Status{}
		if back, e := Decode(kept); back != o || e != api.OK {
			t.Fatalf("Decode(%v) = %v, %d, not %v", kept, back, e, o)
		}
	}
}

// answer is what the calls tell of one output.
type answer struct {
	right  bool
	failed int
	b      string
	e, f   api.Errno
	o      api.Output
}

func answerTo(o api.Output) answer {
	a := answer{right: Right(o), failed: Failed(o)}
	b, e := Encode(o)
	a.b, a.e = string(b), e
	a.o, a.f = Decode(b)
	return a
}

// P2: calls ahead change no answer: the same calls in another order answer the same.
func TestAnswersHangOnArgumentsAlone(t *testing.T) {
	forth := slices.Concat(outputs(), noOutputs())
	first := map[api.Output]answer{}
	for _, o := range forth {
		first[o] = answerTo(o)
	}
	for _, o := range slices.Backward(forth) {
		if got := answerTo(o); got != first[o] {
			t.Errorf("%v: %v, then %v", o, first[o], got)
		}
	}
}

// P2: calls that run beside each other answer as they do alone.
func TestBeside(t *testing.T) {
	l := outputs()
	done := make(chan bool)
	for from := range 8 {
		go func() {
			ok := true
			for i := range l {
				o := l[(i+from*7)%len(l)]
				b, e := Encode(o)
				back, f := Decode(bytesOf(o))
				ok = ok && bytes.Equal(b, bytesOf(o)) && e == api.OK && back == o && f == api.OK && Right(o) && Failed(o) == failedOf(o)
			}
			done <- ok
		}()
	}
	for range 8 {
		if !<-done {
			t.Error("calls beside each other answer otherwise")
		}
	}
}

// P1: outputs and bytes of any kind end, and none panics.
func TestAnyArguments(t *testing.T) {
	known := wordsOf(t)
	for seed := range 20000 {
		draw := drawer(seed)
		number := func() int {
			n := draw(math.MaxInt) >> draw(63)
			return []int{n, -n, -n - 1, math.MaxInt - n, math.MinInt + n}[draw(5)]
		}
		o := api.Output{Seq: number()}
		for i := range signals {
			o.Values[i] = number()
			o.Status[i] = api.Status{In: number(), Latched: number(), Suspect: number(), Fail: draw(2) == 0}
		}
		holds(t, o)
		near := drawn(seed)
		switch at := draw(signals); draw(5) {
		case 0:
			near.Seq = draw(70000) - 2000
		case 1:
			near.Values[at] = number()
		case 2:
			near.Status[at] = api.Status{In: draw(20) - 2, Latched: draw(20) - 2, Suspect: draw(8) - 3, Fail: draw(2) == 0}
		case 3:
			near.Status[at].Fail = !near.Status[at].Fail
		}
		holds(t, near)
		b := bytesOf(drawn(seed))
		b[draw(size)] ^= byte(draw(256))
		decodes(t, known, b[:draw(size+1)])
		decodes(t, known, b)
		decodes(t, known, sealed(b[:52]))
	}
}
