package word

import (
	"bytes"
	"encoding/binary"
	"math"
	"slices"
	"testing"
)

// The signatures that other layers call.
var (
	_ func(n int) []byte           = Put2
	_ func(n int) []byte           = Put4
	_ func(b []byte) (int, bool)   = Get2
	_ func(b []byte) (int, bool)   = Get4
	_ func(l []int) []byte         = PutAll
	_ func(b []byte) ([]int, bool) = GetAll
	_ func(seq int) int            = Next
	_ func(a, b int) int           = After
)

const (
	least = -2147483648
	most  = 2147483647
	turn  = 65536
)

// counts holds numbers from 0 to 65535, with the edges.
func counts() []int {
	return []int{0, 1, 2, 3, 127, 128, 255, 256, 257, 258, 4660, 32767, 32768, 32769, 65279, 65280, 65532, 65533, 65534, 65535}
}

// noCounts holds others, those among them whose lower 16 bits are the same as a count's.
func noCounts() []int {
	return []int{-1, -2, -255, -256, -32768, -65535, -65536, -65537, 65536, 65537, 65536 + 258, 131071, 131072, most, least, 1 << 32, 1<<32 + 7, 1 << 40, -1 << 40, math.MinInt, math.MinInt + 1, math.MaxInt - 1, math.MaxInt}
}

// numbers holds those from Least to Most, with the edges and each byte's own.
func numbers() []int {
	all := []int{least, least + 1, -2, -1, 0, 1, 2, 258, 65535, 65536, -65536, -65537, 305419896, -305419896, 1 << 30, most - 1, most}
	for bit := range 31 {
		all = append(all, 1<<bit, 1<<bit-1, -1<<bit, -1<<bit-1)
	}
	for byteAt := range 4 {
		for _, c := range []int{1, 127, 128, 255} {
			all = append(all, int(int32(c<<(8*byteAt))))
		}
	}
	for n := range 300 {
		all = append(all, n, -n)
	}
	for i := range 500 {
		all = append(all, int(int32(uint32(i)*2654435761+uint32(i)>>3)))
	}
	return all
}

// noNumbers holds others, those among them whose lower 32 bits are the same as a number's.
func noNumbers() []int {
	return []int{least - 1, least - 2, most + 1, most + 2, 1<<32 - 1, 1 << 32, 1<<32 + 1, 1<<32 + 258, -1 << 32, -1<<32 - 1, -1<<32 + 1, 1 << 40, -1 << 40, math.MinInt, math.MinInt + 1, math.MaxInt - 1, math.MaxInt}
}

// scrambled is n bytes that hang on seed alone.
func scrambled(n, seed int) []byte {
	b := make([]byte, n)
	state := uint64(seed)*2862933555777941757 + 3037000493
	for i := range b {
		state = state*6364136223846793005 + 1442695040888963407
		b[i] = byte(state >> 56)
	}
	return b
}

// lists holds lists of bytes of every length up to 40, each of zeros, of the highest bytes, and of others; and longer ones.
func lists() [][]byte {
	all := [][]byte{nil}
	for n := range 41 {
		all = append(all, make([]byte, n), bytes.Repeat([]byte{255}, n), bytes.Repeat([]byte{128}, n), scrambled(n, n))
	}
	return append(all, scrambled(54, 1), scrambled(255, 2), scrambled(256, 3), scrambled(257, 4), scrambled(1000, 5))
}

// twoOf and fourOf are the chapter's words, by the library.
func twoOf(n int) []byte  { return binary.BigEndian.AppendUint16(nil, uint16(n)) }
func fourOf(n int) []byte { return binary.BigEndian.AppendUint32(nil, uint32(int32(n))) }

func fourOfAll(l []int) []byte {
	var all []byte
	for _, n := range l {
		all = append(all, fourOf(n)...)
	}
	return all
}

func samePut(t *testing.T, name string, of any, got, want []byte) {
	t.Helper()
	if !bytes.Equal(got, want) {
		t.Fatalf("%s(%v) = %v, not %v", name, of, got, want)
	}
}

func sameGet(t *testing.T, name string, get func(b []byte) (int, bool), b []byte, want int, ok bool) {
	t.Helper()
	if got, has := get(b); got != want || has != ok {
		t.Fatalf("%s(%v) = %d, %t, not %d, %t", name, b, got, has, want, ok)
	}
}

func sameGetAll(t *testing.T, b []byte, want []int, ok bool) {
	t.Helper()
	if got, has := GetAll(b); !slices.Equal(got, want) || has != ok {
		t.Fatalf("GetAll(%v) = %v, %t, not %v, %t", b, got, has, want, ok)
	}
}

// P4.1: Put2.
func TestPut2(t *testing.T) {
	for _, x := range []struct {
		n    int
		want []byte
	}{
		{0, []byte{0, 0}}, {1, []byte{0, 1}}, {255, []byte{0, 255}}, {256, []byte{1, 0}}, {258, []byte{1, 2}}, {32767, []byte{127, 255}}, {32768, []byte{128, 0}}, {65534, []byte{255, 254}}, {65535, []byte{255, 255}},
		{-1, nil}, {65536, nil},
	} {
		samePut(t, "Put2", x.n, Put2(x.n), x.want)
	}
	for n := range turn {
		samePut(t, "Put2", n, Put2(n), twoOf(n))
	}
	for _, n := range noCounts() {
		samePut(t, "Put2", n, Put2(n), nil)
	}
}

// P4.1: Put4.
func TestPut4(t *testing.T) {
	for _, x := range []struct {
		n    int
		want []byte
	}{
		{0, []byte{0, 0, 0, 0}}, {1, []byte{0, 0, 0, 1}}, {258, []byte{0, 0, 1, 2}}, {16909060, []byte{1, 2, 3, 4}}, {-1, []byte{255, 255, 255, 255}}, {-2, []byte{255, 255, 255, 254}}, {-256, []byte{255, 255, 255, 0}},
		{-2147483648, []byte{128, 0, 0, 0}}, {-2147483647, []byte{128, 0, 0, 1}}, {2147483646, []byte{127, 255, 255, 254}}, {2147483647, []byte{127, 255, 255, 255}},
		{-2147483649, nil}, {2147483648, nil}, {4294967295, nil},
	} {
		samePut(t, "Put4", x.n, Put4(x.n), x.want)
	}
	for _, n := range numbers() {
		samePut(t, "Put4", n, Put4(n), fourOf(n))
	}
	for _, n := range noNumbers() {
		samePut(t, "Put4", n, Put4(n), nil)
	}
}

// P4.1: Get2.
func TestGet2(t *testing.T) {
	for _, x := range []struct {
		b    []byte
		want int
		ok   bool
	}{
		{nil, 0, false}, {[]byte{}, 0, false}, {[]byte{7}, 0, false}, {[]byte{0, 0}, 0, true}, {[]byte{0, 1}, 1, true}, {[]byte{1, 2}, 258, true}, {[]byte{128, 0}, 32768, true}, {[]byte{255, 255}, 65535, true},
		{[]byte{1, 2, 3}, 0, false}, {[]byte{0, 0, 1, 2}, 0, false}, {[]byte{1, 2, 3, 4, 5}, 0, false}, {[]byte{1, 2, 3, 4, 5, 6, 7, 8}, 0, false},
	} {
		sameGet(t, "Get2", Get2, x.b, x.want, x.ok)
	}
	for _, b := range lists() {
		if len(b) == 2 {
			sameGet(t, "Get2", Get2, b, int(b[0])*256+int(b[1]), true)
		} else {
			sameGet(t, "Get2", Get2, b, 0, false)
		}
	}
}

// P4.1: Get4.
func TestGet4(t *testing.T) {
	for _, x := range []struct {
		b    []byte
		want int
		ok   bool
	}{
		{nil, 0, false}, {[]byte{}, 0, false}, {[]byte{7}, 0, false}, {[]byte{1, 2}, 0, false}, {[]byte{1, 2, 3}, 0, false},
		{[]byte{0, 0, 0, 0}, 0, true}, {[]byte{0, 0, 0, 1}, 1, true}, {[]byte{1, 2, 3, 4}, 16909060, true}, {[]byte{255, 255, 255, 255}, -1, true}, {[]byte{255, 255, 255, 254}, -2, true}, {[]byte{128, 0, 0, 0}, least, true}, {[]byte{127, 255, 255, 255}, most, true}, {[]byte{0, 0, 255, 255}, 65535, true},
		{[]byte{1, 2, 3, 4, 5}, 0, false}, {[]byte{1, 2, 3, 4, 5, 6, 7, 8}, 0, false},
	} {
		sameGet(t, "Get4", Get4, x.b, x.want, x.ok)
	}
	for _, b := range lists() {
		if len(b) == 4 {
			sameGet(t, "Get4", Get4, b, int(int32(binary.BigEndian.Uint32(b))), true)
		} else {
			sameGet(t, "Get4", Get4, b, 0, false)
		}
	}
}

// P4.1: PutAll.
func TestPutAll(t *testing.T) {
	for _, x := range []struct {
		l    []int
		want []byte
	}{
		{nil, nil}, {[]int{}, nil}, {[]int{0}, []byte{0, 0, 0, 0}}, {[]int{-1}, []byte{255, 255, 255, 255}}, {[]int{least}, []byte{128, 0, 0, 0}}, {[]int{most}, []byte{127, 255, 255, 255}},
		{[]int{258, -2}, []byte{0, 0, 1, 2, 255, 255, 255, 254}}, {[]int{least, most, 0}, []byte{128, 0, 0, 0, 127, 255, 255, 255, 0, 0, 0, 0}},
		{[]int{most + 1}, nil}, {[]int{least - 1}, nil}, {[]int{1, most + 1}, nil}, {[]int{least - 1, 1}, nil}, {[]int{most, least - 1, least}, nil},
	} {
		samePut(t, "PutAll", x.l, PutAll(x.l), x.want)
	}
	all := numbers()
	for _, n := range all {
		samePut(t, "PutAll", []int{n}, PutAll([]int{n}), fourOf(n))
	}
	for n := range len(all) + 1 {
		samePut(t, "PutAll", all[:n], PutAll(all[:n]), fourOfAll(all[:n]))
	}
}

// P4.1: one that has no bytes, at whichever place among others, and nothing is answered.
func TestPutAllWithOneThatHasNone(t *testing.T) {
	for _, wrong := range noNumbers() {
		for n := 1; n <= 9; n++ {
			for at := range n {
				l := slices.Clone(numbers()[:n])
				l[at] = wrong
				samePut(t, "PutAll", l, PutAll(l), nil)
			}
		}
	}
}

// P4.1: GetAll.
func TestGetAll(t *testing.T) {
	for _, x := range []struct {
		b    []byte
		want []int
		ok   bool
	}{
		{nil, nil, true}, {[]byte{}, nil, true}, {[]byte{7}, nil, false}, {[]byte{1, 2}, nil, false}, {[]byte{1, 2, 3}, nil, false},
		{[]byte{1, 2, 3, 4}, []int{16909060}, true}, {[]byte{255, 255, 255, 255}, []int{-1}, true}, {[]byte{128, 0, 0, 0}, []int{least}, true},
		{[]byte{1, 2, 3, 4, 5}, nil, false}, {[]byte{0, 0, 1, 2, 255, 255, 255, 254}, []int{258, -2}, true}, {[]byte{0, 0, 1, 2, 255, 255, 255}, nil, false},
		{[]byte{128, 0, 0, 0, 127, 255, 255, 255, 0, 0, 0, 0}, []int{least, most, 0}, true},
	} {
		sameGetAll(t, x.b, x.want, x.ok)
	}
	for _, b := range lists() {
		if len(b)%4 != 0 {
			sameGetAll(t, b, nil, false)
			continue
		}
		var want []int
		for at := 0; at < len(b); at += 4 {
			want = append(want, int(int32(binary.BigEndian.Uint32(b[at:]))))
		}
		sameGetAll(t, b, want, true)
	}
}

// P4.2: each number comes back from its two bytes, all two bytes from their number.
func TestTwoBytesThereAndBack(t *testing.T) {
	for n := range turn {
		sameGet(t, "Get2", Get2, Put2(n), n, true)
		b := []byte{byte(n / 256), byte(n % 256)}
		back, _ := Get2(b)
		samePut(t, "Put2", back, Put2(back), b)
	}
}

// P4.2: so it is with four bytes.
func TestFourBytesThereAndBack(t *testing.T) {
	for _, n := range numbers() {
		sameGet(t, "Get4", Get4, Put4(n), n, true)
	}
	hold := func(b []byte) {
		n, ok := Get4(b)
		if !ok || n < least || n > most {
			t.Fatalf("Get4(%v) = %d, %t", b, n, ok)
		}
		samePut(t, "Put4", n, Put4(n), b)
	}
	for first := range 256 {
		for second := range 256 {
			hold([]byte{byte(first), byte(second), 1, 2})
			hold([]byte{3, 255, byte(first), byte(second)})
			hold([]byte{byte(first), 0, 128, byte(second)})
		}
	}
}

// P4.2: so it is with lists.
func TestListsThereAndBack(t *testing.T) {
	all := numbers()
	for n := range len(all) + 1 {
		sameGetAll(t, PutAll(all[:n]), all[:n], true)
	}
	for _, b := range lists() {
		if l, ok := GetAll(b); ok {
			samePut(t, "PutAll", l, PutAll(l), b)
		}
	}
	long := scrambled(400000, 9)
	l, ok := GetAll(long)
	if !ok || len(l) != 100000 || !bytes.Equal(PutAll(l), long) {
		t.Errorf("%d bytes: %d numbers, %t, or they do not come back", len(long), len(l), ok)
	}
}

// P4.2: of one number alone the lists' calls tell what the others do.
func TestOneAlone(t *testing.T) {
	for _, n := range slices.Concat(numbers(), noNumbers()) {
		samePut(t, "PutAll", []int{n}, PutAll([]int{n}), Put4(n))
	}
	for _, b := range lists() {
		if len(b) == 4 {
			n, ok := Get4(b)
			sameGetAll(t, b, []int{n}, ok)
		}
	}
}

// P4.1: Next.
func TestNext(t *testing.T) {
	for _, x := range []struct{ seq, want int }{
		{0, 1}, {1, 2}, {255, 256}, {32767, 32768}, {65534, 65535}, {65535, 0}, {-1, 0}, {65536, 0},
	} {
		if got := Next(x.seq); got != x.want {
			t.Errorf("Next(%d) = %d, not %d", x.seq, got, x.want)
		}
	}
	for seq := range turn - 1 {
		if got := Next(seq); got != seq+1 {
			t.Fatalf("Next(%d) = %d", seq, got)
		}
	}
	for _, seq := range noCounts() {
		if got := Next(seq); got != 0 {
			t.Errorf("Next(%d) = %d, not 0", seq, got)
		}
	}
}

// P4.1: After.
func TestAfter(t *testing.T) {
	for _, x := range []struct{ a, b, want int }{
		{0, 0, 0}, {5, 5, 0}, {65535, 65535, 0}, {0, 1, 1}, {1, 0, 65535}, {0, 65535, 65535}, {65535, 0, 1}, {65535, 2, 3}, {2, 65535, 65533}, {32768, 0, 32768}, {0, 32768, 32768}, {100, 99, 65535},
		{-1, 5, 0}, {5, -1, 0}, {65536, 5, 0}, {5, 65536, 0}, {-1, 65536, 0}, {65536, -1, 0}, {-1, -1, 0}, {65536, 65536, 0}, {65536, 65535, 0}, {-1, 0, 0}, {0, 65536, 0}, {65535, -1, 0},
	} {
		if got := After(x.a, x.b); got != x.want {
			t.Errorf("After(%d, %d) = %d, not %d", x.a, x.b, got, x.want)
		}
	}
	for _, wrong := range noCounts() {
		for _, other := range slices.Concat(counts(), noCounts()) {
			if After(wrong, other) != 0 || After(other, wrong) != 0 {
				t.Errorf("After of %d and %d: %d, and back %d", wrong, other, After(wrong, other), After(other, wrong))
			}
		}
	}
}

// P4.3: from a number on, once round by Next: After tells each step's count, and behind 65536 steps the number is there again.
func TestRoundAndRound(t *testing.T) {
	for _, a := range counts() {
		b := a
		for n := range turn {
			if got := After(a, b); got != n {
				t.Fatalf("After(%d, %d) = %d, though Next is taken %d times", a, b, got, n)
			}
			b = Next(b)
			if b < 0 || b >= turn {
				t.Fatalf("Next leads from %d to %d", a, b)
			}
		}
		if b != a {
			t.Errorf("once round from %d: %d", a, b)
		}
	}
}

// P4.3: Next, taken as often as After tells, leads there, both ways; both ways together are once round.
func TestNextLeadsThere(t *testing.T) {
	for _, a := range counts() {
		for _, b := range counts() {
			n := After(a, b)
			if n < 0 || n >= turn {
				t.Fatalf("After(%d, %d) = %d", a, b, n)
			}
			at := a
			for range n {
				at = Next(at)
			}
			if at != b {
				t.Errorf("After(%d, %d) = %d, but so often Next leads to %d", a, b, n, at)
			}
			if both := n + After(b, a); a == b && both != 0 || a != b && both != turn {
				t.Errorf("from %d to %d and back: %d", a, b, both)
			}
		}
	}
}

// Rule 4: bytes that are handed in stay as they were, and what lies behind their length is neither read nor written.
func TestBytesStayAsTheyWere(t *testing.T) {
	for _, b := range lists() {
		want2, ok2 := Get2(b)
		want4, ok4 := Get4(b)
		wantAll, okAll := GetAll(b)
		for _, behind := range [][]byte{{0}, {0, 0, 0, 0}, {1, 2, 3, 4, 5, 6, 7}, {255, 255, 255, 255}} {
			memory := slices.Concat(b, behind)
			before := slices.Clone(memory)
			l := memory[:len(b)]
			sameGet(t, "Get2", Get2, l, want2, ok2)
			sameGet(t, "Get4", Get4, l, want4, ok4)
			sameGetAll(t, l, wantAll, okAll)
			if !bytes.Equal(memory, before) {
				t.Fatalf("%v was written into: %v", before, memory)
			}
		}
	}
}

// Rule 4: so it is with numbers, those with one that has no bytes too.
func TestNumbersStayAsTheyWere(t *testing.T) {
	for n := range 20 {
		for _, wrong := range []bool{false, true} {
			l := slices.Clone(numbers()[:n])
			if wrong && n > 0 {
				l[n/2] = most + 1
			}
			want := PutAll(l)
			for _, behind := range [][]int{{0}, {1, 2, 3, 4}, {least - 1, most + 1}} {
				memory := slices.Concat(l, behind)
				before := slices.Clone(memory)
				samePut(t, "PutAll", l, PutAll(memory[:n]), want)
				if !slices.Equal(memory, before) {
					t.Fatalf("%v was written into: %v", before, memory)
				}
			}
		}
	}
}

// apart holds that two answers of one call share no memory, to their last cells.
func apart[E int | byte](t *testing.T, name string, call func() []E) {
	t.Helper()
	first, second := call(), call()
	kept := slices.Clone(second)
	for i := range first[:cap(first)] {
		first[:cap(first)][i] ^= 127
	}
	if !slices.Equal(second, kept) || !slices.Equal(call(), kept) {
		t.Errorf("%s: answers share memory: %v, at first %v", name, second, kept)
	}
}

// Rule 4: an answer is new memory.
func TestAnswersShareNoMemory(t *testing.T) {
	for _, n := range counts() {
		apart(t, "Put2", func() []byte { return Put2(n) })
	}
	all := numbers()
	for _, n := range all {
		apart(t, "Put4", func() []byte { return Put4(n) })
	}
	for n := range 20 {
		l := slices.Clone(all[:n])
		apart(t, "PutAll", func() []byte { return PutAll(l) })
		b := PutAll(l)
		apart(t, "GetAll", func() []int {
			got, _ := GetAll(b)
			return got
		})
		if !slices.Equal(l, all[:n]) || !bytes.Equal(b, fourOfAll(l)) {
			t.Errorf("an answer shares memory with %v or %v", l, b)
		}
		got, _ := GetAll(b)
		clear(b)
		clear(l)
		if !slices.Equal(got, all[:n]) {
			t.Errorf("%v was kept: %v", all[:n], got)
		}
	}
}

// The pieces: four by four, none of which grows into the next one; whoever has enough of them is given no more.
func TestFours(t *testing.T) {
	for _, b := range lists() {
		var joined []byte
		count := 0
		for i, piece := range fours(b) {
			if i != count || len(piece) != 4 || cap(piece) != 4 {
				t.Fatalf("piece %d of %v: at %d, %d of %d bytes", count, b, i, len(piece), cap(piece))
			}
			joined = append(joined, piece...)
			count++
		}
		if !bytes.Equal(joined, b[:len(b)/4*4]) {
			t.Errorf("the pieces of %v: %v", b, joined)
		}
		for enough := range count {
			seen := 0
			for i := range fours(b) {
				seen++
				if i == enough {
					break
				}
			}
			if seen != enough+1 {
				t.Errorf("%v: %d pieces, not %d", b, seen, enough+1)
			}
		}
	}
}

// answer is what the calls tell of one number.
type answer struct {
	two, four, all         string
	next, after, before    int
	get2, get4             int
	ok2, ok4, okAll, okOne bool
}

func answerTo(n int) answer {
	b2, b4 := Put2(n), Put4(n)
	a := answer{two: string(b2), four: string(b4), all: string(PutAll([]int{n, 0, n})), next: Next(n), after: After(n, 9), before: After(9, n)}
	a.get2, a.ok2 = Get2(b2)
	a.get4, a.ok4 = Get4(b4)
	_, a.okAll = GetAll(b2)
	_, a.okOne = GetAll(b4)
	return a
}

// P2: calls ahead change no answer: the same calls in another order answer the same.
func TestAnswersHangOnArgumentsAlone(t *testing.T) {
	forth := slices.Concat(counts(), noCounts(), numbers(), noNumbers())
	first := map[int]answer{}
	for _, n := range forth {
		first[n] = answerTo(n)
	}
	for _, n := range slices.Backward(forth) {
		if got := answerTo(n); got != first[n] {
			t.Errorf("%d: %v, then %v", n, first[n], got)
		}
	}
}
