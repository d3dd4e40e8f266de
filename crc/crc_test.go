package crc

import (
	"bytes"
	"math"
	"math/big"
	"slices"
	"testing"
)

// The signatures that other layers call.
var (
	_ func(b []byte) int            = Sum
	_ func(sum int, b []byte) int   = More
	_ func(b []byte) []byte         = Seal
	_ func(b []byte) ([]byte, bool) = Open
)

// scrambled is n bytes that hang on seed alone.
func scrambled(n, seed int) []byte {
	b := make([]byte, n)
	state := uint64(seed)*2862933555777941757 + 3037000493
	for i := range b {
		state = state*6364136223846793005 + 1442695040888963407
		b[i] = byte(state >> 56)
	}
	return b
}

// samples holds lists of many lengths: no bytes, one, two, those of a frame and of an output with and without their sums, and longer ones.
func samples() [][]byte {
	all := [][]byte{
		nil, {}, {0}, {1}, {128}, {255}, {0, 0}, {0, 1}, {255, 255}, {255, 0}, {0, 255}, {16, 33}, {0, 0, 0}, {255, 255, 255}, {255, 255, 0, 0},
		[]byte("123456789"), make([]byte, 40), bytes.Repeat([]byte{255}, 40),
	}
	for seed, n := range []int{1, 2, 3, 4, 7, 8, 16, 36, 38, 52, 54, 255, 256, 257, 1000} {
		all = append(all, scrambled(n, seed))
	}
	return all
}

// sums holds sums that may be, with the edges.
func sums() []int {
	return []int{0, 1, 2, 255, 256, 4129, 10673, 32767, 32768, 32769, 65534, 65535}
}

// noSums holds numbers that no sum is, those among them whose lower 16 bits are one.
func noSums() []int {
	return []int{-1, -2, -4129, -32768, -65535, -65536, -65537, 65536, 65537, 65536 + 4129, 131071, 131072, 1 << 31, 1<<31 - 1, -1 << 31, 1 << 32, 1<<32 + 7, 1 << 40, math.MinInt, math.MinInt + 1, math.MaxInt - 1, math.MaxInt}
}

// moreOf is what the chapter's words come to: the rest of a division of polynomials without carries, by x^16 + x^12 + x^5 + 1.
func moreOf(sum int, b []byte) int {
	start := new(big.Int).Lsh(big.NewInt(int64(sum)), uint(8*len(b)))
	told := new(big.Int).Lsh(new(big.Int).SetBytes(b), 16)
	rest := start.Xor(start, told)
	for rest.BitLen() > 16 {
		by := new(big.Int).Lsh(big.NewInt(69665), uint(rest.BitLen()-17))
		rest.Xor(rest, by)
	}
	return int(rest.Int64())
}

func sameOpen(t *testing.T, b, want []byte, ok bool) {
	t.Helper()
	if got, has := Open(b); !bytes.Equal(got, want) || has != ok {
		t.Fatalf("Open(%v) = %v, %t, not %v, %t", b, got, has, want, ok)
	}
}

// P3.1: Sum.
func TestSum(t *testing.T) {
	for _, x := range []struct {
		b    string
		want int
	}{
		{"", 65535}, {"\x00", 57840}, {"\x01", 61905}, {"A", 47381}, {"\xff", 65280}, {"\x00\x00", 7439}, {"\xff\xff", 0}, {"\xff\x00", 7920}, {"\x00\xff", 1023}, {"123456789", 10673}, {"\xff\xff\x00\x00\x00", 0},
	} {
		if got := Sum([]byte(x.b)); got != x.want {
			t.Errorf("Sum(%q) = %d, not %d", x.b, got, x.want)
		}
	}
	if got := Sum(nil); got != 65535 {
		t.Errorf("Sum(nil) = %d", got)
	}
}

// P3.1: Sum, held against a division of polynomials: all lists of one byte and of two, and longer ones.
func TestSumOfAll(t *testing.T) {
	hold := func(b []byte) {
		if got, want := Sum(b), moreOf(65535, b); got != want {
			t.Fatalf("Sum(%v) = %d, not %d", b, got, want)
		}
	}
	for first := range 256 {
		hold([]byte{byte(first)})
		for second := range 256 {
			hold([]byte{byte(first), byte(second)})
		}
	}
	for _, b := range samples() {
		hold(b)
	}
	for n := range 200 {
		hold(scrambled(n, 1000+n))
	}
}

// P3.1: More.
func TestMore(t *testing.T) {
	for _, x := range []struct {
		sum  int
		b    []byte
		want int
	}{
		{0, nil, 0}, {7, nil, 7}, {65535, nil, 65535}, {65535, []byte{}, 65535}, {32768, nil, 32768},
		{0, []byte{0}, 0}, {0, []byte{0, 0, 0}, 0}, {0, []byte{1}, 4129}, {0, []byte{128}, 37256}, {256, []byte{1}, 0}, {1, []byte{0}, 256}, {128, []byte{0}, 32768}, {65535, []byte{0}, 57840}, {65535, []byte{255, 255}, 0}, {10673, []byte{41, 177}, 0},
		{-1, nil, 0}, {65536, nil, 0}, {-1, []byte{1}, 0}, {65536, []byte{1}, 0}, {65536, []byte{0}, 0}, {-1, []byte("123456789"), 0},
	} {
		if got := More(x.sum, x.b); got != x.want {
			t.Errorf("More(%d, %v) = %d, not %d", x.sum, x.b, got, x.want)
		}
	}
}

// P3.1: More of every sum there is, by nothing and by a byte; and of the edges by longer lists.
func TestMoreOfAllSums(t *testing.T) {
	for sum := range 65536 {
		for _, b := range [][]byte{nil, {0}, {77}, {255}} {
			if got, want := More(sum, b), moreOf(sum, b); got != want {
				t.Fatalf("More(%d, %v) = %d, not %d", sum, b, got, want)
			}
		}
	}
	for _, sum := range sums() {
		for _, b := range samples() {
			if got, want := More(sum, b), moreOf(sum, b); got != want {
				t.Fatalf("More(%d, %v) = %d, not %d", sum, b, got, want)
			}
		}
	}
}

// P3.1: what is no sum becomes 0, whatever comes behind.
func TestMoreOfNoSum(t *testing.T) {
	for _, sum := range noSums() {
		for _, b := range samples() {
			if got := More(sum, b); got != 0 {
				t.Errorf("More(%d, %v) = %d", sum, b, got)
			}
		}
	}
}

// P3.1: Seal.
func TestSeal(t *testing.T) {
	for _, x := range []struct{ b, want []byte }{
		{nil, []byte{255, 255}}, {[]byte{}, []byte{255, 255}}, {[]byte{0}, []byte{0, 225, 240}}, {[]byte("A"), []byte{65, 185, 21}}, {[]byte{255}, []byte{255, 255, 0}},
		{[]byte{255, 255}, []byte{255, 255, 0, 0}}, {[]byte{0, 0}, []byte{0, 0, 29, 15}}, {[]byte("123456789"), []byte("123456789\x29\xb1")},
	} {
		if got := Seal(x.b); !bytes.Equal(got, x.want) {
			t.Errorf("Seal(%v) = %v, not %v", x.b, got, x.want)
		}
	}
	for _, b := range samples() {
		sum := moreOf(65535, b)
		want := append(slices.Clone(b), byte(sum/256), byte(sum%256))
		if got := Seal(b); !bytes.Equal(got, want) {
			t.Errorf("Seal(%v) = %v, not %v", b, got, want)
		}
	}
}

// P3.1: Open.
func TestOpen(t *testing.T) {
	for _, x := range []struct {
		b, want []byte
		ok      bool
	}{
		{nil, nil, false}, {[]byte{}, nil, false}, {[]byte{255, 255}, nil, true}, {[]byte{255, 254}, nil, false}, {[]byte{254, 255}, nil, false}, {[]byte{0, 0}, nil, false},
		{[]byte{0, 225, 240}, []byte{0}, true}, {[]byte{65, 185, 21}, []byte{65}, true}, {[]byte{65, 21, 185}, nil, false}, {[]byte{65, 185, 22}, nil, false}, {[]byte{66, 185, 21}, nil, false}, {[]byte{255, 255, 0}, []byte{255}, true}, {[]byte{255, 0, 255}, nil, false}, {[]byte{255, 255, 255}, nil, false},
		{[]byte{255, 255, 0, 0}, []byte{255, 255}, true}, {[]byte{0, 0, 0, 0}, nil, false}, {[]byte{0, 0, 29, 15}, []byte{0, 0}, true},
		{[]byte("123456789\x29\xb1"), []byte("123456789"), true}, {[]byte("123456789\xb1\x29"), nil, false}, {[]byte("123456789"), nil, false}, {[]byte("123456789\x29"), nil, false}, {[]byte("23456789\x29\xb1"), nil, false}, {[]byte("123456789\x29\xb1\x00\x00\x01"), nil, false},
		// The sum of what is sealed is 0, and stays so by each 0 behind it.
		{[]byte("123456789\x29\xb1\x00\x00\x00"), []byte("123456789\x29\xb1\x00"), true},
	} {
		sameOpen(t, x.b, x.want, x.ok)
	}
}

// P3.1: of fewer than two bytes none opens, whichever they are.
func TestOpenOfFewerThanTwo(t *testing.T) {
	sameOpen(t, nil, nil, false)
	for c := range 256 {
		sameOpen(t, []byte{byte(c)}, nil, false)
	}
}

// P3.1: just one end opens: all there are, behind no byte, and behind some others.
func TestJustOneEndOpens(t *testing.T) {
	for _, b := range [][]byte{nil, {0}, {65}, {255}, {255, 255}, []byte("123456789"), scrambled(36, 9)} {
		for end := range 65536 {
			told := append(slices.Clone(b), byte(end/256), byte(end%256))
			if end == moreOf(65535, b) {
				sameOpen(t, told, b, true)
			} else {
				sameOpen(t, told, nil, false)
			}
		}
	}
}

// P3.2: bytes cut in two at every place, the sum of the first ones and more by the others; from other sums on too.
func TestPartByPart(t *testing.T) {
	for _, b := range samples() {
		whole := Sum(b)
		for i := range len(b) + 1 {
			if got := More(Sum(b[:i]), b[i:]); got != whole {
				t.Errorf("%v, cut at %d: %d, not %d", b, i, got, whole)
			}
			for _, sum := range sums() {
				if got, want := More(More(sum, b[:i]), b[i:]), More(sum, b); got != want {
					t.Errorf("%v from %d on, cut at %d: %d, not %d", b, sum, i, got, want)
				}
			}
		}
	}
}

// P3.2: one byte after the other, and in three parts.
func TestManyParts(t *testing.T) {
	for _, b := range samples() {
		whole, grown := Sum(b), Sum(nil)
		for i := range b {
			grown = More(grown, b[i:i+1])
		}
		if grown != whole {
			t.Errorf("%v, byte by byte: %d, not %d", b, grown, whole)
		}
		if len(b) > 60 {
			continue
		}
		for i := range len(b) + 1 {
			for j := i; j <= len(b); j++ {
				if got := More(More(Sum(b[:i]), b[i:j]), b[j:]); got != whole {
					t.Errorf("%v, cut at %d and %d: %d, not %d", b, i, j, got, whole)
				}
			}
		}
	}
}

// P3.3: what is sealed opens to what it was, and has the sum 0; sealed twice, it opens twice.
func TestSealedOpens(t *testing.T) {
	hold := func(b []byte) {
		sealed := Seal(b)
		sameOpen(t, sealed, b, true)
		if got := Sum(sealed); got != 0 {
			t.Fatalf("Sum(%v) = %d, though it is sealed", sealed, got)
		}
		if got := More(Sum(b), sealed[len(b):]); got != 0 {
			t.Fatalf("the sum of %v, more by itself: %d", b, got)
		}
		twice := Seal(sealed)
		if !bytes.Equal(twice, append(slices.Clone(sealed), 0, 0)) {
			t.Fatalf("Seal(%v) = %v, though its sum is 0", sealed, twice)
		}
		sameOpen(t, twice, sealed, true)
	}
	for _, b := range samples() {
		hold(b)
	}
	for first := range 256 {
		hold([]byte{byte(first)})
		for second := range 256 {
			hold([]byte{byte(first), byte(second)})
		}
	}
	hold(scrambled(100000, 5))
}

// P3.3: with any one byte changed, to any other one, it does not open.
func TestOneByteChanged(t *testing.T) {
	for _, b := range samples() {
		if len(b) > 300 {
			continue
		}
		sealed := Seal(b)
		for i := range sealed {
			for change := 1; change < 256; change++ {
				sealed[i] ^= byte(change)
				sameOpen(t, sealed, nil, false)
				sealed[i] ^= byte(change)
			}
		}
		sameOpen(t, sealed, b, true)
	}
}

// P3.3: so it is with two bytes next to each other, in every way they may be changed.
func TestTwoBytesChanged(t *testing.T) {
	for _, b := range [][]byte{nil, {0}, {255, 255}, []byte("123456789")} {
		sealed := Seal(b)
		for i := range len(sealed) - 1 {
			for change := 1; change < 65536; change++ {
				bad := slices.Clone(sealed)
				bad[i] ^= byte(change / 256)
				bad[i+1] ^= byte(change % 256)
				sameOpen(t, bad, nil, false)
			}
		}
	}
	for _, b := range samples() {
		sealed := Seal(b)
		for i := range len(sealed) - 1 {
			for _, change := range []byte{1, 128, 255} {
				bad := slices.Clone(sealed)
				bad[i] ^= change
				bad[i+1] ^= change
				sameOpen(t, bad, nil, false)
			}
		}
	}
}

// Rule 4: what is handed in stays as it was, and what lies behind a list's length is neither read nor written.
func TestListsStayAsTheyWere(t *testing.T) {
	for _, b := range samples() {
		for _, told := range [][]byte{b, Seal(b)} {
			sum, sealed := Sum(told), Seal(told)
			opened, ok := Open(told)
			for _, behind := range [][]byte{{0, 0, 0, 0}, {1, 2, 3, 4}, {255, 255, 255, 255}, sealed[len(told):]} {
				memory := slices.Concat(told, behind)
				before := slices.Clone(memory)
				l := memory[:len(told)]
				if Sum(l) != sum || More(65535, l) != sum || !bytes.Equal(Seal(l), sealed) {
					t.Errorf("%v: it looked behind the list's length", told)
				}
				sameOpen(t, l, opened, ok)
				More(65536, l)
				if !bytes.Equal(memory, before) {
					t.Errorf("%v was written into: %v", before, memory)
				}
			}
		}
	}
}

// Rule 4: an answer is new memory, to its last cell: writing into one of the two leaves the other.
func TestAnswersShareNoMemory(t *testing.T) {
	open := func(b []byte) []byte {
		opened, _ := Open(b)
		return opened
	}
	for _, b := range samples() {
		for c, call := range []func(b []byte) []byte{Seal, open} {
			memory := append(Seal(b), 9, 9, 9, 9)
			before := slices.Clone(memory)
			l := memory[:len(b)+2]
			first, second := call(l), call(l)
			kept := slices.Clone(second)
			for i := range first[:cap(first)] {
				first[:cap(first)][i] ^= 255
			}
			if !bytes.Equal(memory, before) || !bytes.Equal(second, kept) {
				t.Errorf("call %d of %v shares memory", c, before)
			}
			clear(memory)
			if !bytes.Equal(second, kept) {
				t.Errorf("call %d of %v shares memory with what it was given", c, before)
			}
		}
	}
}

// Rule 2: beside false there are no bytes.
func TestNothingBesideFalse(t *testing.T) {
	for _, b := range samples() {
		for n := range len(b) + 1 {
			if got, ok := Open(b[:n]); !ok && len(got) != 0 {
				t.Errorf("Open(%v) = %v, though it does not open", b[:n], got)
			}
		}
	}
}

// answer is what the calls tell of one list.
type answer struct {
	sum, more, wrong int
	sealed, opened   string
	ok               bool
}

// answers calls everything, list by list.
func answers(all [][]byte) map[string]answer {
	got := map[string]answer{}
	for _, b := range all {
		opened, ok := Open(b)
		got[string(b)] = answer{Sum(b), More(7, b), More(-1, b), string(Seal(b)), string(opened), ok}
	}
	return got
}

// P2: calls ahead change no answer: the same calls in another order answer the same.
func TestAnswersHangOnArgumentsAlone(t *testing.T) {
	var forth [][]byte
	for _, b := range samples() {
		forth = append(forth, b, Seal(b))
	}
	back := slices.Clone(forth)
	slices.Reverse(back)
	first, second := answers(forth), answers(back)
	if len(first) != len(second) {
		t.Fatalf("%d answers, then %d", len(first), len(second))
	}
	for key, got := range first {
		if second[key] != got {
			t.Errorf("%v: %v, then %v", []byte(key), got, second[key])
		}
	}
}
