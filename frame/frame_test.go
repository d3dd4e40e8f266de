package frame

import (
	"bytes"
	"encoding/binary"
	"math"
	"slices"
	"testing"

	"rudder/api"
)

// The signatures that other layers call.
var (
	_ func(f api.Frame) bool                                = Right
	_ func(channel int, f api.Frame) ([]byte, api.Errno)    = Encode
	_ func(channel int, s api.Slot) (api.Frame, api.Reject) = Decode
	_ func(r api.Reject) string                             = Name
)

const (
	least = -2147483648
	most  = 2147483647
	size  = 38
)

// scrambled is n bytes that hang on seed alone.
func scrambled(n, seed int) []byte {
	b := make([]byte, n)
	state := uint64(seed)*2862933555777941757 + 3037000493
	for i := range b {
		state = state*6364136223846793005 + 1442695040888963407
		b[i] = byte(state >> 56)
	}
	return b
}

// sumOf is chapter 3's sum, a bit at a time.
func sumOf(b []byte) uint16 {
	sum := uint16(65535)
	for _, c := range b {
		for bit := 7; bit >= 0; bit-- {
			crossed := sum>>15 != uint16(c>>bit&1)
			sum <<= 1
			if crossed {
				sum ^= 4129
			}
		}
	}
	return sum
}

// sealed is bytes with their sum, by the library.
func sealed(b []byte) []byte {
	return binary.BigEndian.AppendUint16(slices.Clone(b), sumOf(b))
}

// bytesOf is the chapter's words, by the library: of channels there are none of too, as far as a byte holds them.
func bytesOf(channel byte, f api.Frame) []byte {
	b := binary.BigEndian.AppendUint16([]byte{165, channel}, uint16(f.Seq))
	for _, n := range f.Values {
		b = binary.BigEndian.AppendUint32(b, uint32(int32(n)))
	}
	return sealed(b)
}

// with is a frame with a value at a place, and others beside it.
func with(at, n int) api.Frame {
	f := api.Frame{Seq: 7, Values: [8]int{1, -2, 3, -4, 5, -6, 7, -8}}
	f.Values[at] = n
	return f
}

// frames holds those that may be, with the edges at every place.
func frames() []api.Frame {
	all := []api.Frame{{}, {Seq: 258, Values: [8]int{0: -1, 7: 5}}, {Seq: 65535, Values: [8]int{least, most, -1, 0, 1, -2, 65536, 305419896}}}
	for _, seq := range []int{0, 1, 255, 256, 258, 32767, 32768, 65534, 65535} {
		all = append(all, api.Frame{Seq: seq, Values: [8]int{10, -20, 30, -40, 50, -60, 70, -80}})
	}
	for _, n := range []int{least, least + 1, -65537, -65536, -256, -2, -1, 0, 1, 128, 255, 256, 65535, 65536, 1 << 24, most - 1, most} {
		all = append(all, api.Frame{Seq: 9, Values: [8]int{n, n, n, n, n, n, n, n}})
		for at := range 8 {
			all = append(all, with(at, n))
		}
	}
	for seed := range 50 {
		b := scrambled(34, seed)
		f := api.Frame{Seq: int(binary.BigEndian.Uint16(b))}
		for i := range f.Values {
			f.Values[i] = int(int32(binary.BigEndian.Uint32(b[2+4*i:])))
		}
		all = append(all, f)
	}
	return all
}

// noFrames holds those that may not be, those among them whose lower bits are the same as one's that may.
func noFrames() []api.Frame {
	var all []api.Frame
	for _, seq := range []int{-1, -2, -65535, -65536, 65536, 65537, 65536 + 258, 131071, least, most, 1 << 32, 1 << 40, math.MinInt, math.MaxInt} {
		all = append(all, api.Frame{Seq: seq}, api.Frame{Seq: seq, Values: [8]int{1, 2, 3, 4, 5, 6, 7, 8}})
	}
	for _, n := range []int{least - 1, least - 2, most + 1, most + 2, 1<<32 - 1, 1 << 32, 1<<32 + 5, -1 << 32, 1 << 40, -1 << 40, math.MinInt, math.MinInt + 1, math.MaxInt - 1, math.MaxInt} {
		for at := range 8 {
			all = append(all, with(at, n), api.Frame{Values: with(at, n).Values}, api.Frame{Seq: -1, Values: with(at, n).Values})
		}
		all = append(all, api.Frame{Values: [8]int{n, n, n, n, n, n, n, n}})
	}
	return all
}

// noChannels holds numbers of which there is no channel, those among them whose lower 8 bits are one's.
func noChannels() []int {
	return []int{-1, -2, -4, -252, -253, -254, -255, -256, 4, 5, 7, 8, 165, 255, 256, 257, 258, 259, 65536, 65538, 1 << 32, 1<<32 + 3, least, most, math.MinInt, math.MinInt + 2, math.MaxInt}
}

// few holds some frames, where all would be too many.
func few() []api.Frame {
	return []api.Frame{{}, {Seq: 258, Values: [8]int{0: -1, 7: 5}}, {Seq: 65535, Values: [8]int{least, most, -1, 0, 1, -2, 65536, 305419896}}, {Seq: 42405, Values: [8]int{165, 165, 165, 165, 165, 165, 165, 165}}}
}

func sameEncode(t *testing.T, channel int, f api.Frame, want []byte, e api.Errno) {
	t.Helper()
	if got, has := Encode(channel, f); !bytes.Equal(got, want) || has != e {
		t.Fatalf("Encode(%d, %v) = %v, %d, not %v, %d", channel, f, got, has, want, e)
	}
}

func sameDecode(t *testing.T, channel int, s api.Slot, want api.Frame, r api.Reject) {
	t.Helper()
	if got, has := Decode(channel, s); got != want || has != r {
		t.Fatalf("Decode(%d, %v) = %v, %d, not %v, %d", channel, s, got, has, want, r)
	}
}

// rejected holds that a slot is told to be no frame, and why.
func rejected(t *testing.T, channel int, s api.Slot, r api.Reject) {
	t.Helper()
	sameDecode(t, channel, s, api.Frame{}, r)
}

func sent(b []byte) api.Slot { return api.Slot{Is: true, Bytes: b} }

// changed is bytes of which one is crossed with others.
func changed(b []byte, at int, by byte) []byte {
	own := slices.Clone(b)
	own[at] ^= by
	return own
}

// P5.1: Right.
func TestRight(t *testing.T) {
	for _, f := range frames() {
		if !Right(f) {
			t.Errorf("Right(%v) = false", f)
		}
	}
	for _, f := range noFrames() {
		if Right(f) {
			t.Errorf("Right(%v) = true", f)
		}
	}
}

// P5.1: Right of every Seq there is, and of those around.
func TestRightOfAllSeqs(t *testing.T) {
	for seq := -70000; seq <= 140000; seq++ {
		if got, want := Right(api.Frame{Seq: seq}), 0 <= seq && seq <= 65535; got != want {
			t.Fatalf("Right of the Seq %d: %t", seq, got)
		}
	}
}

// P5.1: Right at the edges of a value, at every place.
func TestRightAtTheEdges(t *testing.T) {
	for at := range 8 {
		for _, x := range []struct {
			n    int
			want bool
		}{
			{least - 1, false}, {least, true}, {least + 1, true}, {-1, true}, {0, true}, {most - 1, true}, {most, true}, {most + 1, false},
		} {
			if got := Right(with(at, x.n)); got != x.want {
				t.Errorf("Right with %d at %d: %t", x.n, at, got)
			}
		}
	}
}

// P5.1: Encode, on bytes that are written out.
func TestEncode(t *testing.T) {
	for _, x := range []struct {
		channel int
		f       api.Frame
		want    []byte
	}{
		{0, api.Frame{}, []byte{165, 0, 0, 0, 0, 0, 0, 0, 0, 0, 0, 0, 0, 0, 0, 0, 0, 0, 0, 0, 0, 0, 0, 0, 0, 0, 0, 0, 0, 0, 0, 0, 0, 0, 0, 0, 135, 192}},
		{2, api.Frame{Seq: 258, Values: [8]int{0: -1, 7: 5}}, []byte{165, 2, 1, 2, 255, 255, 255, 255, 0, 0, 0, 0, 0, 0, 0, 0, 0, 0, 0, 0, 0, 0, 0, 0, 0, 0, 0, 0, 0, 0, 0, 0, 0, 0, 0, 5, 85, 186}},
		{3, api.Frame{Seq: 65535, Values: [8]int{least, most, -1, 0, 1, -2, 65536, 305419896}}, []byte{165, 3, 255, 255, 128, 0, 0, 0, 127, 255, 255, 255, 255, 255, 255, 255, 0, 0, 0, 0, 0, 0, 0, 1, 255, 255, 255, 254, 0, 1, 0, 0, 18, 52, 86, 120, 146, 152}},
	} {
		sameEncode(t, x.channel, x.f, x.want, api.OK)
		sameDecode(t, x.channel, sent(x.want), x.f, api.Fine)
	}
}

// P5.1: Encode of all frames, at each channel, held against the library's numbers.
func TestEncodeOfAll(t *testing.T) {
	for _, f := range frames() {
		for channel := range 4 {
			want := bytesOf(byte(channel), f)
			if len(want) != size {
				t.Fatalf("%d bytes", len(want))
			}
			sameEncode(t, channel, f, want, api.OK)
		}
	}
}

// P5.1, rule 2: a frame that may not be, or a channel there is none of: ErrArg, and no bytes.
func TestEncodeOfWhatMayNotBe(t *testing.T) {
	for _, f := range noFrames() {
		for channel := range 4 {
			sameEncode(t, channel, f, nil, api.ErrArg)
		}
	}
	for _, channel := range noChannels() {
		for _, f := range slices.Concat(frames(), noFrames()) {
			sameEncode(t, channel, f, nil, api.ErrArg)
		}
	}
}

// P5.1: a slot that is none is Absent, whatever its bytes, and whichever the channel.
func TestAbsent(t *testing.T) {
	fine := bytesOf(2, few()[1])
	for _, b := range [][]byte{nil, {}, {165}, fine, fine[:37], append(slices.Clone(fine), 0), changed(fine, 0, 1), changed(fine, 1, 1), changed(fine, 37, 1), make([]byte, 38), scrambled(38, 1)} {
		for _, channel := range append(noChannels(), 0, 1, 2, 3) {
			rejected(t, channel, api.Slot{Bytes: b}, api.Absent)
		}
	}
}

// P5.1, P5.3: of any other length than 38 it is Length: the first bytes of a frame, a frame with others behind it, and bytes that open.
func TestLength(t *testing.T) {
	for _, f := range few() {
		b := bytesOf(1, f)
		long := slices.Concat(b, make([]byte, 40))
		for n := range len(long) + 1 {
			if n == size {
				continue
			}
			rejected(t, 1, sent(long[:n]), api.Length)
			rejected(t, 1, sent(scrambled(n, n)), api.Length)
		}
		for _, n := range []int{2, 3, 4, 35, 36, 37, 39, 40, 54} {
			rejected(t, 1, sent(sealed(long[:n-2])), api.Length)
		}
		sameDecode(t, 1, sent(long[:size]), f, api.Fine)
		rejected(t, 1, sent(slices.Concat(b, b)), api.Length)
		rejected(t, 1, sent(b[1:]), api.Length)
	}
	rejected(t, 0, sent(nil), api.Length)
	rejected(t, 0, sent([]byte{}), api.Length)
	rejected(t, 0, sent(make([]byte, 100000)), api.Length)
}

// P5.1: where several rejects would hold, the first one tells.
func TestFirstRejectTells(t *testing.T) {
	for _, f := range few() {
		b := bytesOf(2, f)
		wrongSync, wrongOther := changed(b, 0, 16), changed(b, 1, 1)
		all := changed(changed(wrongSync, 1, 1), 20, 1)
		for _, x := range []struct {
			channel int
			s       api.Slot
			want    api.Reject
		}{
			{2, api.Slot{Bytes: all[:37]}, api.Absent}, {-1, api.Slot{Bytes: all}, api.Absent}, {4, api.Slot{}, api.Absent},
			{2, sent(all[:37]), api.Length}, {2, sent(append(all, 1)), api.Length}, {1, sent(b[:37]), api.Length}, {4, sent(nil), api.Length}, {-1, sent(all[:1]), api.Length},
			{2, sent(all), api.Sync}, {1, sent(wrongSync), api.Sync}, {2, sent(changed(wrongSync, 37, 1)), api.Sync}, {4, sent(wrongSync), api.Sync}, {-1, sent(make([]byte, 38)), api.Sync},
			{1, sent(b), api.Other}, {2, sent(wrongOther), api.Other}, {2, sent(changed(wrongOther, 37, 1)), api.Other}, {-1, sent(changed(b, 4, 1)), api.Other}, {4, sent(changed(b, 4, 1)), api.Other},
			// Channel 2, crossed with 1, is channel 3, whose bytes have another sum.
			{2, sent(changed(b, 2, 1)), api.Sum}, {3, sent(wrongOther), api.Sum},
		} {
			rejected(t, x.channel, x.s, x.want)
		}
	}
}

// P5.1: another first byte is Sync, another second one Other, though the bytes open.
func TestSealedButOther(t *testing.T) {
	for _, f := range few() {
		for first := range 256 {
			b := bytesOf(2, f)
			b[0] = byte(first)
			b = sealed(b[:36])
			if first == 165 {
				sameDecode(t, 2, sent(b), f, api.Fine)
			} else {
				rejected(t, 2, sent(b), api.Sync)
				rejected(t, 1, sent(b), api.Sync)
			}
		}
		for second := range 256 {
			b := bytesOf(byte(second), f)
			for channel := range 4 {
				if channel == second {
					sameDecode(t, channel, sent(b), f, api.Fine)
				} else {
					rejected(t, channel, sent(b), api.Other)
				}
			}
		}
	}
}

// P5.1: just one sum opens.
func TestJustOneSumOpens(t *testing.T) {
	f := few()[2]
	b := bytesOf(3, f)
	for end := range 65536 {
		told := binary.BigEndian.AppendUint16(slices.Clone(b[:36]), uint16(end))
		if bytes.Equal(told, b) {
			sameDecode(t, 3, sent(told), f, api.Fine)
		} else {
			rejected(t, 3, sent(told), api.Sum)
		}
	}
}

// P5.1: a channel there is none of is not cut to one there is: the frames of all channels are another's.
func TestDecodeAtNoChannel(t *testing.T) {
	for _, wrong := range noChannels() {
		for _, f := range few() {
			for channel := range 4 {
				rejected(t, wrong, sent(bytesOf(byte(channel), f)), api.Other)
			}
		}
	}
}

// P5.1: the second byte is held against what is handed in alone: bytes that name 4 are Fine at 4, though no frame has them.
func TestDecodeBySecondByteAlone(t *testing.T) {
	for _, f := range few() {
		for channel := 4; channel < 256; channel++ {
			b := bytesOf(byte(channel), f)
			sameDecode(t, channel, sent(b), f, api.Fine)
			sameEncode(t, channel, f, nil, api.ErrArg)
			rejected(t, channel-256, sent(b), api.Other)
			rejected(t, channel+256, sent(b), api.Other)
		}
	}
}

// P5.2: a frame comes back from its bytes at its own channel, and at no other one.
func TestThereAndBack(t *testing.T) {
	for _, f := range frames() {
		for own := range 4 {
			b, e := Encode(own, f)
			if e != api.OK || len(b) != size {
				t.Fatalf("Encode(%d, %v) = %v, %d", own, f, b, e)
			}
			for _, channel := range append(noChannels(), 0, 1, 2, 3) {
				if channel == own {
					sameDecode(t, channel, sent(b), f, api.Fine)
				} else {
					rejected(t, channel, sent(b), api.Other)
				}
			}
		}
	}
}

// P5.2: so does a frame of every Seq there is.
func TestAllSeqsThereAndBack(t *testing.T) {
	for seq := range 65536 {
		f := api.Frame{Seq: seq, Values: [8]int{seq, -seq, least + seq, most - seq, 7: seq * 32767}}
		b, e := Encode(seq%4, f)
		if e != api.OK {
			t.Fatalf("Encode(%d, %v) = %v, %d", seq%4, f, b, e)
		}
		sameDecode(t, seq%4, sent(b), f, api.Fine)
	}
}

// P5.2: bytes that are fine come back from their frame, which may be: any at all, sealed.
func TestBytesComeBack(t *testing.T) {
	for seed := range 2000 {
		b := scrambled(36, seed)
		switch seed {
		case 0:
			b = make([]byte, 36)
		case 1:
			b = bytes.Repeat([]byte{255}, 36)
		case 2:
			b = bytes.Repeat([]byte{128}, 36)
		}
		b[0], b[1] = 165, byte(seed%4)
		b = sealed(b)
		f, r := Decode(seed%4, sent(b))
		if r != api.Fine || !Right(f) {
			t.Fatalf("Decode(%d, %v) = %v, %d", seed%4, b, f, r)
		}
		sameEncode(t, seed%4, f, b, api.OK)
	}
}

// P5.2: two frames that are not alike have no bytes in common, nor has one of two channels.
func TestEachHasItsOwnBytes(t *testing.T) {
	type of struct {
		channel int
		f       api.Frame
	}
	seen := map[string]of{}
	for _, f := range frames() {
		for channel := range 4 {
			b, _ := Encode(channel, f)
			if had, ok := seen[string(b)]; ok && had != (of{channel, f}) {
				t.Errorf("%v and %v have the bytes %v", had, of{channel, f}, b)
			}
			seen[string(b)] = of{channel, f}
		}
	}
}

// P5.3: with one byte changed, in every way it may be, it is Sync, Other, or Sum, by where that was.
func TestOneByteChanged(t *testing.T) {
	for i, f := range slices.Concat(few(), frames()[40:50]) {
		channel := i % 4
		b, e := Encode(channel, f)
		if e != api.OK || len(b) != size {
			t.Fatalf("Encode(%d, %v) = %v, %d", channel, f, b, e)
		}
		for at := range b {
			want := api.Sum
			switch at {
			case 0:
				want = api.Sync
			case 1:
				want = api.Other
			}
			for by := 1; by < 256; by++ {
				rejected(t, channel, sent(changed(b, at, byte(by))), want)
			}
		}
		sameDecode(t, channel, sent(b), f, api.Fine)
	}
}

// P5.1: bytes of any kind are told by the first reject that holds, one after the other.
func TestAnyBytes(t *testing.T) {
	for seed := range 3000 {
		b := scrambled(seed%3+37, seed)
		if seed%2 == 0 {
			b[0] = 165
		}
		if seed%5 < 3 {
			b[1] = byte(seed % 4)
		}
		channel := seed / 7 % 4
		want := api.Fine
		switch {
		case len(b) != size:
			want = api.Length
		case b[0] != 165:
			want = api.Sync
		case int(b[1]) != channel:
			want = api.Other
		case !bytes.Equal(sealed(b[:36]), b):
			want = api.Sum
		}
		if f, r := Decode(channel, sent(b)); r != want || r != api.Fine && f != (api.Frame{}) {
			t.Fatalf("Decode(%d, %v) = %v, %d, not %d", channel, b, f, r, want)
		}
	}
}

// P5.1: Name.
func TestName(t *testing.T) {
	for _, x := range []struct {
		r    api.Reject
		want string
	}{
		{api.Fine, "fine"}, {api.Absent, "absent"}, {api.Length, "length"}, {api.Sync, "sync"}, {api.Other, "other"}, {api.Sum, "sum"}, {api.Stale, "stale"},
		{0, "fine"}, {1, "absent"}, {2, "length"}, {3, "sync"}, {4, "other"}, {5, "sum"}, {6, "stale"},
	} {
		if got := Name(x.r); got != x.want {
			t.Errorf("Name(%d) = %q, not %q", x.r, got, x.want)
		}
	}
	for _, r := range []api.Reject{-1, -2, -6, -7, 7, 8, 9, 255, 256, 257, 65536, 1 << 32, 1<<32 + 1, math.MinInt, math.MinInt + 3, math.MaxInt} {
		if got := Name(r); got != "" {
			t.Errorf("Name(%d) = %q", r, got)
		}
	}
}

// slots holds bytes for which each reject holds, and fine ones, at channel 1.
func slots() [][]byte {
	b := bytesOf(1, few()[2])
	return [][]byte{nil, {}, {165}, b[:36], b[:37], b, append(slices.Clone(b), 0), changed(b, 0, 1), changed(b, 1, 2), changed(b, 2, 1), changed(b, 36, 255), scrambled(38, 3)}
}

// Rule 4: bytes that are handed in stay as they were, and what lies behind their length is neither read nor written.
func TestBytesStayAsTheyWere(t *testing.T) {
	whole := bytesOf(1, few()[2])
	for _, is := range []bool{false, true} {
		for _, b := range slots() {
			want, r := Decode(1, api.Slot{Is: is, Bytes: slices.Clip(slices.Clone(b))})
			for _, behind := range [][]byte{{0}, {0, 0, 0, 0}, {255, 255, 255}, whole, whole[min(len(b), size):]} {
				memory := slices.Concat(b, behind)
				before := slices.Clone(memory)
				sameDecode(t, 1, api.Slot{Is: is, Bytes: memory[:len(b)]}, want, r)
				if !bytes.Equal(memory, before) {
					t.Fatalf("%v was written into: %v", before, memory)
				}
			}
		}
	}
}

// Rule 4: an answer is new memory, to its last cell; a frame that was told stays, whatever becomes of its bytes.
func TestAnswersShareNoMemory(t *testing.T) {
	for _, f := range frames() {
		first, _ := Encode(2, f)
		second, _ := Encode(2, f)
		kept := slices.Clone(second)
		for i := range first[:cap(first)] {
			first[:cap(first)][i] ^= 255
		}
		if !bytes.Equal(second, kept) {
			t.Fatalf("the bytes of %v share memory: %v, at first %v", f, second, kept)
		}
		sameEncode(t, 2, f, kept, api.OK)
		told, r := Decode(2, sent(second))
		clear(second)
		if told != f || r != api.Fine {
			t.Fatalf("%v was kept: %v, %d", f, told, r)
		}
		told.Seq, told.Values = 1, [8]int{9, 9, 9, 9, 9, 9, 9, 9}
		sameDecode(t, 2, sent(kept), f, api.Fine)
	}
}

// answer is what the calls tell of one frame.
type answer struct {
	right bool
	b     string
	e     api.Errno
	f     api.Frame
	r, o  api.Reject
	name  string
}

func answerTo(f api.Frame) answer {
	b, e := Encode(3, f)
	a := answer{right: Right(f), b: string(b), e: e}
	a.f, a.r = Decode(3, sent(b))
	_, a.o = Decode(f.Seq, sent(b))
	a.name = Name(a.r)
	return a
}

// P2: calls ahead change no answer: the same calls in another order answer the same.
func TestAnswersHangOnArgumentsAlone(t *testing.T) {
	forth := slices.Concat(frames(), noFrames())
	first := map[api.Frame]answer{}
	for _, f := range forth {
		first[f] = answerTo(f)
	}
	for _, f := range slices.Backward(forth) {
		if got := answerTo(f); got != first[f] {
			t.Errorf("%v: %v, then %v", f, first[f], got)
		}
	}
}
