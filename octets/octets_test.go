package octets_test

import (
	"bytes"
	"encoding/binary"
	"math"
	"slices"
	"testing"

	"damper/api"
	"damper/octets"
)

// edges are the numbers at which a byte, a group of seven bits or a sign begins or ends.
func edges() []uint64 {
	out := []uint64{0, 1, 2, 3, 6, 7, 258, 300, 0x0102030405060708, 0xf0e0d0c0b0a09080, 0xaaaaaaaaaaaaaaaa, math.MaxUint64 - 1, math.MaxUint64}
	for bits := range 64 {
		out = append(out, 1<<bits, 1<<bits-1, 1<<bits+1)
	}
	return out
}

// mixed are n numbers of all lengths that look like nothing, the same ones at every call.
func mixed(n int) []uint64 {
	var out []uint64
	state := uint64(2028)
	for i := range n {
		state += 0x9e3779b97f4a7c15
		z := (state ^ state>>30) * 0xbf58476d1ce4e5b9
		z = (z ^ z>>27) * 0x94d049bb133111eb
		out = append(out, (z^z>>31)>>(i%64))
	}
	return out
}

func numbers() []uint64 {
	return append(edges(), mixed(640)...)
}

// inOrder are the lowest bytes of n, by the library.
func inOrder(n uint64, size int) []byte {
	return binary.BigEndian.AppendUint64(nil, n)[8-size:]
}

// sameBytes fails the test where got isn't want; a list without elements may be nil.
func sameBytes(t *testing.T, what string, got, want []byte) {
	t.Helper()
	if !bytes.Equal(got, want) {
		t.Errorf("%s: % x, not % x", what, got, want)
	}
}

// state fails the test where the reader has not so many bytes left, or another fault.
func state(t *testing.T, what string, r *octets.Reader, left int, fault api.Fault) {
	t.Helper()
	if r.Left() != left || r.Fault() != fault {
		t.Errorf("%s: %d left and fault %d, not %d and %d", what, r.Left(), r.Fault(), left, fault)
	}
}

// nothing fails the test where a reader still reads something, or changes by it.
func nothing(t *testing.T, what string, r *octets.Reader) {
	t.Helper()
	left, fault := r.Left(), r.Fault()
	for range 2 {
		if n := r.Uint(1); n != 0 {
			t.Errorf("%s: Uint still reads %d", what, n)
		}
		if n := r.Int(); n != 0 {
			t.Errorf("%s: Int still reads %d", what, n)
		}
		if n := r.Num(); n != 0 {
			t.Errorf("%s: Num still reads %d", what, n)
		}
		for _, n := range []int{-1, 0, 1, math.MaxInt} {
			if b := r.Raw(n); len(b) != 0 {
				t.Errorf("%s: Raw(%d) still reads % x", what, n, b)
			}
		}
	}
	state(t, what+", asked again", r, left, fault)
}

func TestP301Examples(t *testing.T) {
	var w octets.Writer
	w.Uint(258, 3).Num(300).Int(-2).Raw(7)
	sameBytes(t, "the example", w.Bytes(), []byte{0, 1, 2, 172, 2, 0, 0, 0, 0, 0, 0, 0, 3, 7})
	sameBytes(t, "Num(300)", new(octets.Writer).Num(300).Bytes(), []byte{0xac, 0x02})
	sameBytes(t, "Int(-1)", new(octets.Writer).Int(-1).Bytes(), []byte{0, 0, 0, 0, 0, 0, 0, 1})
}

func TestP301UintWritesTheLowestBytesInOrder(t *testing.T) {
	for _, n := range numbers() {
		for size := 1; size <= 8; size++ {
			sameBytes(t, "Uint", new(octets.Writer).Uint(n, size).Bytes(), inOrder(n, size))
		}
	}
}

func TestP301UintOfAnotherNumberOfBytesIsEmpty(t *testing.T) {
	for _, size := range []int{math.MinInt, -8, -1, 0, 9, 10, 64, math.MaxInt/8 + 1, math.MaxInt} {
		w := new(octets.Writer).Raw(5)
		if w.Uint(math.MaxUint64, size) != w {
			t.Errorf("Uint in %d bytes returns another writer", size)
		}
		sameBytes(t, "Uint in no such number of bytes", w.Bytes(), []byte{5})
	}
}

func TestP301IntWritesTheSignInTheLowestBit(t *testing.T) {
	for _, c := range []struct {
		n    int64
		want uint64
	}{
		{0, 0}, {-1, 1}, {1, 2}, {-2, 3}, {2, 4}, {-300, 599}, {300, 600},
		{1 << 62, 1 << 63}, {-1 << 62, 1<<63 - 1},
		{math.MaxInt64, math.MaxUint64 - 1}, {math.MinInt64, math.MaxUint64}, {math.MinInt64 + 1, math.MaxUint64 - 2},
	} {
		sameBytes(t, "Int", new(octets.Writer).Int(c.n).Bytes(), inOrder(c.want, 8))
	}
}

func TestP301NumWritesGroupsOfSevenBits(t *testing.T) {
	for _, c := range []struct {
		n    uint64
		want []byte
	}{
		{0, []byte{0}}, {1, []byte{1}}, {127, []byte{127}}, {128, []byte{0x80, 1}}, {16383, []byte{0xff, 0x7f}}, {16384, []byte{0x80, 0x80, 1}},
		{1<<63 - 1, []byte{255, 255, 255, 255, 255, 255, 255, 255, 127}},
		{1 << 63, []byte{128, 128, 128, 128, 128, 128, 128, 128, 128, 1}},
		{math.MaxUint64, []byte{255, 255, 255, 255, 255, 255, 255, 255, 255, 1}},
	} {
		sameBytes(t, "Num", new(octets.Writer).Num(c.n).Bytes(), c.want)
	}
	for _, n := range numbers() {
		sameBytes(t, "Num", new(octets.Writer).Num(n).Bytes(), binary.AppendUvarint(nil, n))
	}
}

func TestP301RawAppendsTheGivenBytes(t *testing.T) {
	all := make([]byte, 256)
	for i := range all {
		all[i] = byte(i)
	}
	sameBytes(t, "Raw of all bytes", new(octets.Writer).Raw(all...).Bytes(), all)
	sameBytes(t, "Raw of none", new(octets.Writer).Raw(9).Raw().Raw(nil...).Bytes(), []byte{9})
	sameBytes(t, "Raw of some", new(octets.Writer).Raw(1, 2).Raw(3).Bytes(), []byte{1, 2, 3})
}

func TestP301RawKeepsAndChangesNothingOfItsArgument(t *testing.T) {
	room := []byte{1, 2, 3, 4}
	w := new(octets.Writer).Raw(room[:2]...)
	w.Raw(8).Uint(9, 1)
	sameBytes(t, "the argument and what lies behind it", room, []byte{1, 2, 3, 4})
	room[0] = 77
	sameBytes(t, "what was written before the argument changed", w.Bytes(), []byte{1, 2, 8, 9})
}

func TestP301EachMethodReturnsItsWriter(t *testing.T) {
	var w octets.Writer
	for i, got := range []*octets.Writer{w.Uint(1, 2), w.Int(-3), w.Num(4), w.Raw(5), w.Raw()} {
		if got != &w {
			t.Errorf("method %d returns another writer", i)
		}
	}
}

func TestP301BytesIsACopy(t *testing.T) {
	var w octets.Writer
	if b := w.Bytes(); len(b) != 0 {
		t.Errorf("the zero value has % x", b)
	}
	w.Raw(1, 2, 3)
	first := w.Bytes()
	first[0] = 99
	sameBytes(t, "Bytes after a change of its result", w.Bytes(), []byte{1, 2, 3})
	second := w.Bytes()
	_ = append(second, 50)
	w.Raw(4)
	_ = append(second, 51)
	sameBytes(t, "Bytes after an append to its result", w.Bytes(), []byte{1, 2, 3, 4})
	sameBytes(t, "an earlier result after more was written", second, []byte{1, 2, 3})
}

func TestP301NilWriter(t *testing.T) {
	var w *octets.Writer
	for i, got := range []*octets.Writer{w.Uint(1, 2), w.Uint(1, 0), w.Uint(1, 9), w.Int(-3), w.Num(4), w.Raw(5), w.Raw()} {
		if got != nil {
			t.Errorf("method %d of nil returns a writer", i)
		}
	}
	if b := w.Bytes(); len(b) != 0 {
		t.Errorf("Bytes of nil: % x", b)
	}
}

func TestP302Examples(t *testing.T) {
	r := octets.NewReader([]byte{0, 1, 2, 172, 2, 0, 0, 0, 0, 0, 0, 0, 3, 7})
	if n := r.Uint(3); n != 258 {
		t.Errorf("Uint(3) is %d, not 258", n)
	}
	if n := r.Num(); n != 300 {
		t.Errorf("Num() is %d, not 300", n)
	}
	if n := r.Int(); n != -2 {
		t.Errorf("Int() is %d, not -2", n)
	}
	sameBytes(t, "Raw(1)", r.Raw(1), []byte{7})
	state(t, "at the end", r, 0, api.OK)
	if n := r.Uint(1); n != 0 {
		t.Errorf("Uint(1) behind the end is %d", n)
	}
	state(t, "behind the end", r, 0, api.Truncated)
	nothing(t, "behind the end", r)

	r = octets.NewReader([]byte{0x80, 0})
	if n := r.Num(); n != 0 || r.Fault() != api.Malformed {
		t.Errorf("Num of 80 00 is %d with fault %d", n, r.Fault())
	}
}

func TestP302UintReadsTheMostSignificantByteFirst(t *testing.T) {
	for _, n := range numbers() {
		for size := 1; size <= 8; size++ {
			r := octets.NewReader(append(inOrder(n, size), 0xee))
			want := n & (math.MaxUint64 >> (64 - 8*size))
			if got := r.Uint(size); got != want {
				t.Errorf("Uint(%d) is %#x, not %#x", size, got, want)
			}
			state(t, "behind Uint", r, 1, api.OK)
		}
	}
}

func TestP302UintOfAnotherNumberOfBytesReadsNothing(t *testing.T) {
	for _, size := range []int{math.MinInt, -8, -1, 0, 9, 10, 64, math.MaxInt/8 + 1, math.MaxInt} {
		r := octets.NewReader([]byte{1, 2, 3, 4, 5, 6, 7, 8, 9, 10})
		if n := r.Uint(size); n != 0 {
			t.Errorf("Uint(%d) is %d", size, n)
		}
		state(t, "behind an empty Uint", r, 10, api.OK)
		r = octets.NewReader(nil)
		if n := r.Uint(size); n != 0 {
			t.Errorf("Uint(%d) of no bytes is %d", size, n)
		}
		state(t, "behind an empty Uint of no bytes", r, 0, api.OK)
	}
}

func TestP302IntReadsTheSignFromTheLowestBit(t *testing.T) {
	for _, c := range []struct {
		of   uint64
		want int64
	}{
		{0, 0}, {1, -1}, {2, 1}, {3, -2}, {4, 2}, {599, -300}, {600, 300}, {1 << 63, 1 << 62}, {1<<63 - 1, -1 << 62},
		{math.MaxUint64 - 1, math.MaxInt64}, {math.MaxUint64, math.MinInt64},
	} {
		r := octets.NewReader(append(inOrder(c.of, 8), 0xee))
		if got := r.Int(); got != c.want {
			t.Errorf("Int is %d, not %d", got, c.want)
		}
		state(t, "behind Int", r, 1, api.OK)
	}
}

func TestP302RawReadsSoManyBytes(t *testing.T) {
	given := []byte{1, 2, 3, 4, 5}
	for n := range 6 {
		r := octets.NewReader(given)
		sameBytes(t, "Raw", r.Raw(n), given[:n])
		state(t, "behind Raw", r, 5-n, api.OK)
	}
	for _, n := range []int{-1, -5, math.MinInt} {
		r := octets.NewReader(given)
		sameBytes(t, "Raw of a negative number", r.Raw(n), nil)
		state(t, "behind Raw of a negative number", r, 5, api.OK)
	}
	r := octets.NewReader(nil)
	sameBytes(t, "Raw(0) at the end", r.Raw(0), nil)
	state(t, "behind Raw(0) at the end", r, 0, api.OK)
}

func TestP302TruncatedReadsNothing(t *testing.T) {
	given := []byte{1, 2, 3}
	for size := 4; size <= 8; size++ {
		r := octets.NewReader(given)
		if n := r.Uint(size); n != 0 {
			t.Errorf("Uint(%d) of three bytes is %d", size, n)
		}
		state(t, "Uint of too few bytes", r, 3, api.Truncated)
		nothing(t, "Uint of too few bytes", r)
	}
	for _, n := range []int{4, 5, 1 << 30, math.MaxInt} {
		r := octets.NewReader(given)
		sameBytes(t, "Raw of too few bytes", r.Raw(n), nil)
		state(t, "Raw of too few bytes", r, 3, api.Truncated)
		nothing(t, "Raw of too few bytes", r)
	}
	for size := range 8 {
		r := octets.NewReader([]byte{1, 2, 3, 4, 5, 6, 7}[:size])
		if n := r.Int(); n != 0 {
			t.Errorf("Int of %d bytes is %d", size, n)
		}
		state(t, "Int of too few bytes", r, size, api.Truncated)
		nothing(t, "Int of too few bytes", r)
	}
	for size := range 10 {
		r := octets.NewReader(bytes.Repeat([]byte{0x81}, size))
		if n := r.Num(); n != 0 {
			t.Errorf("Num of %d bytes without a last one is %d", size, n)
		}
		state(t, "Num without a last byte", r, size, api.Truncated)
		nothing(t, "Num without a last byte", r)
	}
}

// nine are the bytes of an encoding Num whose tenth is to come.
func nine(lowest byte) []byte {
	return bytes.Repeat([]byte{0x80 | lowest}, 9)
}

func TestP302NumReadsGroupsOfSevenBits(t *testing.T) {
	for _, c := range []struct {
		of   []byte
		want uint64
	}{
		{[]byte{0}, 0}, {[]byte{1}, 1}, {[]byte{0x7f}, 127}, {[]byte{0x80, 1}, 128}, {[]byte{0xac, 2}, 300}, {[]byte{0x80, 0x80, 1}, 16384},
		{append(bytes.Repeat([]byte{0xff}, 8), 0x7f), 1<<63 - 1}, {append(nine(0), 1), 1 << 63}, {append(nine(0x7f), 1), math.MaxUint64},
	} {
		r := octets.NewReader(append(slices.Clone(c.of), 0, 0xff))
		if got := r.Num(); got != c.want {
			t.Errorf("Num of % x is %d, not %d", c.of, got, c.want)
		}
		state(t, "behind Num", r, 2, api.OK)
	}
}

func TestP302NumMalformed(t *testing.T) {
	for _, of := range [][]byte{
		{0x80, 0}, {0xff, 0}, {0x80, 0x80, 0}, {0xac, 0x82, 0},
		append(nine(0), 0), append(nine(0x7f), 0), // the last byte is 0
		append(nine(0), 2), append(nine(0), 3), append(nine(0x7f), 0x7f), append(nine(0), 0x40), // more than 64 bits
		append(nine(0), 0x80), append(nine(0), 0x81), append(nine(0x7f), 0xff), // the tenth byte has its highest bit set
	} {
		for _, behind := range [][]byte{nil, {0}, {1, 1}, {0x80, 0x80}} {
			r := octets.NewReader(append(slices.Clone(of), behind...))
			if n := r.Num(); n != 0 {
				t.Errorf("Num of % x is %d", of, n)
			}
			state(t, "Num of what is malformed", r, len(of)+len(behind), api.Malformed)
			nothing(t, "Num of what is malformed", r)
		}
	}
}

func TestP302TheFirstFaultStays(t *testing.T) {
	r := octets.NewReader([]byte{0x80, 0})
	r.Num()
	r.Raw(3)
	r.Int()
	state(t, "Malformed, then too few bytes", r, 2, api.Malformed)
	r = octets.NewReader([]byte{0x80, 0})
	r.Uint(8)
	r.Num()
	state(t, "Truncated, then Num of what is malformed", r, 2, api.Truncated)
	r = octets.NewReader([]byte{1, 2, 3})
	r.Raw(4)
	r.Uint(0)
	r.Raw(-1)
	state(t, "Truncated, then what reads nothing", r, 3, api.Truncated)
}

func TestP302NewReaderKeepsItsOwnBytes(t *testing.T) {
	given := []byte{1, 2, 3, 4, 5}
	r := octets.NewReader(given)
	given[0], given[1] = 50, 60
	first := r.Raw(2)
	sameBytes(t, "Raw after a change of the argument", first, []byte{1, 2})
	first = append(first[:1], 70, 80)
	sameBytes(t, "Raw after a change of a result", r.Raw(2), []byte{3, 4})
	sameBytes(t, "the argument", given, []byte{50, 60, 3, 4, 5})
	sameBytes(t, "the first result", first, []byte{1, 70, 80})
}

func TestP302Left(t *testing.T) {
	r := octets.NewReader(append([]byte{1, 2, 0xac, 2, 9}, make([]byte, 8)...))
	for i, step := range []struct {
		read func()
		left int
	}{
		{func() {}, 13}, {func() { r.Uint(2) }, 11}, {func() { r.Num() }, 9}, {func() { r.Raw(1) }, 8}, {func() { r.Raw(0) }, 8}, {func() { r.Int() }, 0},
	} {
		step.read()
		if r.Left() != step.left || r.Fault() != api.OK {
			t.Errorf("after step %d: %d left and fault %d, not %d", i, r.Left(), r.Fault(), step.left)
		}
	}
}

func TestP302ReadersWithoutBytes(t *testing.T) {
	for name, r := range map[string]*octets.Reader{"nil bytes": octets.NewReader(nil), "no bytes": octets.NewReader([]byte{}), "zero value": new(octets.Reader)} {
		if r == nil {
			t.Fatalf("%s: no reader", name)
		}
		state(t, name, r, 0, api.OK)
		if n := r.Num(); n != 0 {
			t.Errorf("%s: Num is %d", name, n)
		}
		state(t, name, r, 0, api.Truncated)
		nothing(t, name, r)
	}
}

func TestP302NilReader(t *testing.T) {
	var r *octets.Reader
	state(t, "nil", r, 0, api.Truncated)
	nothing(t, "nil", r)
	for _, size := range []int{-1, 0, 2, 8, 9} {
		if n := r.Uint(size); n != 0 {
			t.Errorf("Uint(%d) of nil is %d", size, n)
		}
	}
}

// item is a thing that is written, and read again by same.
type item struct {
	write func(*octets.Writer)
	same  func(*octets.Reader) bool
}

// items are things of all kinds.
func items() []item {
	var out []item
	for i, n := range numbers() {
		size := i%8 + 1
		low := n & (math.MaxUint64 >> (64 - 8*size))
		some := inOrder(n*3, size)
		out = append(out,
			item{func(w *octets.Writer) { w.Uint(n, size) }, func(r *octets.Reader) bool { return r.Uint(size) == low }},
			item{func(w *octets.Writer) { w.Int(int64(n)) }, func(r *octets.Reader) bool { return r.Int() == int64(n) }},
			item{func(w *octets.Writer) { w.Int(-int64(n)) }, func(r *octets.Reader) bool { return r.Int() == -int64(n) }},
			item{func(w *octets.Writer) { w.Num(n) }, func(r *octets.Reader) bool { return r.Num() == n }},
			item{func(w *octets.Writer) { w.Raw(some...) }, func(r *octets.Reader) bool { return bytes.Equal(r.Raw(size), some) }},
		)
	}
	return out
}

func TestP303WhatWasWrittenIsReadUnchanged(t *testing.T) {
	var w octets.Writer
	for _, x := range items() {
		x.write(&w)
	}
	r := octets.NewReader(w.Bytes())
	for i, x := range items() {
		if !x.same(r) {
			t.Fatalf("item %d is read otherwise", i)
		}
	}
	state(t, "behind all items", r, 0, api.OK)
}

func TestP303AProperPrefixCannotBeRead(t *testing.T) {
	for i, x := range items() {
		var w octets.Writer
		x.write(&w)
		whole := w.Bytes()
		for size := range whole {
			r := octets.NewReader(whole[:size])
			x.same(r)
			if r.Fault() != api.Truncated || r.Left() != size {
				t.Fatalf("item %d, the first %d of % x: fault %d, %d left", i, size, whole, r.Fault(), r.Left())
			}
		}
	}
}

func TestP303DifferentNumbersHaveDifferentBytes(t *testing.T) {
	of := map[string]uint64{}
	for n := range uint64(1 << 15) {
		of[string(new(octets.Writer).Num(n).Bytes())] = n
	}
	if len(of) != 1<<15 {
		t.Errorf("%d encodings of %d numbers", len(of), 1<<15)
	}
	for _, n := range numbers() {
		b := string(new(octets.Writer).Num(n).Bytes())
		if other, there := of[b]; there && other != n {
			t.Errorf("% x is Num of %d and of %d", b, other, n)
		}
		of[b] = n
	}
}

// Every two bytes and every third: what Num reads is what Num writes, so that no number has a second encoding.
func TestP303NoNumberIsReadFromOtherBytes(t *testing.T) {
	for i := range 1 << 18 {
		b := []byte{byte(i), byte(i >> 8), byte(i>>16) | byte(i>>10)&0x80}
		r := octets.NewReader(b)
		n := r.Num()
		if r.Fault() != api.OK {
			continue
		}
		sameBytes(t, "Num of what was read", new(octets.Writer).Num(n).Bytes(), b[:3-r.Left()])
	}
}
