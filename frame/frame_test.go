package frame_test

import (
	"bytes"
	"slices"
	"testing"

	"damper/api"
	"damper/frame"
)

// dice gives numbers that look like nothing, the same ones at every run.
type dice uint64

func (d *dice) below(n int) int {
	*d += 0x9e3779b97f4a7c15
	z := uint64(*d)
	z = (z ^ z>>30) * 0xbf58476d1ce4e5b9
	z = (z ^ z>>27) * 0x94d049bb133111eb
	return int((z ^ z>>31) % uint64(n))
}

// filled are n bytes none of which is 0.
func filled(n int, first byte) []byte {
	out := make([]byte, n)
	for i := range out {
		out[i] = byte(i%250) + first%5 + 1
	}
	return out
}

// cell is a frame of a stream, as the chapter defines it.
type cell struct {
	at      int
	payload []byte
}

// cells are the frames with which b begins, how many bytes they have, and whether a faulty length is behind them.
func cells(b []byte) (out []cell, used int, faulty bool) {
	for used+2 <= len(b) {
		length := 256*int(b[used]) + int(b[used+1])
		if length > 64 {
			return out, used, true
		}
		if used+2+length > len(b) {
			break
		}
		out = append(out, cell{at: used, payload: b[used+2 : used+2+length]})
		used += 2 + length
	}
	return out, used, false
}

// streams are sequences of frames of all lengths, cut off everywhere or ended by what is no frame.
func streams() [][]byte {
	out := [][]byte{
		nil, {0}, {1}, {255}, {0, 0}, {0, 1}, {0, 64}, {0, 65}, {0, 255}, {1, 0}, {255, 255},
		{0, 0, 0}, {0, 0, 0, 0}, {0, 1, 0, 65}, {0, 1, 65, 0, 65}, {0, 2, 7, 8, 9},
		{0, 0, 0, 65, 0, 0}, {0, 1, 5, 1, 0, 0, 1, 5}, {0, 65, 0, 1, 5, 0, 0}, {64, 0, 0, 0},
	}
	var whole []byte
	for length := range 65 {
		whole = append(append(whole, 0, byte(length)), filled(length, byte(length))...)
	}
	out = append(out, whole, append(slices.Clone(whole), 0, 65, 0, 0), append(slices.Clone(whole), 0, 64, 1))
	d := dice(2028)
	for range 300 {
		var b []byte
		for range d.below(12) {
			length := d.below(65)
			if d.below(3) == 0 {
				length = []int{0, 1, 63, 64}[d.below(4)]
			}
			b = append(append(b, 0, byte(length)), filled(length, byte(d.below(256)))...)
		}
		switch d.below(4) {
		case 0:
			b = append(b, []byte{0, 0, 1, 255}[d.below(4)], byte(65+d.below(191)))
			b = append(b, filled(d.below(5), 0)...)
		case 1:
			b = b[:len(b)-d.below(len(b)+1)]
		case 2:
			b = append(b, byte(d.below(2)))
		}
		out = append(out, b)
	}
	return out
}

// samePayloads fails the test where got are not the payloads of want; a list without elements may be nil.
func samePayloads(t *testing.T, what string, got [][]byte, want []cell) {
	t.Helper()
	if len(got) != len(want) {
		t.Errorf("%s: %d payloads, not %d", what, len(got), len(want))
		return
	}
	for i, p := range got {
		if !bytes.Equal(p, want[i].payload) {
			t.Errorf("%s: payload %d is % x, not % x", what, i, p, want[i].payload)
		}
	}
}

// state fails the test where the joiner tells something else about itself.
func state(t *testing.T, what string, j *frame.Joiner, waits int, fault api.Fault) {
	t.Helper()
	if j.Waits() != waits || j.Fault() != fault {
		t.Errorf("%s: %d wait and fault %d, not %d and %d", what, j.Waits(), j.Fault(), waits, fault)
	}
}

func TestP401Examples(t *testing.T) {
	for _, c := range []struct{ payload, want []byte }{
		{[]byte{7, 8}, []byte{0, 2, 7, 8}},
		{[]byte{7}, []byte{0, 1, 7}},
		{nil, []byte{0, 0}},
		{[]byte{}, []byte{0, 0}},
	} {
		if b, fault := frame.Put(c.payload); !bytes.Equal(b, c.want) || fault != api.OK {
			t.Errorf("Put(% x): % x and fault %d, not % x", c.payload, b, fault, c.want)
		}
	}
	for _, c := range []struct {
		b, payload []byte
		size       int
		fault      api.Fault
	}{
		{[]byte{0, 2, 7, 8, 9}, []byte{7, 8}, 4, api.OK},
		{[]byte{0, 2, 7, 8}, []byte{7, 8}, 4, api.OK},
		{[]byte{0, 0}, nil, 2, api.OK},
		{[]byte{0, 0, 0, 65}, nil, 2, api.OK},
		{[]byte{0, 65}, nil, 0, api.Malformed},
		{[]byte{1, 0}, nil, 0, api.Malformed},
		{[]byte{1, 2, 7, 8}, nil, 0, api.Malformed},
		{[]byte{255, 255, 0}, nil, 0, api.Malformed},
		{nil, nil, 0, api.Truncated},
		{[]byte{0}, nil, 0, api.Truncated},
		{[]byte{65}, nil, 0, api.Truncated},
		{[]byte{255}, nil, 0, api.Truncated},
		{[]byte{0, 64}, nil, 0, api.Truncated},
		{[]byte{0, 2, 7}, nil, 0, api.Truncated},
	} {
		p, n, fault := frame.Take(c.b)
		if !bytes.Equal(p, c.payload) || n != c.size || fault != c.fault {
			t.Errorf("Take(% x): % x, %d and fault %d, not % x, %d and %d", c.b, p, n, fault, c.payload, c.size, c.fault)
		}
	}
}

func TestP401OfEveryLength(t *testing.T) {
	for length := range 300 {
		p := filled(length, 3)
		b, fault := frame.Put(p)
		if length > api.MaxFrame {
			if len(b) != 0 || fault != api.Range {
				t.Errorf("Put of %d bytes: % x and fault %d, not Range", length, b, fault)
			}
			continue
		}
		want := append([]byte{0, byte(length)}, p...)
		if !bytes.Equal(b, want) || fault != api.OK {
			t.Errorf("Put of %d bytes: % x and fault %d, not % x", length, b, fault, want)
		}
		for _, behind := range [][]byte{nil, {0}, {0, 1, 7}, filled(200, 1)} {
			got, n, fault := frame.Take(append(slices.Clone(b), behind...))
			if !bytes.Equal(got, p) || n != length+2 || fault != api.OK {
				t.Errorf("Take of a frame of %d bytes before %d: % x, %d and fault %d", length, len(behind), got, n, fault)
			}
		}
		for cut := range b {
			got, n, fault := frame.Take(b[:cut])
			if len(got) != 0 || n != 0 || fault != api.Truncated {
				t.Errorf("Take of %d bytes of a frame of %d: % x, %d and fault %d", cut, length, got, n, fault)
			}
		}
	}
}

func TestP401OfEveryHead(t *testing.T) {
	for length := range 1 << 16 {
		head := []byte{byte(length >> 8), byte(length)}
		for _, behind := range []int{0, 63, 64, 100} {
			b := append(slices.Clone(head), filled(behind, 2)...)
			wantSize, wantFault := 2+length, api.OK
			if length > api.MaxFrame {
				wantSize, wantFault = 0, api.Malformed
			} else if length > behind {
				wantSize, wantFault = 0, api.Truncated
			}
			p, n, fault := frame.Take(b)
			if n != wantSize || fault != wantFault || len(p) != max(wantSize-2, 0) {
				t.Fatalf("Take of % x and %d bytes: %d bytes, %d and fault %d, not %d and %d", head, behind, len(p), n, fault, wantSize, wantFault)
			}
		}
	}
}

func TestP401ResultsAreNewMemory(t *testing.T) {
	room := filled(20, 4)
	kept := slices.Clone(room)
	b, _ := frame.Put(room[:5])
	room[0]++
	if !bytes.Equal(b[2:], kept[:5]) {
		t.Errorf("what is written into a payload is in its frame: % x", b)
	}
	room[0]--
	b[2], b[6] = 99, 99
	b = append(b, 1, 2, 3)
	if !bytes.Equal(room, kept) {
		t.Errorf("what is written into a frame is in its payload: % x", room)
	}
	in := []byte{0, 2, 7, 8, 9, 10}
	p, _, _ := frame.Take(in[:4])
	p[0] = 99
	p = append(p, 98, 97)
	if !bytes.Equal(in, []byte{0, 2, 7, 8, 9, 10}) {
		t.Errorf("what is written into a payload is in what it was taken from: % x", in)
	}
	in[3] = 55
	if !bytes.Equal(p, []byte{99, 8, 98, 97}) {
		t.Errorf("what is written into a stream is in a payload: % x", p)
	}
}

func TestP402Examples(t *testing.T) {
	for at, p := range frame.Each(nil) {
		t.Errorf("Each of nothing yields %d and % x", at, p)
	}
	var ats []int
	var payloads [][]byte
	for at, p := range frame.Each([]byte{0, 2, 7, 8, 0, 0, 0, 1, 5, 0, 2, 1}) {
		ats = append(ats, at)
		payloads = append(payloads, p)
	}
	if !slices.Equal(ats, []int{0, 4, 6}) {
		t.Errorf("the frames begin at %d", ats)
	}
	samePayloads(t, "Each", payloads, []cell{{0, []byte{7, 8}}, {4, nil}, {6, []byte{5}}})
}

func TestP402OfManyStreams(t *testing.T) {
	for _, b := range streams() {
		want, _, _ := cells(b)
		frames := frame.Each(b)
		for stop := range len(want) + 2 { // one consumer stops after each frame, and the last one never
			var got [][]byte
			for at, p := range frames {
				if len(got) < len(want) && at != want[len(got)].at {
					t.Errorf("Each(% x): frame %d begins at %d, not at %d", b, len(got), at, want[len(got)].at)
				}
				got = append(got, p)
				if len(got) == stop {
					break
				}
			}
			seen := want
			if stop > 0 && stop < len(want) {
				seen = want[:stop]
			}
			samePayloads(t, "Each", got, seen)
		}
	}
}

func TestP402SharesNothing(t *testing.T) {
	in := []byte{0, 2, 7, 8, 0, 1, 9, 0, 1, 10}
	frames := frame.Each(in[:7])
	in[1], in[2], in[5] = 65, 50, 65
	for range 2 {
		var got [][]byte
		for _, p := range frames {
			for i := range p {
				p[i]++
			}
			got = append(got, append(p, 77, 77))
		}
		samePayloads(t, "a stream that was written into", got, []cell{{0, []byte{8, 9, 77, 77}}, {4, []byte{10, 77, 77}}})
	}
	if !bytes.Equal(in, []byte{0, 65, 50, 8, 0, 65, 9, 0, 1, 10}) {
		t.Errorf("Each writes into its stream: % x", in)
	}
}

// A long stream of short frames is visited in a time that grows with its length alone.
func TestP402OfALongStream(t *testing.T) {
	const frames = 400_000
	b := bytes.Repeat([]byte{0, 1, 5}, frames)
	n := 0
	for at := range frame.Each(b) {
		if at != 3*n {
			t.Fatalf("frame %d begins at %d", n, at)
		}
		n++
	}
	if n != frames {
		t.Errorf("%d frames, not %d", n, frames)
	}
	var j frame.Joiner
	if got := j.Add(b); len(got) != frames {
		t.Errorf("Add: %d frames, not %d", len(got), frames)
	}
}

func TestP403Examples(t *testing.T) {
	var j frame.Joiner
	state(t, "the zero value", &j, 0, api.OK)
	samePayloads(t, "Add of one byte", j.Add([]byte{0}), nil)
	state(t, "after one byte", &j, 1, api.OK)
	samePayloads(t, "Add", j.Add([]byte{1, 5, 0, 0, 0}), []cell{{0, []byte{5}}, {3, nil}})
	state(t, "after the example", &j, 1, api.OK)
	samePayloads(t, "Add of nothing", j.Add(nil), nil)
	state(t, "after nothing", &j, 1, api.OK)
	samePayloads(t, "Add of an empty frame's end", j.Add([]byte{0}), []cell{{0, nil}})
	state(t, "after an empty frame", &j, 0, api.OK)
}

func TestP403NilJoiner(t *testing.T) {
	var j *frame.Joiner
	for range 2 {
		state(t, "nil", j, 0, api.Truncated)
		for _, b := range streams() {
			samePayloads(t, "nil", j.Add(b), nil)
		}
	}
}

func TestP403Fault(t *testing.T) {
	for _, head := range [][]byte{{0, 65}, {0, 255}, {1, 0}, {1, 1}, {255, 255}} {
		for cut := range 3 {
			var j frame.Joiner
			before := []byte{0, 1, 5, 0, 0}
			got := append(j.Add(append(before, head[:cut]...)), j.Add(append(slices.Clone(head[cut:]), 0, 1, 6))...)
			samePayloads(t, "frames before a faulty length", got, []cell{{0, []byte{5}}, {3, nil}})
			for _, b := range append(streams(), head) {
				state(t, "after a faulty length", &j, 0, api.Malformed)
				samePayloads(t, "after a faulty length", j.Add(b), nil)
			}
		}
	}
	var j frame.Joiner
	j.Add([]byte{255}) // a length has two bytes: with one of them it is not received
	state(t, "half a length", &j, 1, api.OK)
	j.Add([]byte{0})
	state(t, "a length", &j, 0, api.Malformed)
}

func TestP403SharesNothing(t *testing.T) {
	var j frame.Joiner
	room := []byte{0, 2, 7, 8, 0, 1, 5, 0, 2, 1, 66, 67}
	first := j.Add(room[:10])
	for i := range room {
		room[i] += 100
	}
	for i := range first {
		for k := range first[i] {
			first[i][k]++
		}
		first[i] = append(first[i], 90, 91, 92, 93)
	}
	samePayloads(t, "what was returned", first, []cell{{0, []byte{8, 9, 90, 91, 92, 93}}, {4, []byte{6, 90, 91, 92, 93}}})
	if room[10] != 166 || room[11] != 167 {
		t.Errorf("Add writes behind its bytes: %d", room[10:])
	}
	fork := j // a copy of a joiner goes its own way
	samePayloads(t, "what waited", j.Add([]byte{2}), []cell{{0, []byte{1, 2}}})
	samePayloads(t, "what waited, in a copy", fork.Add([]byte{3}), []cell{{0, []byte{1, 3}}})
}

// pieces divides b in one of several ways, and lays empty pieces between.
func pieces(b []byte, d *dice, longest int) [][]byte {
	var out [][]byte
	for len(b) > 0 {
		n := min(d.below(longest+1), len(b))
		out = append(out, b[:n])
		b = b[n:]
	}
	return out
}

func TestP404OfManyDivisions(t *testing.T) {
	d := dice(404)
	for _, b := range streams() {
		divisions := [][][]byte{{b}, {nil, b, nil}}
		for _, longest := range []int{1, 2, 3, 10, 66, 67, 200} {
			divisions = append(divisions, pieces(b, &d, longest))
		}
		for cut := range len(b) + 1 {
			divisions = append(divisions, [][]byte{b[:cut], b[cut:]})
		}
		for _, division := range divisions {
			var j frame.Joiner
			var got [][]byte
			received := 0
			for _, piece := range division {
				got = append(got, j.Add(piece)...)
				received += len(piece)
				want, used, faulty := cells(b[:received])
				samePayloads(t, "Add", got, want)
				if faulty {
					state(t, "Add", &j, 0, api.Malformed)
				} else {
					state(t, "Add", &j, received-used, api.OK)
				}
			}
		}
	}
}
