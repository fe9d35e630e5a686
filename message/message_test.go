package message_test

import (
	"bytes"
	"encoding/binary"
	"math"
	"slices"
	"testing"

	"damper/api"
	"damper/message"
)

// dice gives numbers that look like nothing, the same ones at every run.
type dice uint64

func (d *dice) next() uint64 {
	*d += 0x9e3779b97f4a7c15
	z := uint64(*d)
	z = (z ^ z>>30) * 0xbf58476d1ce4e5b9
	z = (z ^ z>>27) * 0x94d049bb133111eb
	return z ^ z>>31
}

func (d *dice) below(n int) int {
	return int(d.next() % uint64(n))
}

// whole draws a number of any length, negative or not.
func (d *dice) whole() int64 {
	return int64(d.next()) >> d.below(64)
}

// example is the message of the chapter's example, and exampleBytes its encoding.
func example() api.Msg {
	return api.Msg{Kind: api.Trade, Sym: 2, Code: 7, Seq: 1, Tick: 3, ID: 4, With: -1, Price: 5, Qty: 6}
}

func exampleBytes() []byte {
	return []byte{
		3, 2, 7, 1, 3,
		0, 0, 0, 0, 0, 0, 0, 8,
		0, 0, 0, 0, 0, 0, 0, 1,
		0, 0, 0, 0, 0, 0, 0, 10,
		0, 0, 0, 0, 0, 0, 0, 12,
	}
}

// field is one of a message, with its range.
type field struct {
	name        string
	set         func(*api.Msg, int64)
	least, most int64
}

func fields() []field {
	return []field{
		{"Kind", func(m *api.Msg, n int64) { m.Kind = int(n) }, 1, 9},
		{"Sym", func(m *api.Msg, n int64) { m.Sym = int(n) }, 0, 255},
		{"Code", func(m *api.Msg, n int64) { m.Code = int(n) }, 0, 255},
		{"Seq", func(m *api.Msg, n int64) { m.Seq = n }, 0, 1 << 62},
		{"Tick", func(m *api.Msg, n int64) { m.Tick = n }, 0, 1 << 62},
		{"ID", func(m *api.Msg, n int64) { m.ID = n }, -1, 1 << 62},
		{"With", func(m *api.Msg, n int64) { m.With = n }, -1, 1 << 62},
		{"Price", func(m *api.Msg, n int64) { m.Price = n }, math.MinInt64, math.MaxInt64},
		{"Qty", func(m *api.Msg, n int64) { m.Qty = n }, math.MinInt64, math.MaxInt64},
	}
}

// plain are valid messages, a few of them with every field at an end of its range.
func plain() []api.Msg {
	return []api.Msg{
		example(),
		{Kind: api.Ack},
		{Kind: api.Status, Sym: 1, Code: 2},
		{Kind: api.Level, Sym: 255, Code: 255, Seq: 1 << 62, Tick: 1 << 62, ID: 1 << 62, With: 1 << 62, Price: math.MaxInt64, Qty: math.MaxInt64},
		{Kind: api.Ack, ID: -1, With: -1, Price: math.MinInt64, Qty: math.MinInt64},
		{Kind: api.Bands, Sym: 7, Code: 128, Seq: 127, Tick: 128, ID: 300, With: 0, Price: -300, Qty: 1 << 32},
	}
}

// edges are numbers at and around the ends of every range.
func edges() []int64 {
	out := []int64{math.MinInt64, math.MinInt64 + 1, math.MaxInt64, math.MaxInt64 - 1, -1 << 62, -1 << 32, -1<<32 + 1, -1 << 31, -256, -255, -8, -3, -2}
	for n := int64(-1); n < 12; n++ {
		out = append(out, n)
	}
	for _, bit := range []int64{1 << 7, 1 << 8, 1 << 14, 1 << 16, 1 << 31, 1 << 32, 1 << 33, 1 << 40, 1 << 61, 1 << 62} {
		out = append(out, bit-1, bit, bit+1)
	}
	return out
}

// drawn are n valid messages with numbers of all lengths.
func drawn(n int) []api.Msg {
	d := dice(601)
	order := func() int64 {
		if d.below(4) == 0 {
			return -1
		}
		return int64(d.next() >> 2 >> d.below(62))
	}
	var out []api.Msg
	for range n {
		out = append(out, api.Msg{
			Kind: 1 + d.below(9), Sym: d.below(256), Code: d.below(256),
			Seq: int64(d.next() >> 2 >> d.below(62)), Tick: int64(d.next() >> 2 >> d.below(62)),
			ID: order(), With: order(), Price: d.whole(), Qty: d.whole(),
		})
	}
	return out
}

// messages are valid ones: plain, at the edges of each field, and drawn.
func messages() []api.Msg {
	out := plain()
	for _, m := range plain() {
		for _, f := range fields() {
			for _, n := range edges() {
				if n >= f.least && n <= f.most {
					changed := m
					f.set(&changed, n)
					out = append(out, changed)
				}
			}
		}
	}
	return append(out, drawn(2000)...)
}

// invalid are messages of which one field, at least, is out of its range.
func invalid() []api.Msg {
	out := []api.Msg{{}, {Kind: 10, Sym: -1, Code: 256, Seq: -1, Tick: -1, ID: -2, With: -2}}
	for _, m := range plain() {
		for _, f := range fields() {
			for _, n := range edges() {
				if n < f.least || n > f.most {
					changed := m
					f.set(&changed, n)
					out = append(out, changed)
				}
			}
		}
	}
	return out
}

// encoded is the chapter's encoding of a valid message, by the library.
func encoded(m api.Msg) []byte {
	b := []byte{byte(m.Kind), byte(m.Sym), byte(m.Code)}
	b = binary.AppendUvarint(b, uint64(m.Seq))
	b = binary.AppendUvarint(b, uint64(m.Tick))
	for _, n := range []int64{m.ID, m.With, m.Price, m.Qty} {
		u := 2 * uint64(n)
		if n < 0 {
			u = ^u
		}
		b = binary.BigEndian.AppendUint64(b, u)
	}
	return b
}

// framed is a frame with the payload p.
func framed(p []byte) []byte {
	return append([]byte{byte(len(p) >> 8), byte(len(p))}, p...)
}

// streamed is the chapter's stream of valid messages.
func streamed(l []api.Msg) []byte {
	var b []byte
	for _, m := range l {
		b = append(b, framed(encoded(m))...)
	}
	return b
}

// accepted fails the test where m is not valid or has no encoding, or another one.
func accepted(t *testing.T, what string, m api.Msg) {
	t.Helper()
	if !message.Right(m) {
		t.Errorf("%s: %+v is not valid", what, m)
	}
	if b, fault := message.Encode(m); !bytes.Equal(b, encoded(m)) || fault != api.OK {
		t.Errorf("%s: Encode(%+v) is % x with fault %d, not % x", what, m, b, fault, encoded(m))
	}
}

// refused fails the test where m is valid or has an encoding.
func refused(t *testing.T, what string, m api.Msg) {
	t.Helper()
	if message.Right(m) {
		t.Errorf("%s: %+v is valid", what, m)
	}
	if b, fault := message.Encode(m); len(b) != 0 || fault != api.BadArg {
		t.Errorf("%s: Encode(%+v) is % x with fault %d", what, m, b, fault)
	}
}

// decodes fails the test where b is not the message.
func decodes(t *testing.T, what string, b []byte, want api.Msg) {
	t.Helper()
	given := slices.Clone(b)
	if m, fault := message.Decode(b); m != want || fault != api.OK {
		t.Errorf("%s: Decode(% x) is %+v with fault %d, not %+v", what, b, m, fault, want)
	}
	if !bytes.Equal(b, given) {
		t.Errorf("%s: Decode changes % x to % x", what, given, b)
	}
}

// faulty fails the test where b is a message, or has another fault.
func faulty(t *testing.T, what string, b []byte, want api.Fault) {
	t.Helper()
	given := slices.Clone(b)
	if m, fault := message.Decode(b); m != (api.Msg{}) || fault != want {
		t.Errorf("%s: Decode(% x) is %+v with fault %d, not %d", what, b, m, fault, want)
	}
	if !bytes.Equal(b, given) {
		t.Errorf("%s: Decode changes % x to % x", what, given, b)
	}
}

// holds fails the test where the stream b does not have these messages, or another fault.
func holds(t *testing.T, what string, b []byte, want []api.Msg, fault api.Fault) {
	t.Helper()
	given := slices.Clone(b)
	if l, got := message.All(b); !slices.Equal(l, want) || got != fault {
		t.Errorf("%s: All(% x) is %+v with fault %d, not %+v with %d", what, b, l, got, want, fault)
	}
	if !bytes.Equal(b, given) {
		t.Errorf("%s: All changes % x to % x", what, given, b)
	}
}

func TestP601Examples(t *testing.T) {
	if b, fault := message.Encode(example()); !bytes.Equal(b, exampleBytes()) || len(b) != 37 || fault != api.OK {
		t.Errorf("Encode: % x with fault %d, not % x", b, fault, exampleBytes())
	}
	if !message.Is(example(), 3, 2) {
		t.Error("the example is not of kind 3 and symbol 2")
	}
	b, fault := message.Encode(api.Msg{Kind: api.Status, Sym: 1, Code: 2})
	if want := append([]byte{6, 1, 2, 0, 0}, make([]byte, 32)...); !bytes.Equal(b, want) || fault != api.OK {
		t.Errorf("Encode of a Status: % x with fault %d, not % x", b, fault, want)
	}
}

// Each field has a place of its own.
func TestP601EveryByteOfALongEncoding(t *testing.T) {
	m := api.Msg{
		Kind: 9, Sym: 250, Code: 251, Seq: 1<<62 - 1, Tick: 1 << 62, ID: 1 << 62, With: 0x0011223344556677,
		Price: math.MinInt64, Qty: math.MaxInt64,
	}
	want := []byte{
		9, 250, 251,
		255, 255, 255, 255, 255, 255, 255, 255, 63,
		128, 128, 128, 128, 128, 128, 128, 128, 64,
		128, 0, 0, 0, 0, 0, 0, 0,
		0x00, 0x22, 0x44, 0x66, 0x88, 0xaa, 0xcc, 0xee,
		255, 255, 255, 255, 255, 255, 255, 255,
		255, 255, 255, 255, 255, 255, 255, 254,
	}
	if b, fault := message.Encode(m); !bytes.Equal(b, want) || fault != api.OK {
		t.Errorf("Encode: % x with fault %d, not % x", b, fault, want)
	}
}

func TestP601EveryFieldInAndOutOfItsRange(t *testing.T) {
	for _, m := range plain() {
		for _, f := range fields() {
			for _, n := range append(edges(), f.least, f.most) {
				changed := m
				f.set(&changed, n)
				if n >= f.least && n <= f.most {
					accepted(t, f.name, changed)
				} else {
					refused(t, f.name, changed)
				}
			}
		}
	}
}

func TestP601EveryKindSymAndCode(t *testing.T) {
	for n := -300; n <= 600; n++ {
		for _, f := range fields()[:3] {
			m := example()
			f.set(&m, int64(n))
			if int64(n) >= f.least && int64(n) <= f.most {
				accepted(t, f.name, m)
			} else {
				refused(t, f.name, m)
			}
		}
	}
}

func TestP601ManyMessages(t *testing.T) {
	for _, m := range messages() {
		accepted(t, "a valid one", m)
		if b, _ := message.Encode(m); len(b) > 64 {
			t.Errorf("the encoding of %+v has %d bytes", m, len(b))
		}
	}
	for _, m := range invalid() {
		refused(t, "an invalid one", m)
	}
}

func TestP601EncodeReturnsNewMemory(t *testing.T) {
	first, _ := message.Encode(example())
	for i := range first {
		first[i] = 99
	}
	_ = append(first, 98)
	if second, _ := message.Encode(example()); !bytes.Equal(second, exampleBytes()) {
		t.Errorf("Encode after a change of its result: % x", second)
	}
}

// Kind and symbol decide alone, whether the message is valid or not.
func TestP601Is(t *testing.T) {
	numbers := []int{math.MinInt, -256, -1, 0, 1, 2, 3, 9, 10, 255, 256, 257, 1 << 30, math.MaxInt}
	for _, base := range []api.Msg{example(), {}, {Seq: -1, ID: -2, Code: 300, Price: 3, Qty: 2}} {
		for _, kind := range numbers {
			for _, sym := range numbers {
				m := base
				m.Kind, m.Sym = kind, sym
				for _, other := range numbers {
					if got, want := message.Is(m, other, sym), other == kind; got != want {
						t.Errorf("Is(%+v, %d, %d) is %t", m, other, sym, got)
					}
					if got, want := message.Is(m, kind, other), other == sym; got != want {
						t.Errorf("Is(%+v, %d, %d) is %t", m, kind, other, got)
					}
				}
			}
		}
	}
}

func TestP602Examples(t *testing.T) {
	decodes(t, "the example", exampleBytes(), example())
	decodes(t, "a Status", append([]byte{6, 1, 2, 0, 0}, make([]byte, 32)...), api.Msg{Kind: api.Status, Sym: 1, Code: 2})
	faulty(t, "nil", nil, api.Truncated)
	faulty(t, "no bytes", []byte{}, api.Truncated)
	faulty(t, "a kind alone", []byte{1}, api.Truncated)
	faulty(t, "no kind, alone", []byte{77}, api.Truncated)
	faulty(t, "zeros", make([]byte, 37), api.Malformed)
	faulty(t, "the example without its last byte", exampleBytes()[:36], api.Truncated)
	faulty(t, "the example with a byte behind it", append(exampleBytes(), 0), api.Malformed)
}

func TestP602EveryPrefixIsTruncated(t *testing.T) {
	for _, m := range messages() {
		b := encoded(m)
		for size := range b {
			faulty(t, "a prefix", b[:size], api.Truncated)
		}
	}
}

func TestP602BytesThatAreLeft(t *testing.T) {
	for _, m := range messages() {
		for _, behind := range [][]byte{{0}, {1}, {255}, {0x80, 0}, encoded(m), make([]byte, 300)} {
			faulty(t, "bytes that are left", append(encoded(m), behind...), api.Malformed)
		}
	}
}

// with is the bytes of the example with one of its nine fields replaced.
func with(place int, piece ...byte) []byte {
	b := exampleBytes()
	parts := [][]byte{b[0:1], b[1:2], b[2:3], b[3:4], b[4:5], b[5:13], b[13:21], b[21:29], b[29:37]}
	parts[place] = piece
	return slices.Concat(parts...)
}

func TestP602FieldsOfOneByte(t *testing.T) {
	for n := range 256 {
		want := example()
		want.Kind = n
		if b := with(0, byte(n)); n >= 1 && n <= 9 {
			decodes(t, "a kind", b, want)
		} else {
			faulty(t, "no kind", b, api.Malformed)
		}
		want = example()
		want.Sym = n
		decodes(t, "a symbol", with(1, byte(n)), want)
		want = example()
		want.Code = n
		decodes(t, "a code", with(2, byte(n)), want)
	}
}

func TestP602Ranges(t *testing.T) {
	seqAndTick := fields()[3:5]
	for i, f := range seqAndTick {
		for _, n := range []uint64{0, 1, 127, 128, 1 << 31, 1 << 32, 1<<62 - 1, 1 << 62} {
			want := example()
			f.set(&want, int64(n))
			decodes(t, f.name, with(3+i, binary.AppendUvarint(nil, n)...), want)
		}
		for _, n := range []uint64{1<<62 + 1, 1<<63 - 1, 1 << 63, 1<<63 + 5, 1<<64 - 1} {
			faulty(t, f.name, with(3+i, binary.AppendUvarint(nil, n)...), api.Malformed)
		}
	}
	for i, f := range fields()[5:] {
		for _, u := range []uint64{0, 1, 2, 3, 4, 5, 255, 256, 1 << 32, 1<<63 - 1, 1 << 63, 1<<63 + 1, 1<<63 + 2, 1<<63 + 3, 1<<64 - 2, 1<<64 - 1} {
			n := int64(u / 2)
			if u%2 == 1 {
				n = -n - 1
			}
			want := example()
			f.set(&want, n)
			b := with(5+i, binary.BigEndian.AppendUint64(nil, u)...)
			if n >= f.least && n <= f.most {
				decodes(t, f.name, b, want)
			} else {
				faulty(t, f.name, b, api.Malformed)
			}
		}
	}
}

// What is out of range is Malformed only when all fields are there.
func TestP602RangesAreCheckedLast(t *testing.T) {
	beyond := binary.AppendUvarint(nil, 1<<62+1)
	for _, b := range [][]byte{
		with(0, 0), with(0, 10), with(0, 255), with(3, beyond...), with(4, beyond...),
		with(5, 0, 0, 0, 0, 0, 0, 0, 3), with(6, 0, 0, 0, 0, 0, 0, 0, 3), with(5, 128, 0, 0, 0, 0, 0, 0, 2),
	} {
		faulty(t, "all fields", b, api.Malformed)
		for size := range b {
			faulty(t, "not all fields", b[:size], api.Truncated)
		}
	}
}

// badNums are bytes that no number is written as.
func badNums() [][]byte {
	nine := bytes.Repeat([]byte{0x80}, 9)
	return [][]byte{{0x80, 0}, {0xff, 0}, {0x80, 0x80, 0}, append(slices.Clone(nine), 0), append(slices.Clone(nine), 2), append(slices.Clone(nine), 0x80), append(slices.Clone(nine), 0xff)}
}

func TestP602MalformedNums(t *testing.T) {
	for _, bad := range badNums() {
		for _, place := range []int{3, 4} {
			b := with(place, bad...)
			for size := place + len(bad); size <= len(b); size++ { // what is missing behind it comes later
				faulty(t, "a malformed number", b[:size], api.Malformed)
			}
			for size := range place + len(bad) {
				faulty(t, "a part of a malformed number", b[:size], api.Truncated)
			}
			b[0] = 0 // a range is checked later
			faulty(t, "a malformed number of no kind", b[:place+len(bad)], api.Malformed)
		}
	}
}

// modelled is what the chapter says of any bytes, read by the library.
func modelled(b []byte) (api.Msg, api.Fault) {
	at, right := 3, true
	if len(b) < at {
		return api.Msg{}, api.Truncated
	}
	m := api.Msg{Kind: int(b[0]), Sym: int(b[1]), Code: int(b[2])}
	right = right && m.Kind >= 1 && m.Kind <= 9
	for _, to := range []*int64{&m.Seq, &m.Tick} {
		n, size := binary.Uvarint(b[at:])
		switch {
		case size == 0:
			return api.Msg{}, api.Truncated
		case size < 0 || size > 1 && b[at+size-1] == 0:
			return api.Msg{}, api.Malformed
		}
		at += size
		right = right && n <= 1<<62
		*to = int64(n)
	}
	for _, to := range []*int64{&m.ID, &m.With, &m.Price, &m.Qty} {
		if at+8 > len(b) {
			return api.Msg{}, api.Truncated
		}
		u := binary.BigEndian.Uint64(b[at:])
		*to = int64(u / 2)
		if u%2 == 1 {
			*to = -*to - 1
		}
		at += 8
	}
	right = right && m.ID >= -1 && m.ID <= 1<<62 && m.With >= -1 && m.With <= 1<<62
	if !right || at < len(b) {
		return api.Msg{}, api.Malformed
	}
	return m, api.OK
}

// strewn are n lists of bytes: whatever comes, and encodings with something changed, lacking or added.
func strewn(n int) [][]byte {
	d := dice(602)
	var out [][]byte
	for _, m := range drawn(n) {
		b := encoded(m)
		switch d.below(6) {
		case 0:
			b = make([]byte, d.below(64))
			for k := range b {
				b[k] = byte(d.next()) >> d.below(8)
			}
		case 1:
			b = append(b[:d.below(len(b)+1)], make([]byte, d.below(20))...)
		case 2:
			b[d.below(len(b))] = []byte{0, 0x80, 0xff, 1}[d.below(4)]
		case 3:
			b[3+d.below(2)] |= 0x80
		}
		if len(b) > 0 && d.below(2) == 0 {
			b[d.below(len(b))] ^= 1 << d.below(8)
		}
		out = append(out, b)
	}
	return out
}

func TestP602OfAnyBytes(t *testing.T) {
	for _, b := range strewn(40_000) {
		m, fault := modelled(b)
		if fault != api.OK {
			faulty(t, "any bytes", b, fault)
		} else {
			decodes(t, "any bytes", b, m)
		}
	}
}

func TestP603Examples(t *testing.T) {
	l := []api.Msg{example(), {Kind: api.Ack}}
	b, fault := message.Stream(l)
	want := slices.Concat([]byte{0, 37}, exampleBytes(), []byte{0, 37, 1}, make([]byte, 36))
	if !bytes.Equal(b, want) || len(b) != 78 || fault != api.OK {
		t.Fatalf("Stream: % x with fault %d, not % x", b, fault, want)
	}
	holds(t, "the example", b, l, api.OK)
	holds(t, "the example without its last byte", b[:len(b)-1], nil, api.Truncated)
}

func TestP603StreamOfNoMessages(t *testing.T) {
	for _, l := range [][]api.Msg{nil, {}} {
		if b, fault := message.Stream(l); len(b) != 0 || fault != api.OK {
			t.Errorf("Stream of no messages: % x with fault %d", b, fault)
		}
	}
	holds(t, "nil", nil, nil, api.OK)
	holds(t, "no bytes", []byte{}, nil, api.OK)
}

// lists are lists of valid messages of several lengths.
func lists() [][]api.Msg {
	d := dice(603)
	valid := messages()
	out := [][]api.Msg{nil, {example()}, {example(), example()}, plain(), valid}
	for range 200 {
		var l []api.Msg
		for range d.below(9) {
			l = append(l, valid[d.below(len(valid))])
		}
		out = append(out, l)
	}
	return out
}

func TestP603StreamOfManyMessages(t *testing.T) {
	for _, l := range lists() {
		given := slices.Clone(l)
		if b, fault := message.Stream(l); !bytes.Equal(b, streamed(l)) || fault != api.OK {
			t.Errorf("Stream of %d messages: % x with fault %d, not % x", len(l), b, fault, streamed(l))
		}
		if !slices.Equal(l, given) {
			t.Errorf("Stream changes %+v to %+v", given, l)
		}
	}
}

func TestP603StreamOfAnInvalidMessage(t *testing.T) {
	d := dice(604)
	for _, m := range invalid() {
		l := drawn(d.below(4))
		place := d.below(len(l) + 1)
		l = slices.Insert(l, place, m)
		if b, fault := message.Stream(l); len(b) != 0 || fault != api.BadArg {
			t.Errorf("Stream with %+v at %d of %d: % x with fault %d", m, place, len(l), b, fault)
		}
	}
}

func TestP603StreamReturnsNewMemory(t *testing.T) {
	l := []api.Msg{example(), {Kind: api.Ack}}
	room := l[:1]
	first, _ := message.Stream(room)
	for i := range first {
		first[i] = 99
	}
	_ = append(first, 98)
	if second, _ := message.Stream(room); !bytes.Equal(second, framed(exampleBytes())) {
		t.Errorf("Stream after a change of its result: % x", second)
	}
	if l[1] != (api.Msg{Kind: api.Ack}) {
		t.Errorf("Stream changes what is behind its list: %+v", l[1])
	}
}

func TestP603AllOfEveryPrefix(t *testing.T) {
	l := plain()
	b := streamed(l)
	ends := map[int]int{} // by the number of bytes, how many frames they are
	for n := range len(l) + 1 {
		ends[len(streamed(l[:n]))] = n
	}
	for size := range len(b) + 1 {
		if n, whole := ends[size]; whole {
			holds(t, "whole frames", b[:size], l[:n], api.OK)
		} else {
			holds(t, "a frame that ends too early", b[:size], nil, api.Truncated)
		}
	}
}

func TestP603AllOfAFrameThatIsNone(t *testing.T) {
	for n := range 4 {
		before := streamed(plain()[:n])
		for _, head := range [][]byte{{0, 65}, {0, 255}, {1, 0}, {255, 255}} {
			for _, behind := range [][]byte{nil, {0}, encoded(example()), framed(exampleBytes()), make([]byte, 100)} {
				holds(t, "a length that no frame has", slices.Concat(before, head, behind), nil, api.Malformed)
			}
		}
		for _, end := range [][]byte{{0}, {1}, {255}, {0, 1}, {0, 64}, {0, 37, 1}, {0, 64, 3, 2, 7}} {
			holds(t, "a frame that ends too early", slices.Concat(before, end), nil, api.Truncated)
		}
	}
}

func TestP603AllOfAPayloadThatIsNoMessage(t *testing.T) {
	payloads := []struct {
		b     []byte
		fault api.Fault
	}{
		{nil, api.Truncated}, {[]byte{1}, api.Truncated}, {exampleBytes()[:36], api.Truncated},
		{append(exampleBytes(), 0), api.Malformed}, {with(0, 0), api.Malformed}, {with(0, 10), api.Malformed},
		{[]byte{1, 0, 0, 0x80, 0}, api.Malformed}, {make([]byte, 64), api.Malformed}, {bytes.Repeat([]byte{0x80}, 64), api.Malformed},
	}
	for n := range 3 {
		before := streamed(plain()[:n])
		for _, p := range payloads {
			b := append(slices.Clone(before), framed(p.b)...)
			holds(t, "the last frame", b, nil, p.fault)
			holds(t, "one in the middle", append(b, streamed(plain())...), nil, p.fault)
			// What cannot be read behind it comes later, whether a frame or a payload.
			holds(t, "before a frame that ends too early", append(slices.Clone(b), 0), nil, p.fault)
			holds(t, "before a length that no frame has", append(slices.Clone(b), 0, 65), nil, p.fault)
			for _, q := range payloads {
				holds(t, "before another one", append(slices.Clone(b), framed(q.b)...), nil, p.fault)
			}
		}
	}
}

func TestP603AllReturnsNewMemory(t *testing.T) {
	b := streamed(plain())
	first, _ := message.All(b)
	for i := range b {
		b[i] = 99
	}
	if !slices.Equal(first, plain()) {
		t.Errorf("what All returned changes with the bytes: %+v", first)
	}
	b = streamed(plain())
	for i := range first {
		first[i] = api.Msg{}
	}
	holds(t, "after a change of its result", b, plain(), api.OK)
	holds(t, "with room behind it", append(b, 0, 65)[:len(b)], plain(), api.OK)
}

// allModelled is what the chapter says of the messages of any bytes.
func allModelled(b []byte) (l []api.Msg, fault api.Fault) {
	for len(b) > 0 {
		if len(b) < 2 {
			return nil, api.Truncated
		}
		size := int(binary.BigEndian.Uint16(b))
		switch {
		case size > 64:
			return nil, api.Malformed
		case len(b) < 2+size:
			return nil, api.Truncated
		}
		m, fault := modelled(b[2 : 2+size])
		if fault != api.OK {
			return nil, fault
		}
		l = append(l, m)
		b = b[2+size:]
	}
	return l, api.OK
}

func TestP603AllOfAnyBytes(t *testing.T) {
	d := dice(605)
	payloads := strewn(20_000)
	whole := 0
	for i, p := range payloads {
		b := streamed(drawn(4)[:d.below(4)])
		if len(p) <= 64 || i%2 == 0 {
			b = append(b, framed(p)...)
		}
		b = append(b, streamed(plain()[:d.below(3)])...)
		switch d.below(4) {
		case 0:
			b = b[:d.below(len(b)+1)]
		case 1:
			if len(b) > 0 {
				b[d.below(len(b))] ^= 1 << d.below(8)
			}
		}
		l, fault := allModelled(b)
		if len(l) > 0 {
			whole++
		}
		holds(t, "any bytes", b, l, fault)
	}
	if whole < 2_000 || whole > 18_000 {
		t.Errorf("%d of the streams can be read: too many or too few to tell anything", whole)
	}
}

func TestP604DecodeInvertsEncode(t *testing.T) {
	for _, m := range messages() {
		b, fault := message.Encode(m)
		if fault != api.OK {
			t.Fatalf("Encode(%+v) has fault %d", m, fault)
		}
		decodes(t, "an encoding", b, m)
		decodes(t, "an encoding with room behind it", append(b, 77)[:len(b)], m)
	}
}

func TestP604DecodeAcceptsExactlyTheEncodings(t *testing.T) {
	found := 0
	for _, b := range strewn(40_000) {
		m, fault := message.Decode(b)
		if fault != api.OK {
			continue
		}
		found++
		if got, fault := message.Encode(m); !bytes.Equal(got, b) || fault != api.OK {
			t.Errorf("Decode(% x) is %+v, whose encoding is % x with fault %d", b, m, got, fault)
		}
	}
	if found < 5_000 {
		t.Errorf("only %d of the lists are messages", found)
	}
}

func TestP604DifferentMessagesHaveDifferentBytes(t *testing.T) {
	of := map[string]api.Msg{}
	for _, m := range messages() {
		b, _ := message.Encode(m)
		if other, there := of[string(b)]; there && other != m {
			t.Errorf("% x are %+v and %+v", b, m, other)
		}
		of[string(b)] = m
	}
}

func TestP604AllOfAStreamReturnsItsMessages(t *testing.T) {
	for _, l := range lists() {
		b, fault := message.Stream(l)
		if fault != api.OK {
			t.Fatalf("Stream of %d messages has fault %d", len(l), fault)
		}
		holds(t, "a stream", b, l, api.OK)
	}
}
