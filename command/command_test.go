package command_test

import (
	"bytes"
	"encoding/binary"
	"math"
	"slices"
	"testing"

	"damper/api"
	"damper/command"
)

// dice gives numbers that look like nothing, the same ones at every run.
type dice uint64

func (d *dice) next() uint64 {
	*d += 0x9e3779b97f4a7c15
	z := uint64(*d)
	z = (z ^ z>>30) * 0xbf58476d1ce4e5b9
	z = (z ^ z>>27) * 0x94d049bb133111eb
	return z ^ z>>31
}

func (d *dice) below(n int) int {
	return int(d.next() % uint64(n))
}

// example is the command of the chapter's example, and exampleBytes its encoding.
func example() api.Command {
	return api.Command{Kind: api.New, Sym: 1, ID: 200, Owner: 3, Side: 1, Type: 2, Flags: 4, Price: 1, Qty: 2}
}

func exampleBytes() []byte {
	return []byte{1, 1, 200, 1, 3, 1, 2, 4, 0, 0, 0, 0, 0, 0, 0, 2, 0, 0, 0, 0, 0, 0, 0, 4}
}

// field is one of a command, with its greatest value by kind: New, Cancel, Replace; -1 where it may have any.
type field struct {
	name string
	set  func(*api.Command, int64)
	most [3]int64
}

func fields() []field {
	return []field{
		{"Sym", func(c *api.Command, n int64) { c.Sym = int(n) }, [3]int64{255, 255, 255}},
		{"ID", func(c *api.Command, n int64) { c.ID = n }, [3]int64{1 << 62, 1 << 62, 1 << 62}},
		{"Owner", func(c *api.Command, n int64) { c.Owner = int(n) }, [3]int64{1 << 30, 0, 0}},
		{"Side", func(c *api.Command, n int64) { c.Side = int(n) }, [3]int64{1, 0, 0}},
		{"Flags", func(c *api.Command, n int64) { c.Flags = int(n) }, [3]int64{7, 0, 0}},
		{"Price", func(c *api.Command, n int64) { c.Price = n }, [3]int64{-1, 0, -1}},
		{"Qty", func(c *api.Command, n int64) { c.Qty = n }, [3]int64{-1, 0, -1}},
	}
}

// plain are valid commands of all kinds.
func plain() []api.Command {
	return []api.Command{
		example(),
		{Kind: api.New, Type: 1},
		{Kind: api.Cancel, Sym: 3, ID: 5},
		{Kind: api.Cancel},
		{Kind: api.Replace, Sym: 200, ID: 1 << 40, Price: -7, Qty: 9},
		{Kind: api.Replace},
	}
}

// edges are numbers at and around the ends of every range.
func edges() []int64 {
	out := []int64{math.MinInt64, math.MinInt64 + 1, math.MaxInt64, math.MaxInt64 - 1, -1 << 62, -1 << 32, -1 << 31, -1 << 30, -256, -8, -2}
	for n := int64(-1); n < 12; n++ {
		out = append(out, n)
	}
	for _, bit := range []int64{1 << 7, 1 << 8, 1 << 14, 1 << 16, 1 << 30, 1 << 31, 1 << 32, 1<<32 + 1<<29, 1 << 33, 1 << 40, 1 << 61, 1 << 62} {
		out = append(out, bit-1, bit, bit+1)
	}
	return out
}

// drawn are n valid commands of all kinds with numbers of all lengths.
func drawn(n int) []api.Command {
	d := dice(501)
	var out []api.Command
	whole := func() int64 { return int64(d.next()) >> d.below(64) }
	for range n {
		c := api.Command{Kind: 1 + d.below(3), Sym: d.below(256), ID: int64(d.next() >> 2 >> d.below(62))}
		if c.Kind == api.New {
			c.Owner, c.Side, c.Type, c.Flags = int(d.next()>>34>>d.below(30)), d.below(2), 1+d.below(5), d.below(8)
		}
		if c.Kind != api.Cancel {
			c.Price, c.Qty = whole(), whole()
		}
		out = append(out, c)
	}
	return out
}

// commands are valid ones: plain, at the edges of each field, and drawn.
func commands() []api.Command {
	out := plain()
	for _, c := range plain() {
		for _, f := range fields() {
			for _, n := range edges() {
				most := f.most[c.Kind-1]
				if n < 0 && most >= 0 || n > most && most >= 0 {
					continue
				}
				changed := c
				f.set(&changed, n)
				out = append(out, changed)
			}
		}
	}
	for kind := 1; kind <= 5; kind++ {
		c := example()
		c.Type = kind
		out = append(out, c)
	}
	return append(out, drawn(2000)...)
}

// encoded is the chapter's encoding of a valid command, by the library.
func encoded(c api.Command) []byte {
	whole := func(b []byte, n int64) []byte {
		u := 2 * uint64(n)
		if n < 0 {
			u = ^u
		}
		return binary.BigEndian.AppendUint64(b, u)
	}
	b := binary.AppendUvarint([]byte{byte(c.Kind), byte(c.Sym)}, uint64(c.ID))
	if c.Kind == api.New {
		b = binary.AppendUvarint(b, uint64(c.Owner))
		b = append(b, byte(c.Side), byte(c.Type), byte(c.Flags))
	}
	if c.Kind != api.Cancel {
		b = whole(whole(b, c.Price), c.Qty)
	}
	return b
}

// refused fails the test where c is valid or has an encoding.
func refused(t *testing.T, what string, c api.Command) {
	t.Helper()
	if command.Right(c) {
		t.Errorf("%s: %+v is valid", what, c)
	}
	if b, fault := command.Encode(c); len(b) != 0 || fault != api.BadArg {
		t.Errorf("%s: Encode(%+v) is % x with fault %d", what, c, b, fault)
	}
}

// accepted fails the test where c is not valid or has no encoding, or another one.
func accepted(t *testing.T, what string, c api.Command) {
	t.Helper()
	if !command.Right(c) {
		t.Errorf("%s: %+v is not valid", what, c)
	}
	if b, fault := command.Encode(c); !bytes.Equal(b, encoded(c)) || fault != api.OK {
		t.Errorf("%s: Encode(%+v) is % x with fault %d, not % x", what, c, b, fault, encoded(c))
	}
}

// faulty fails the test where b is a command, or has another fault.
func faulty(t *testing.T, what string, b []byte, want api.Fault) {
	t.Helper()
	given := slices.Clone(b)
	if c, fault := command.Decode(b); c != (api.Command{}) || fault != want {
		t.Errorf("%s: Decode(% x) is %+v with fault %d, not %d", what, b, c, fault, want)
	}
	if !bytes.Equal(b, given) {
		t.Errorf("%s: Decode changes % x to % x", what, given, b)
	}
}

// decodes fails the test where b is not c.
func decodes(t *testing.T, what string, b []byte, want api.Command) {
	t.Helper()
	given := slices.Clone(b)
	if c, fault := command.Decode(b); c != want || fault != api.OK {
		t.Errorf("%s: Decode(% x) is %+v with fault %d, not %+v", what, b, c, fault, want)
	}
	if !bytes.Equal(b, given) {
		t.Errorf("%s: Decode changes % x to % x", what, given, b)
	}
}

func TestP501Examples(t *testing.T) {
	if b, fault := command.Encode(example()); !bytes.Equal(b, exampleBytes()) || fault != api.OK {
		t.Errorf("Encode: % x with fault %d, not % x", b, fault, exampleBytes())
	}
	refused(t, "a Cancel with a quantity", api.Command{Kind: api.Cancel, Qty: 1})
	if !command.Has(example(), api.Reprice) {
		t.Error("the example has no Reprice")
	}
	if b, fault := command.Encode(api.Command{Kind: api.Cancel, Sym: 3, ID: 5}); !bytes.Equal(b, []byte{2, 3, 5}) || fault != api.OK {
		t.Errorf("Encode of a Cancel: % x with fault %d", b, fault)
	}
	b, fault := command.Encode(api.Command{Kind: api.Replace, Sym: 255, ID: 128, Price: -1, Qty: math.MinInt64})
	if !bytes.Equal(b, []byte{3, 255, 128, 1, 0, 0, 0, 0, 0, 0, 0, 1, 255, 255, 255, 255, 255, 255, 255, 255}) || fault != api.OK {
		t.Errorf("Encode of a Replace: % x with fault %d", b, fault)
	}
}

func TestP501EveryKind(t *testing.T) {
	for _, n := range edges() {
		c := api.Command{Kind: int(n)}
		if n >= 1 && n <= 3 {
			if c.Kind == api.New {
				c.Type = api.Limit
			}
			accepted(t, "a kind", c)
			continue
		}
		refused(t, "no kind", c)
		c = example()
		c.Kind = int(n)
		refused(t, "no kind", c)
	}
	refused(t, "the zero value", api.Command{})
}

func TestP501EveryType(t *testing.T) {
	for _, n := range edges() {
		c := example()
		c.Type = int(n)
		if n >= 1 && n <= 5 {
			accepted(t, "a type", c)
		} else {
			refused(t, "no type", c)
		}
		for _, kind := range []int{api.Cancel, api.Replace} {
			c := api.Command{Kind: kind, Sym: 1, ID: 2, Type: int(n)}
			if n == 0 {
				accepted(t, "no type for such a kind", c)
			} else {
				refused(t, "a type for such a kind", c)
			}
		}
	}
}

func TestP501EveryFieldInAndOutOfItsRange(t *testing.T) {
	for _, c := range plain() {
		for _, f := range fields() {
			most := f.most[c.Kind-1]
			for _, n := range edges() {
				changed := c
				f.set(&changed, n)
				if most < 0 || n >= 0 && n <= most {
					accepted(t, f.name, changed)
				} else {
					refused(t, f.name, changed)
				}
			}
		}
	}
}

func TestP501ManyCommands(t *testing.T) {
	for _, c := range commands() {
		accepted(t, "a valid one", c)
	}
}

func TestP501EncodeReturnsNewMemory(t *testing.T) {
	first, _ := command.Encode(example())
	for i := range first {
		first[i] = 99
	}
	_ = append(first, 98)
	if second, _ := command.Encode(example()); !bytes.Equal(second, exampleBytes()) {
		t.Errorf("Encode after a change of its result: % x", second)
	}
}

func TestP501Has(t *testing.T) {
	for _, flags := range []int{0, 1, 2, 3, 4, 5, 6, 7, 8, 255, -1, -8, math.MaxInt, math.MinInt} {
		for _, flag := range []int{0, 1, 2, 3, 4, 5, 6, 7, 8, 12, 64, -1, -2, -8, math.MaxInt, math.MinInt} {
			want := true
			for bit := range 64 {
				if uint64(flag)>>bit&1 == 1 && uint64(flags)>>bit&1 == 0 {
					want = false
				}
			}
			c := example()
			c.Flags = flags
			if got := command.Has(c, flag); got != want {
				t.Errorf("Has of flags %d and %d is %t", flags, flag, got)
			}
			// The flags alone decide, whatever the command is.
			if got := command.Has(api.Command{Kind: -1, Flags: flags}, flag); got != want {
				t.Errorf("Has of no command with flags %d and %d is %t", flags, flag, got)
			}
		}
	}
}

func TestP502Examples(t *testing.T) {
	decodes(t, "the example", exampleBytes(), example())
	decodes(t, "a Cancel", []byte{2, 3, 5}, api.Command{Kind: api.Cancel, Sym: 3, ID: 5})
	faulty(t, "the first five bytes", exampleBytes()[:5], api.Truncated)
	faulty(t, "no kind", []byte{9}, api.Malformed)
	faulty(t, "nil", nil, api.Truncated)
	faulty(t, "no bytes", []byte{}, api.Truncated)
}

// The first byte is judged before anything else is missed.
func TestP502EveryFirstByte(t *testing.T) {
	for first := range 256 {
		b := exampleBytes()
		b[0] = byte(first)
		for size := 1; size <= len(b); size++ {
			if first < 1 || first > 3 {
				faulty(t, "no kind", b[:size], api.Malformed)
			} else if size < 4 {
				faulty(t, "a kind", b[:size], api.Truncated)
			}
		}
	}
}

func TestP502EveryPrefixIsTruncated(t *testing.T) {
	for _, c := range commands() {
		b := encoded(c)
		for size := range b {
			faulty(t, "a prefix", b[:size], api.Truncated)
		}
	}
}

func TestP502BytesThatAreLeft(t *testing.T) {
	for _, c := range commands() {
		for _, behind := range [][]byte{{0}, {1}, {255}, {0x80, 0}, make([]byte, 16), encoded(c), make([]byte, 300)} {
			faulty(t, "bytes that are left", append(encoded(c), behind...), api.Malformed)
		}
	}
}

// parts is a command in its pieces, so that each can be replaced by another.
func parts(kind byte) [][]byte {
	price, qty := []byte{0, 0, 0, 0, 0, 0, 0, 2}, []byte{0, 0, 0, 0, 0, 0, 0, 4}
	switch kind {
	case api.New:
		return [][]byte{{1}, {1}, {200, 1}, {3}, {1}, {2}, {4}, price, qty}
	case api.Cancel:
		return [][]byte{{2}, {1}, {200, 1}}
	}
	return [][]byte{{3}, {1}, {200, 1}, price, qty}
}

// with is the bytes of a command with one of its pieces replaced.
func with(kind byte, place int, piece ...byte) []byte {
	p := parts(kind)
	p[place] = piece
	return slices.Concat(p...)
}

func TestP502Ranges(t *testing.T) {
	num := func(n uint64) []byte { return binary.AppendUvarint(nil, n) }
	for kind := byte(1); kind <= 3; kind++ {
		for _, n := range []uint64{0, 1, 1 << 31, 1 << 32, 1<<62 - 1, 1 << 62} {
			if c, fault := command.Decode(with(kind, 2, num(n)...)); fault != api.OK || c.ID != int64(n) {
				t.Errorf("ID %d is %d with fault %d", n, c.ID, fault)
			}
		}
		for _, n := range []uint64{1<<62 + 1, 1<<63 - 1, 1 << 63, 1<<63 + 5, 1<<64 - 1} {
			faulty(t, "ID", with(kind, 2, num(n)...), api.Malformed)
		}
		for sym := range 256 {
			if c, fault := command.Decode(with(kind, 1, byte(sym))); fault != api.OK || c.Sym != sym {
				t.Errorf("Sym %d is %d with fault %d", sym, c.Sym, fault)
			}
		}
	}
	for _, n := range []uint64{0, 1, 127, 128, 1<<30 - 1, 1 << 30} {
		if c, fault := command.Decode(with(api.New, 3, num(n)...)); fault != api.OK || c.Owner != int(n) {
			t.Errorf("Owner %d is %d with fault %d", n, c.Owner, fault)
		}
	}
	for _, n := range []uint64{1<<30 + 1, 1 << 31, 1 << 32, 1<<32 + 3, 1 << 62, 1<<63 - 1, 1 << 63, 1<<63 + 3, 1<<64 - 1} {
		faulty(t, "Owner", with(api.New, 3, num(n)...), api.Malformed)
	}
	for n := range 256 {
		for _, f := range []struct {
			place, least, most int
			of                 func(api.Command) int
		}{
			{4, 0, 1, func(c api.Command) int { return c.Side }},
			{5, 1, 5, func(c api.Command) int { return c.Type }},
			{6, 0, 7, func(c api.Command) int { return c.Flags }},
		} {
			b := with(api.New, f.place, byte(n))
			if n < f.least || n > f.most {
				faulty(t, "a field of one byte", b, api.Malformed)
			} else if c, fault := command.Decode(b); fault != api.OK || f.of(c) != n {
				t.Errorf("Decode(% x) is %+v with fault %d", b, c, fault)
			}
		}
	}
}

// badNums are bytes that no number is written as.
func badNums() [][]byte {
	nine := bytes.Repeat([]byte{0x80}, 9)
	return [][]byte{{0x80, 0}, {0xff, 0}, {0x80, 0x80, 0}, append(slices.Clone(nine), 0), append(slices.Clone(nine), 2), append(slices.Clone(nine), 0x80), append(slices.Clone(nine), 0xff)}
}

func TestP502MalformedNums(t *testing.T) {
	for _, bad := range badNums() {
		for kind := byte(1); kind <= 3; kind++ {
			b := with(kind, 2, bad...)
			for size := 2 + len(bad); size <= len(b); size++ { // what is missing behind it comes later
				faulty(t, "a malformed ID", b[:size], api.Malformed)
			}
			for size := 1; size < 2+len(bad); size++ {
				faulty(t, "a part of a malformed ID", b[:size], api.Truncated)
			}
		}
		b := with(api.New, 3, bad...)
		for size := 4 + len(bad); size <= len(b); size++ {
			faulty(t, "a malformed Owner", b[:size], api.Malformed)
		}
		for size := 1; size < 4+len(bad); size++ {
			faulty(t, "a part of a malformed Owner", b[:size], api.Truncated)
		}
	}
	// Fewer bytes than a Num has are Truncated, whatever came before.
	faulty(t, "an ID without a last byte", []byte{2, 0, 0x80, 0x80}, api.Truncated)
}

// What is out of range is Malformed only when all fields are there.
func TestP502RangesAreCheckedLast(t *testing.T) {
	for _, b := range [][]byte{
		with(api.New, 2, binary.AppendUvarint(nil, 1<<62+1)...),
		with(api.Replace, 2, binary.AppendUvarint(nil, 1<<64-1)...),
		with(api.New, 3, binary.AppendUvarint(nil, 1<<30+1)...),
		with(api.New, 4, 2), with(api.New, 5, 0), with(api.New, 5, 6), with(api.New, 6, 8),
	} {
		faulty(t, "all fields", b, api.Malformed)
		for size := 1; size < len(b); size++ {
			faulty(t, "not all fields", b[:size], api.Truncated)
		}
	}
}

// modelled is what the chapter says of any bytes, read by the library.
func modelled(b []byte) (c api.Command, fault api.Fault) {
	if len(b) == 0 {
		return c, api.Truncated
	}
	if b[0] < 1 || b[0] > 3 {
		return c, api.Malformed
	}
	at, right := 0, true
	short := func(least, most byte) int {
		if at >= len(b) {
			fault = max(fault, api.Truncated)
			return 0
		}
		at++
		right = right && b[at-1] >= least && b[at-1] <= most
		return int(b[at-1])
	}
	num := func(most uint64) int64 {
		n, size := binary.Uvarint(b[min(at, len(b)):])
		switch {
		case fault != api.OK:
		case size == 0:
			fault = api.Truncated
		case size < 0 || size > 1 && b[at+size-1] == 0:
			fault = api.Malformed
		}
		if fault != api.OK {
			at = len(b)
			return 0
		}
		at += size
		right = right && n <= most
		return int64(n)
	}
	whole := func() int64 {
		if at+8 > len(b) {
			fault, at = max(fault, api.Truncated), len(b)
			return 0
		}
		at += 8
		u := binary.BigEndian.Uint64(b[at-8:])
		if u%2 == 1 {
			return -int64(u/2) - 1
		}
		return int64(u / 2)
	}
	c = api.Command{Kind: short(1, 3), Sym: short(0, 255)}
	c.ID = num(1 << 62)
	if c.Kind == api.New {
		c.Owner = int(num(1 << 30))
		c.Side, c.Type, c.Flags = short(0, 1), short(1, 5), short(0, 7)
	}
	if c.Kind != api.Cancel {
		c.Price, c.Qty = whole(), whole()
	}
	if fault == api.OK && (!right || at < len(b)) {
		fault = api.Malformed
	}
	if fault != api.OK {
		c = api.Command{}
	}
	return c, fault
}

// strewn are n lists of bytes: whatever comes, and encodings with something changed, lacking or added.
func strewn(n int) [][]byte {
	d := dice(502)
	var out [][]byte
	valid := drawn(n)
	for i := range n {
		b := encoded(valid[i])
		switch d.below(5) {
		case 0:
			b = make([]byte, d.below(64))
			for k := range b {
				b[k] = byte(d.next()) >> d.below(8)
			}
		case 1:
			b = append(b[:d.below(len(b)+1)], make([]byte, d.below(20))...)
		case 2:
			b[d.below(len(b))] = []byte{0, 0x80, 0xff, 1}[d.below(4)]
		case 3:
			b[0] = byte(1 + d.below(3))
		}
		if len(b) > 0 && d.below(2) == 0 {
			b[d.below(len(b))] ^= 1 << d.below(8)
		}
		out = append(out, b)
	}
	return out
}

func TestP502OfAnyBytes(t *testing.T) {
	for _, b := range strewn(40_000) {
		c, fault := modelled(b)
		if fault != api.OK {
			faulty(t, "any bytes", b, fault)
		} else {
			decodes(t, "any bytes", b, c)
		}
	}
	for i := range 4 << 17 { // each two bytes where an ID begins, behind each kind and what is none
		b := []byte{byte(i >> 17), 7, byte(i), byte(i >> 8), byte(i >> 16 & 1)}
		for size := 3; size <= 5; size++ {
			c, fault := modelled(b[:size])
			if got, gotFault := command.Decode(b[:size]); got != c || gotFault != fault {
				t.Fatalf("Decode(% x) is %+v with fault %d, not %+v with %d", b[:size], got, gotFault, c, fault)
			}
		}
	}
}

func TestP503DecodeInvertsEncode(t *testing.T) {
	for _, c := range commands() {
		b, fault := command.Encode(c)
		if fault != api.OK {
			t.Fatalf("Encode(%+v) has fault %d", c, fault)
		}
		decodes(t, "an encoding", b, c)
		decodes(t, "an encoding with room behind it", append(b, 77)[:len(b)], c)
	}
}

func TestP503WhatIsDecodedHasTheseBytes(t *testing.T) {
	found := 0
	for _, b := range strewn(40_000) {
		c, fault := command.Decode(b)
		if fault != api.OK {
			continue
		}
		found++
		if got, fault := command.Encode(c); !bytes.Equal(got, b) || fault != api.OK {
			t.Errorf("Decode(% x) is %+v, whose encoding is % x with fault %d", b, c, got, fault)
		}
	}
	if found < 5_000 {
		t.Errorf("only %d of the lists are commands", found)
	}
}

func TestP503DifferentCommandsHaveDifferentBytes(t *testing.T) {
	of := map[string]api.Command{}
	for _, c := range commands() {
		b, _ := command.Encode(c)
		if other, there := of[string(b)]; there && other != c {
			t.Errorf("% x are %+v and %+v", b, c, other)
		}
		of[string(b)] = c
	}
}
