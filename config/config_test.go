package config_test

import (
	"bytes"
	"encoding/binary"
	"fmt"
	"math"
	"reflect"
	"slices"
	"testing"

	"damper/api"
	"damper/config"
)

// dice gives numbers that look like nothing, the same ones at every run.
type dice uint64

func (d *dice) next() uint64 {
	*d += 0x9e3779b97f4a7c15
	z := uint64(*d)
	z = (z ^ z>>30) * 0xbf58476d1ce4e5b9
	z = (z ^ z>>27) * 0x94d049bb133111eb
	return z ^ z>>31
}

func (d *dice) below(n int) int {
	return int(d.next() % uint64(n))
}

// upTo draws a number from 1 to 2^bits, of any length.
func (d *dice) upTo(bits int) int64 {
	return 1 + int64(d.next()>>(64-bits)>>d.below(bits))
}

// field is one of a symbol, with its range.
type field struct {
	name        string
	set         func(*api.Symbol, int64)
	least, most int64
}

func fields() []field {
	return []field{
		{"Grid", func(s *api.Symbol, n int64) { s.Grid = n }, 1, 1 << 40},
		{"Ref", func(s *api.Symbol, n int64) { s.Ref = n }, 1, 1 << 40},
		{"Static", func(s *api.Symbol, n int64) { s.Static = int(n) }, 0, 9999},
		{"Dynamic", func(s *api.Symbol, n int64) { s.Dynamic = int(n) }, 0, 9999},
		{"Window", func(s *api.Symbol, n int64) { s.Window = n }, 1, 1 << 40},
		{"Move", func(s *api.Symbol, n int64) { s.Move = int(n) }, 0, 9999},
		{"Limit", func(s *api.Symbol, n int64) { s.Limit = n }, 1, 1 << 40},
		{"Pause", func(s *api.Symbol, n int64) { s.Pause = n }, 1, 1 << 40},
		{"Ext", func(s *api.Symbol, n int64) { s.Ext = n }, 1, 1 << 40},
		{"MaxExt", func(s *api.Symbol, n int64) { s.MaxExt = int(n) }, 0, 10},
		{"Collar", func(s *api.Symbol, n int64) { s.Collar = int(n) }, 0, 9999},
		{"Widen", func(s *api.Symbol, n int64) { s.Widen = int(n) }, 0, 9999},
		{"Self", func(s *api.Symbol, n int64) { s.Self = int(n) }, 0, 3},
		{"Slots", func(s *api.Symbol, n int64) { s.Slots = int(n) }, 1, 500},
		{"Levels", func(s *api.Symbol, n int64) { s.Levels = int(n) }, 1, 200},
		{"Short", func(s *api.Symbol, n int64) { s.Short = int(n) }, 0, 9999},
	}
}

// example is the symbol of the chapter's examples, with room on both sides of every number.
func example() api.Symbol {
	return api.Symbol{
		Grid: 5, Ref: 1000, Static: 500, Dynamic: 400, Window: 20, Move: 50, Limit: 15, Pause: 10, Ext: 5,
		MaxExt: 2, Collar: 200, Widen: 300, Self: 1, Slots: 9, Levels: 8, Short: 1000,
	}
}

// narrow and broad are symbols with every number at an end of its range.
func narrow() api.Symbol {
	return api.Symbol{Grid: 1, Ref: 1, Window: 1, Limit: 1, Pause: 1, Ext: 1, Slots: 1, Levels: 1}
}

func broad() api.Symbol {
	return api.Symbol{
		Grid: 1 << 40, Ref: 1 << 40, Static: 9999, Dynamic: 9999, Window: 1 << 40, Move: 9999, Limit: 1 << 40, Pause: 1 << 40, Ext: 1 << 40,
		MaxExt: 10, Collar: 9999, Widen: 9999, Self: 3, Slots: 500, Levels: 200, Short: 9999,
	}
}

// loose is a symbol each of whose numbers may be replaced by any one in its range, except that the grid must divide 2^40.
func loose() api.Symbol {
	s := narrow()
	s.Ref, s.Static = 1<<40, 9999
	return s
}

// plain is a configuration with three symbols and three rows.
func plain() api.Config {
	return api.Config{
		Symbols: []api.Symbol{example(), narrow(), broad()},
		Table:   []api.Row{{At: 3, Phase: api.Opening}, {At: 10, Phase: api.Continuous}, {At: 1 << 50, Phase: api.Closed}},
		Index:   100,
		Falls:   [3]int{700, 1300, 2000},
		Halts:   [2]int64{15, 30},
	}
}

// single is the configuration of one symbol and the row {3, Continuous}.
func single(s api.Symbol) api.Config {
	c := plain()
	c.Symbols = []api.Symbol{s}
	c.Table = []api.Row{{At: 3, Phase: api.Continuous}}
	return c
}

// full has as many symbols and rows as there can be, and every other number at an end of its range.
func full() api.Config {
	c := api.Config{Index: 1 << 40, Falls: [3]int{9997, 9998, 9999}, Halts: [2]int64{1 << 40, 1 << 40}}
	for i := range 8 {
		c.Symbols = append(c.Symbols, []api.Symbol{broad(), narrow(), example()}[i%3])
	}
	for i := range 20 {
		c.Table = append(c.Table, api.Row{At: 1<<50 - 19 + int64(i), Phase: i % 3})
	}
	return c
}

// small has as few symbols and rows as there can be, and every other number at an end of its range.
func small() api.Config {
	return api.Config{Symbols: []api.Symbol{narrow()}, Table: []api.Row{{}}, Index: 1, Falls: [3]int{1, 2, 3}, Halts: [2]int64{1, 1}}
}

// clone is c in memory of its own, with room behind its lists.
func clone(c api.Config) api.Config {
	c.Symbols = append(make([]api.Symbol, 0, len(c.Symbols)+2), c.Symbols...)
	c.Table = append(make([]api.Row, 0, len(c.Table)+2), c.Table...)
	return c
}

// edges are numbers at and around the ends of every range.
func edges() []int64 {
	out := []int64{math.MinInt64, math.MinInt64 + 1, math.MaxInt64, math.MaxInt64 - 1, -1 << 62, -1 << 40, -1 << 32, -1<<32 + 1, -1 << 31, -256, -2}
	for n := int64(-1); n < 13; n++ {
		out = append(out, n)
	}
	for _, bit := range []int64{1 << 7, 1 << 8, 200, 500, 10000, 1 << 16, 1 << 31, 1 << 32, 1<<32 + 5, 1 << 33, 1 << 40, 1<<40 + 1<<32, 1 << 50, 1 << 62} {
		out = append(out, bit-2, bit-1, bit, bit+1)
	}
	return out
}

// drawnSymbol is a valid one with numbers of all lengths.
func drawnSymbol(d *dice) api.Symbol {
	s := api.Symbol{
		Grid: d.upTo(20), Static: d.below(10000), Window: d.upTo(40), Move: d.below(10000), Limit: d.upTo(40), Pause: d.upTo(40), Ext: d.upTo(40),
		MaxExt: d.below(11), Collar: d.below(10000), Widen: d.below(10000), Self: d.below(4), Slots: 1 + d.below(500), Levels: 1 + d.below(200), Short: d.below(10000),
	}
	s.Ref = s.Grid * d.upTo(20)
	s.Dynamic = d.below(s.Static + 1)
	return s
}

// drawn are n valid configurations.
func drawn(n int) []api.Config {
	d := dice(701)
	var out []api.Config
	for range n {
		c := api.Config{Index: d.upTo(40), Halts: [2]int64{d.upTo(40), d.upTo(40)}}
		c.Falls[0] = 1 + d.below(9997)
		c.Falls[1] = c.Falls[0] + 1 + d.below(9998-c.Falls[0])
		c.Falls[2] = c.Falls[1] + 1 + d.below(9999-c.Falls[1])
		for range 1 + d.below(8) {
			c.Symbols = append(c.Symbols, drawnSymbol(&d))
		}
		at := int64(d.below(2))
		for range 1 + d.below(20) {
			c.Table = append(c.Table, api.Row{At: at, Phase: d.below(3)})
			at += d.upTo(45)
		}
		out = append(out, c)
	}
	return out
}

// configs are valid ones: at the ends of the ranges, and drawn.
func configs() []api.Config {
	return append([]api.Config{plain(), single(example()), full(), small()}, drawn(300)...)
}

// strange are configurations with one number changed to any other, so that most are not valid.
func strange() []api.Config {
	d := dice(702)
	bases := []api.Config{plain(), single(example()), full(), small()}
	others, ofSymbol, ofAll := edges(), fields(), shared()
	var out []api.Config
	for i := range 6000 {
		c := clone(bases[i%len(bases)])
		for range 1 + d.below(2) {
			n := others[d.below(len(others))]
			switch d.below(4) {
			case 0:
				ofSymbol[d.below(len(ofSymbol))].set(&c.Symbols[d.below(len(c.Symbols))], n)
			case 1:
				c.Table[d.below(len(c.Table))].At = n
			case 2:
				c.Table[d.below(len(c.Table))].Phase = int(n)
			default:
				ofAll[d.below(len(ofAll))].set(&c, n)
			}
		}
		out = append(out, c)
	}
	return out
}

// number is one that a configuration has once.
type number struct {
	name string
	set  func(*api.Config, int64)
	most int64
}

func shared() []number {
	return []number{
		{"Index", func(c *api.Config, n int64) { c.Index = n }, 1 << 40},
		{"Falls[0]", func(c *api.Config, n int64) { c.Falls[0] = int(n) }, 1299},
		{"Falls[1]", func(c *api.Config, n int64) { c.Falls[1] = int(n) }, 1999},
		{"Falls[2]", func(c *api.Config, n int64) { c.Falls[2] = int(n) }, 9999},
		{"Halts[0]", func(c *api.Config, n int64) { c.Halts[0] = n }, 1 << 40},
		{"Halts[1]", func(c *api.Config, n int64) { c.Halts[1] = n }, 1 << 40},
	}
}

// faultOf is what the chapter says of a symbol.
func faultOf(s api.Symbol) api.Fault {
	far := func(n, least, most int64) bool { return n < least || n > most }
	whole := func(n int) bool { return far(int64(n), 0, 9999) }
	ticks := func(n int64) bool { return far(n, 1, 1<<40) }
	switch {
	case far(s.Grid, 1, 1<<40) || far(s.Ref, 1, 1<<40):
		return api.Range
	case s.Ref/s.Grid*s.Grid != s.Ref:
		return api.OffGrid
	case whole(s.Static) || whole(s.Dynamic) || whole(s.Move) || whole(s.Collar) || whole(s.Widen) || whole(s.Short):
		return api.Range
	case ticks(s.Window) || ticks(s.Limit) || ticks(s.Pause) || ticks(s.Ext):
		return api.Range
	case s.MaxExt < 0 || s.MaxExt > 10 || s.Self < 0 || s.Self > 3 || s.Slots < 1 || s.Slots > 500 || s.Levels < 1 || s.Levels > 200:
		return api.Range
	case s.Dynamic > s.Static:
		return api.Outside
	}
	return api.OK
}

// judged is what the chapter says of a configuration.
func judged(c api.Config) (api.Fault, int) {
	if len(c.Symbols) < 1 || len(c.Symbols) > 8 {
		return api.Range, 0
	}
	for i := 0; i < len(c.Symbols); i++ {
		if f := faultOf(c.Symbols[i]); f != api.OK {
			return f, i
		}
	}
	if len(c.Table) < 1 || len(c.Table) > 20 {
		return api.Range, 0
	}
	for i, r := range c.Table {
		switch {
		case r.At < 0 || r.At > 1<<50 || i > 0 && r.At <= c.Table[i-1].At:
			return api.Range, i
		case r.Phase != 0 && r.Phase != 1 && r.Phase != 2:
			return api.BadPhase, i
		}
	}
	f, h := c.Falls, c.Halts
	if c.Index < 1 || c.Index > 1<<40 || f[0] < 1 || f[0] >= f[1] || f[1] >= f[2] || f[2] > 9999 {
		return api.Range, 0
	}
	if h[0] < 1 || h[0] > 1<<40 || h[1] < 1 || h[1] > 1<<40 {
		return api.Range, 0
	}
	return api.OK, 0
}

// numbers are those of the encoding of c, in their order.
func numbers(c api.Config) []uint64 {
	out := []uint64{uint64(len(c.Symbols))}
	for _, s := range c.Symbols {
		out = append(out,
			uint64(s.Grid), uint64(s.Ref), uint64(s.Static), uint64(s.Dynamic), uint64(s.Window), uint64(s.Move), uint64(s.Limit), uint64(s.Pause),
			uint64(s.Ext), uint64(s.MaxExt), uint64(s.Collar), uint64(s.Widen), uint64(s.Self), uint64(s.Slots), uint64(s.Levels), uint64(s.Short))
	}
	out = append(out, uint64(len(c.Table)))
	for _, r := range c.Table {
		out = append(out, uint64(r.At), uint64(r.Phase))
	}
	return append(out, uint64(c.Index), uint64(c.Falls[0]), uint64(c.Falls[1]), uint64(c.Falls[2]), uint64(c.Halts[0]), uint64(c.Halts[1]))
}

// bytesOf are the numbers as Nums, by the library.
func bytesOf(numbers ...uint64) []byte {
	var b []byte
	for _, n := range numbers {
		b = binary.AppendUvarint(b, n)
	}
	return b
}

// modelled is what the chapter says of any bytes, read by the library.
func modelled(b []byte) (api.Config, api.Fault) {
	beyond, fault := false, api.OK
	next := func() uint64 {
		if fault != api.OK {
			return 0
		}
		n, size := binary.Uvarint(b)
		switch {
		case size == 0:
			fault = api.Truncated
		case size < 0 || size > 1 && b[size-1] == 0:
			fault = api.Malformed
		default:
			b = b[size:]
			beyond = beyond || n > 1<<62
			return n
		}
		return 0
	}
	long := func() int64 { return int64(next()) }
	short := func() int { return int(next()) }
	var c api.Config
	symbols := next()
	if symbols > 8 {
		return api.Config{}, api.Malformed
	}
	for range symbols {
		var s api.Symbol
		s.Grid, s.Ref, s.Static, s.Dynamic = long(), long(), short(), short()
		s.Window, s.Move, s.Limit, s.Pause = long(), short(), long(), long()
		s.Ext, s.MaxExt, s.Collar, s.Widen = long(), short(), short(), short()
		s.Self, s.Slots, s.Levels, s.Short = short(), short(), short(), short()
		c.Symbols = append(c.Symbols, s)
	}
	rows := next()
	if rows > 20 {
		return api.Config{}, api.Malformed
	}
	for range rows {
		c.Table = append(c.Table, api.Row{At: long(), Phase: short()})
	}
	c.Index = long()
	c.Falls = [3]int{short(), short(), short()}
	c.Halts = [2]int64{long(), long()}
	if fault == api.OK && (beyond || len(b) > 0) {
		fault = api.Malformed
	}
	if fault == api.OK {
		fault, _ = judged(c)
	}
	if fault != api.OK {
		return api.Config{}, fault
	}
	return c, api.OK
}

// symbolIs fails the test where Symbol returns another fault, or Check does for a configuration with this symbol.
func symbolIs(t *testing.T, what string, s api.Symbol, want api.Fault) {
	t.Helper()
	if got := config.Symbol(s); got != want {
		t.Errorf("%s: Symbol(%+v) is %d, not %d", what, s, got, want)
	}
	checkIs(t, what, single(s), want, 0)
	c := plain()
	c.Symbols[2] = s
	place := 2
	if want == api.OK {
		place = 0
	}
	checkIs(t, what+", as the last symbol", c, want, place)
}

// checkIs fails the test where Check returns another fault or place, Encode another fault, or c is changed.
func checkIs(t *testing.T, what string, c api.Config, want api.Fault, place int) {
	t.Helper()
	given := clone(c)
	if got, at := config.Check(c); got != want || at != place {
		t.Errorf("%s: Check(%+v) is %d and %d, not %d and %d", what, c, got, at, want, place)
	}
	var bytesWanted []byte
	if want == api.OK {
		bytesWanted = bytesOf(numbers(c)...)
	}
	if b, got := config.Encode(c); got != want || !bytes.Equal(b, bytesWanted) {
		t.Errorf("%s: Encode(%+v) is % x with fault %d, not % x with %d", what, c, b, got, bytesWanted, want)
	}
	if !equal(c, given) {
		t.Errorf("%s: %+v is changed to %+v", what, given, c)
	}
}

// equal is whether a and b have the same numbers, in lists of the same lengths.
func equal(a, b api.Config) bool {
	return reflect.DeepEqual(clone(a), clone(b))
}

// reads fails the test where b is not the configuration want.
func reads(t *testing.T, what string, b []byte, want api.Config) {
	t.Helper()
	given := slices.Clone(b)
	if c, fault := config.Read(b); !equal(c, want) || fault != api.OK {
		t.Errorf("%s: Read(% x) is %+v with fault %d, not %+v", what, b, c, fault, want)
	}
	if !bytes.Equal(b, given) {
		t.Errorf("%s: Read changes % x to % x", what, given, b)
	}
}

// faulty fails the test where b is a configuration, or has another fault.
func faulty(t *testing.T, what string, b []byte, want api.Fault) {
	t.Helper()
	given := slices.Clone(b)
	if c, fault := config.Read(b); !equal(c, api.Config{}) || fault != want {
		t.Errorf("%s: Read(% x) is %+v with fault %d, not %d", what, b, c, fault, want)
	}
	if !bytes.Equal(b, given) {
		t.Errorf("%s: Read changes % x to % x", what, given, b)
	}
}

func TestP701Examples(t *testing.T) {
	c := single(example())
	checkIs(t, "one row", c, api.OK, 0)
	c.Table = []api.Row{{At: 3, Phase: 2}, {At: 3}}
	checkIs(t, "a row that is not later", c, api.Range, 1)
	s := example()
	s.Static, s.Dynamic = 500, 501
	symbolIs(t, "Dynamic beyond Static", s, api.Outside)
	s = example()
	s.Ref = 1003
	symbolIs(t, "a reference off the grid", s, api.OffGrid)
}

func TestP701EveryFieldOfASymbolInAndOutOfItsRange(t *testing.T) {
	for _, f := range fields() {
		for _, n := range append(edges(), f.least, f.most) {
			s := loose()
			f.set(&s, n)
			want := api.OK
			switch {
			case n < f.least || n > f.most:
				want = api.Range
			case f.name == "Grid" && 1<<40%n != 0:
				want = api.OffGrid
			}
			symbolIs(t, f.name, s, want)
		}
	}
}

func TestP701Grid(t *testing.T) {
	for grid := int64(1); grid <= 40; grid++ {
		for ref := int64(1); ref <= 90; ref++ {
			s := example()
			s.Grid, s.Ref = grid, ref
			want := api.OffGrid
			for multiple := grid; multiple <= ref; multiple += grid {
				if multiple == ref {
					want = api.OK
				}
			}
			symbolIs(t, "grid and reference", s, want)
		}
	}
	s := example()
	s.Grid, s.Ref = 1<<40, 1<<40-1
	symbolIs(t, "a grid greater than the reference", s, api.OffGrid)
	s.Grid, s.Ref = 1<<40-1, 1<<40
	symbolIs(t, "a grid less than the reference", s, api.OffGrid)
}

func TestP701DynamicAndStatic(t *testing.T) {
	for _, static := range []int{0, 1, 2, 500, 9998, 9999} {
		for _, dynamic := range []int{0, 1, 2, 3, 499, 500, 501, 9997, 9998, 9999} {
			s := example()
			s.Static, s.Dynamic = static, dynamic
			want := api.OK
			if dynamic > static {
				want = api.Outside
			}
			symbolIs(t, "Static and Dynamic", s, want)
		}
	}
}

func TestP701NumbersOfAllSymbolsTogether(t *testing.T) {
	for _, f := range shared() {
		for _, n := range append(edges(), f.most, f.most+1) {
			c := plain()
			f.set(&c, n)
			want, _ := judged(c)
			if n < 1 || n > f.most {
				want = api.Range
			}
			checkIs(t, f.name, c, want, 0)
		}
	}
	for _, falls := range [][3]int{{1, 2, 2}, {2, 2, 3}, {2, 1, 3}, {1, 3, 2}, {3, 2, 1}, {5, 5, 5}, {0, 1, 2}, {9998, 9999, 10000}, {-3, -2, -1}, {1, 2, math.MaxInt}, {math.MinInt, 1, 2}} {
		c := plain()
		c.Falls = falls
		checkIs(t, "Falls", c, api.Range, 0)
	}
	for _, falls := range [][3]int{{1, 2, 3}, {1, 2, 9999}, {1, 9998, 9999}, {9997, 9998, 9999}, {4999, 5000, 5001}} {
		c := plain()
		c.Falls = falls
		checkIs(t, "Falls", c, api.OK, 0)
	}
	for _, halts := range [][2]int64{{2, 1}, {1, 1}, {1 << 40, 1}, {1, 1 << 40}} {
		c := plain()
		c.Halts = halts
		checkIs(t, "Halts", c, api.OK, 0)
	}
}

func TestP701HowManySymbolsAndRows(t *testing.T) {
	for n := range 30 {
		c := plain()
		c.Symbols = slices.Repeat([]api.Symbol{example()}, n)
		if n >= 1 && n <= 8 {
			checkIs(t, "symbols", c, api.OK, 0)
		} else {
			checkIs(t, "too few or too many symbols", c, api.Range, 0)
		}
		c = plain()
		c.Table = nil
		for i := range n {
			c.Table = append(c.Table, api.Row{At: int64(i), Phase: i % 3})
		}
		if n >= 1 && n <= 20 {
			checkIs(t, "rows", c, api.OK, 0)
		} else {
			checkIs(t, "too few or too many rows", c, api.Range, 0)
		}
	}
	c := plain()
	c.Symbols = make([]api.Symbol, 1<<16)
	checkIs(t, "far too many symbols", c, api.Range, 0)
	c = plain()
	c.Table = make([]api.Row, 1<<16)
	checkIs(t, "far too many rows", c, api.Range, 0)
	c.Table = []api.Row{}
	checkIs(t, "a table without rows", c, api.Range, 0)
	checkIs(t, "the zero value", api.Config{}, api.Range, 0)
}

func TestP701EveryRow(t *testing.T) {
	for _, n := range edges() {
		for place := range 3 {
			c := plain()
			c.Table = []api.Row{{At: 0}, {At: 1}, {At: 2}}[:place+1]
			c.Table[place].At = n
			if n >= int64(place) && n <= 1<<50 {
				checkIs(t, "At", c, api.OK, 0)
			} else {
				checkIs(t, "At", c, api.Range, place)
			}
			c = plain()
			c.Table[place].Phase = int(n)
			if n >= 0 && n <= 2 {
				checkIs(t, "Phase", c, api.OK, 0)
			} else {
				checkIs(t, "Phase", c, api.BadPhase, place)
			}
		}
	}
	c := plain()
	c.Table = []api.Row{{At: 5}, {At: 9}, {At: 5}}
	checkIs(t, "a row as early as the first", c, api.Range, 2)
	c.Table = []api.Row{{At: 1 << 50}, {At: 1 << 50}}
	checkIs(t, "two rows at the last tick", c, api.Range, 1)
	c.Table = []api.Row{{At: math.MaxInt64}, {At: math.MinInt64}}
	checkIs(t, "far ticks", c, api.Range, 0)
}

// change makes a valid configuration have a fault at a place.
type change struct {
	name  string
	do    func(*api.Config)
	fault api.Fault
	place int
}

// symbolChanges are those of one symbol, in the order of the chapter.
func symbolChanges(k int) []change {
	var out []change
	beyond := func(from, to int) {
		for _, f := range fields()[from:to] {
			out = append(out,
				change{f.name, func(c *api.Config) { f.set(&c.Symbols[k], f.least-1) }, api.Range, k},
				change{f.name, func(c *api.Config) { f.set(&c.Symbols[k], f.most+1) }, api.Range, k})
		}
	}
	beyond(0, 2)
	out = append(out, change{"off the grid", func(c *api.Config) { c.Symbols[k].Grid, c.Symbols[k].Ref = 5, 1003 }, api.OffGrid, k})
	beyond(2, 16)
	return append(out, change{"Outside", func(c *api.Config) { c.Symbols[k].Static, c.Symbols[k].Dynamic = 500, 501 }, api.Outside, k})
}

// rowChanges are those of one row, in the order of the chapter.
func rowChanges(k int) []change {
	return []change{
		{"no tick", func(c *api.Config) { c.Table[k].At = -1 }, api.Range, k},
		{"beyond the last tick", func(c *api.Config) { c.Table[k].At = 1<<50 + 1 }, api.Range, k},
		{"a phase of no row", func(c *api.Config) { c.Table[k].Phase = api.Paused }, api.BadPhase, k},
	}
}

// changes are those of plain, in the order in which the chapter names their faults.
func changes() []change {
	out := []change{
		{"no symbol", func(c *api.Config) { c.Symbols = nil }, api.Range, 0},
		{"too many symbols", func(c *api.Config) { c.Symbols = append(c.Symbols, full().Symbols[:6]...) }, api.Range, 0},
	}
	for k := range 3 {
		out = append(out, symbolChanges(k)...)
	}
	out = append(out,
		change{"no row", func(c *api.Config) { c.Table = nil }, api.Range, 0},
		change{"too many rows", func(c *api.Config) { c.Table = append(c.Table, full().Table[:18]...) }, api.Range, 0})
	for k := range 3 {
		out = append(out, rowChanges(k)...)
	}
	for _, f := range shared() {
		out = append(out, change{f.name, func(c *api.Config) { f.set(c, 0) }, api.Range, 0})
	}
	return out
}

// Of two faults, the one that the chapter names first is told, and its place.
func TestP701TheFirstFaultIsTold(t *testing.T) {
	all := changes()
	for i, first := range all {
		c := clone(plain())
		first.do(&c)
		checkIs(t, first.name, c, first.fault, first.place)
		for _, second := range all[i+1:] {
			c := clone(plain())
			second.do(&c)
			first.do(&c)
			if f, place := config.Check(c); f != first.fault || place != first.place {
				t.Errorf("%s (%d) before %s (%d): Check is %d and %d, not %d and %d", first.name, first.place, second.name, second.place, f, place, first.fault, first.place)
			}
		}
	}
}

func TestP701ManyConfigurations(t *testing.T) {
	for _, c := range configs() {
		checkIs(t, "a valid one", c, api.OK, 0)
		for _, s := range c.Symbols {
			if f := config.Symbol(s); f != api.OK {
				t.Errorf("Symbol(%+v) is %d", s, f)
			}
		}
	}
	wrong := 0
	for _, c := range strange() {
		want, place := judged(c)
		if want != api.OK {
			wrong++
		}
		checkIs(t, "a changed one", c, want, place)
		for _, s := range c.Symbols {
			if got, want := config.Symbol(s), faultOf(s); got != want {
				t.Errorf("Symbol(%+v) is %d, not %d", s, got, want)
			}
		}
	}
	if wrong < 2000 || wrong > 5900 {
		t.Errorf("%d of the changed configurations are not valid: too many or too few to tell anything", wrong)
	}
}

func TestP702EveryByteOfAnEncoding(t *testing.T) {
	c := api.Config{
		Symbols: []api.Symbol{
			{Grid: 5, Ref: 1000, Static: 500, Dynamic: 400, Window: 21, Move: 22, Limit: 23, Pause: 24, Ext: 25, MaxExt: 10, Collar: 26, Widen: 27, Self: 3, Slots: 300, Levels: 28, Short: 29},
			narrow(),
		},
		Table: []api.Row{{At: 3, Phase: 2}, {At: 1 << 14, Phase: 0}},
		Index: 1 << 40, Falls: [3]int{31, 32, 33}, Halts: [2]int64{34, 35},
	}
	want := []byte{
		2,
		5, 0xe8, 7, 0xf4, 3, 0x90, 3, 21, 22, 23, 24, 25, 10, 26, 27, 3, 0xac, 2, 28, 29,
		1, 1, 0, 0, 1, 0, 1, 1, 1, 0, 0, 0, 0, 1, 1, 0,
		2,
		3, 2, 0x80, 0x80, 1, 0,
		0x80, 0x80, 0x80, 0x80, 0x80, 32, 31, 32, 33, 34, 35,
	}
	if b, fault := config.Encode(c); !bytes.Equal(b, want) || fault != api.OK {
		t.Errorf("Encode: % x with fault %d, not % x", b, fault, want)
	}
	reads(t, "every field", want, c)
}

func TestP702EncodeReturnsNewMemory(t *testing.T) {
	first, _ := config.Encode(plain())
	for i := range first {
		first[i] = 99
	}
	_ = append(first, 98)
	if second, _ := config.Encode(plain()); !bytes.Equal(second, bytesOf(numbers(plain())...)) {
		t.Errorf("Encode after a change of its result: % x", second)
	}
}

// What is behind the elements of a caller's lists stays, too.
func TestP702EncodeChangesNothing(t *testing.T) {
	all := plain()
	c := all
	c.Symbols, c.Table = all.Symbols[:1], all.Table[:1]
	if b, fault := config.Encode(c); !bytes.Equal(b, bytesOf(numbers(c)...)) || fault != api.OK {
		t.Errorf("Encode of lists with something behind them: % x with fault %d", b, fault)
	}
	if !equal(all, plain()) {
		t.Errorf("Encode changes what is behind its lists: %+v", all)
	}
}

func TestP702ReadReturnsNewMemory(t *testing.T) {
	b := bytesOf(numbers(plain())...)
	first, _ := config.Read(b)
	for i := range b {
		b[i] = 99
	}
	if !equal(first, plain()) {
		t.Errorf("what Read returned changes with the bytes: %+v", first)
	}
	b = bytesOf(numbers(plain())...)
	clear(first.Symbols)
	clear(first.Table)
	reads(t, "after a change of its result", b, plain())
	reads(t, "with room behind it", append(b, 0)[:len(b)], plain())
}

func TestP702EveryPrefixIsTruncated(t *testing.T) {
	for _, c := range configs() {
		b := bytesOf(numbers(c)...)
		for size := range b {
			faulty(t, "a prefix", b[:size], api.Truncated)
		}
	}
	faulty(t, "nil", nil, api.Truncated)
}

func TestP702BytesThatAreLeft(t *testing.T) {
	for _, c := range configs() {
		b := bytesOf(numbers(c)...)
		for _, behind := range [][]byte{{0}, {1}, {255}, {0x80, 0}, b, make([]byte, 300)} {
			faulty(t, "bytes that are left", slices.Concat(b, behind), api.Malformed)
		}
	}
	// Bytes that are left come before what Check says.
	for _, ch := range changes() {
		if c := clone(plain()); ch.name != "too many symbols" && ch.name != "too many rows" {
			ch.do(&c)
			faulty(t, ch.name, append(bytesOf(numbers(c)...), 0), api.Malformed)
		}
	}
}

// A count that is too great is told at once, whatever is behind it.
func TestP702CountsThatAreTooGreat(t *testing.T) {
	toRows := bytesOf(numbers(plain())[:1+3*16]...)
	behinds := [][]byte{nil, {0}, {0x80}, {0x80, 0}, bytesOf(numbers(plain())...), make([]byte, 400), bytes.Repeat([]byte{1}, 400), bytes.Repeat([]byte{0x80}, 20)}
	for _, n := range []uint64{9, 10, 20, 21, 22, 127, 128, 255, 256, 264, 1 << 16, 1<<31 + 1, 1 << 32, 1<<32 + 2, 1<<40 + 3, 1 << 62, 1<<62 + 1, 1<<63 - 1, 1 << 63, 1<<63 + 1, 1<<64 - 1} {
		for _, behind := range behinds {
			faulty(t, "a number of symbols", append(bytesOf(n), behind...), api.Malformed)
			if n > 20 {
				faulty(t, "a number of rows", slices.Concat(toRows, bytesOf(n), behind), api.Malformed)
			}
		}
	}
	// What is wrong with the symbols does not come before it, nor is it overlooked where there are none.
	for _, n := range []uint64{21, 1 << 63} {
		faulty(t, "a number of rows behind an invalid symbol", slices.Concat([]byte{1}, make([]byte, 16), bytesOf(n)), api.Malformed)
		faulty(t, "a number of rows behind no symbol", append([]byte{0}, bytesOf(n)...), api.Malformed)
	}
	faulty(t, "the number of symbols alone", []byte{8}, api.Truncated)
	faulty(t, "the number of rows alone", append(slices.Clone(toRows), 20), api.Truncated)
}

// All numbers are read before one is judged.
func TestP702CountsOfNone(t *testing.T) {
	c := plain()
	c.Symbols = nil
	b := bytesOf(numbers(c)...)
	faulty(t, "no symbol", b, api.Range)
	faulty(t, "no symbol, and a byte more", append(slices.Clone(b), 0), api.Malformed)
	faulty(t, "no symbol, and a byte less", b[:len(b)-1], api.Truncated)
	c = plain()
	c.Table = nil
	b = bytesOf(numbers(c)...)
	faulty(t, "no row", b, api.Range)
	faulty(t, "no row, and a byte more", append(slices.Clone(b), 0), api.Malformed)
	faulty(t, "no row, and a byte less", b[:len(b)-1], api.Truncated)
	faulty(t, "zeros alone", make([]byte, 8), api.Range)
	faulty(t, "a zero less", make([]byte, 7), api.Truncated)
	faulty(t, "a zero more", make([]byte, 9), api.Malformed)
}

// counts are the places of the numbers of symbols and rows in the encoding of plain.
func counts() []int {
	return []int{0, 1 + 3*16}
}

func TestP702EveryNumberInAndOutOfItsRange(t *testing.T) {
	given := numbers(plain())
	for place := range given {
		if slices.Contains(counts(), place) {
			continue
		}
		for _, n := range append([]uint64{1<<62 - 1, 1 << 62, 1<<62 + 1, 1<<63 - 1, 1 << 63, 1<<63 + 5, 1<<64 - 1, 1<<64 - 5}, given[place], given[place]+1<<32, given[place]+1<<62) {
			changed := slices.Clone(given)
			changed[place] = n
			b := bytesOf(changed...)
			c, fault := modelled(b)
			what := fmt.Sprintf("the number %d is %d", place, n)
			switch {
			case n > 1<<62:
				faulty(t, what, b, api.Malformed)
			case fault == api.OK:
				reads(t, what, b, c)
			default:
				faulty(t, what, b, fault)
			}
		}
	}
}

// The ends of what is a number at all, for a field of each kind.
func TestP702NumbersBeyond(t *testing.T) {
	phase := len(numbers(plain())) - 7
	for _, f := range []struct {
		name  string
		place int
		fault api.Fault
	}{
		{"Grid", 1, api.Range}, {"Static", 3, api.Range}, {"Slots", 14, api.Range}, {"At", counts()[1] + 1, api.Range},
		{"Phase", phase, api.BadPhase}, {"Index", phase + 1, api.Range}, {"Falls[2]", phase + 4, api.Range}, {"Halts[1]", phase + 6, api.Range},
	} {
		changed := numbers(plain())
		for _, n := range []uint64{1<<50 + 1, 1<<61 + 1, 1 << 62} {
			changed[f.place] = n
			faulty(t, f.name, bytesOf(changed...), f.fault)
		}
		for _, n := range []uint64{1<<62 + 1, 1 << 63, 1<<63 + 5, 1<<64 - 1} {
			changed[f.place] = n
			b := bytesOf(changed...)
			faulty(t, f.name, b, api.Malformed)
			faulty(t, f.name+", and a byte less", b[:len(b)-1], api.Truncated)
			faulty(t, f.name+", and a byte more", append(b, 0), api.Malformed)
		}
	}
	// A number beyond is told before a symbol that is not valid, wherever they stand.
	c := single(example())
	c.Symbols[0].Ref = 1003
	changed := numbers(c)
	faulty(t, "off the grid", bytesOf(changed...), api.OffGrid)
	changed[len(changed)-1] = 1<<62 + 1
	faulty(t, "off the grid, and a number beyond", bytesOf(changed...), api.Malformed)
}

func TestP702MalformedNumbers(t *testing.T) {
	nine := bytes.Repeat([]byte{0x80}, 9)
	bad := [][]byte{{0x80, 0}, {0x81, 0}, {0xff, 0}, {0x80, 0x80, 0}, append(slices.Clone(nine), 0), append(slices.Clone(nine), 2), append(slices.Clone(nine), 0x80), append(slices.Clone(nine), 0xff)}
	given := numbers(plain())
	for place := range given {
		before, behind := bytesOf(given[:place]...), bytesOf(given[place+1:]...)
		for _, n := range bad {
			faulty(t, "a malformed number", slices.Concat(before, n, behind), api.Malformed)
			faulty(t, "a malformed number and no more", slices.Concat(before, n), api.Malformed)
			faulty(t, "a part of a malformed number", slices.Concat(before, n[:len(n)-1]), api.Truncated)
			if place > 1 { // a range, and a number beyond, are judged later
				beyond := slices.Clone(given[:place])
				beyond[1] = 1 << 63
				faulty(t, "a malformed number behind one beyond", slices.Concat(bytesOf(beyond...), n), api.Malformed)
				faulty(t, "no number behind one beyond", bytesOf(beyond...), api.Truncated)
			}
		}
	}
}

func TestP702EveryFaultOfCheck(t *testing.T) {
	for _, ch := range changes() {
		c := clone(plain())
		ch.do(&c)
		b := bytesOf(numbers(c)...)
		_, want := modelled(b)
		faulty(t, ch.name, b, want)
	}
	for _, c := range strange() {
		b := bytesOf(numbers(c)...)
		if want, fault := modelled(b); fault == api.OK {
			reads(t, "a changed one", b, want)
		} else {
			faulty(t, "a changed one", b, fault)
		}
	}
}

// strewn are n lists of bytes: whatever comes, and encodings with something changed, lacking or added.
func strewn(n int) [][]byte {
	d := dice(703)
	valid := configs()
	var out [][]byte
	for range n {
		c := valid[d.below(len(valid))]
		if d.below(2) == 0 {
			c = small()
		}
		b := bytesOf(numbers(c)...)
		switch d.below(6) {
		case 0:
			b = make([]byte, d.below(80))
			for k := range b {
				b[k] = byte(d.next()) >> d.below(9)
			}
		case 1:
			b = append(b[:d.below(len(b)+1)], make([]byte, d.below(20))...)
		case 2:
			b[d.below(len(b))] = []byte{0, 0x80, 0xff, 1, 2}[d.below(5)]
		case 3:
			b = slices.Insert(b, d.below(len(b)+1), byte(d.next())>>d.below(9))
		}
		if len(b) > 0 && d.below(2) == 0 {
			b[d.below(len(b))] ^= 1 << d.below(8)
		}
		out = append(out, b)
	}
	return out
}

func TestP702ReadOfAnyBytes(t *testing.T) {
	seen := map[api.Fault]int{}
	for _, b := range strewn(30_000) {
		c, fault := modelled(b)
		seen[fault]++
		if fault != api.OK {
			faulty(t, "any bytes", b, fault)
		} else {
			reads(t, "any bytes", b, c)
		}
	}
	for _, fault := range []api.Fault{api.OK, api.Truncated, api.Malformed, api.OffGrid, api.Range, api.BadPhase} {
		if seen[fault] < 50 {
			t.Errorf("only %d of the lists have fault %d", seen[fault], fault)
		}
	}
}

// sameIs fails the test where Same answers otherwise, in either direction.
func sameIs(t *testing.T, what string, a, b api.Config, want bool) {
	t.Helper()
	if config.Same(a, b) != want || config.Same(b, a) != want {
		t.Errorf("%s: Same(%+v, %+v) is not %t", what, a, b, want)
	}
}

func TestP702Same(t *testing.T) {
	for _, c := range append(configs(), strange()[:1000]...) {
		sameIs(t, "a copy", c, clone(c), true)
	}
	all := drawn(40)
	for i, a := range all {
		for k, b := range all {
			sameIs(t, "drawn ones", a, b, i == k)
		}
	}
	// What has no elements is the same, nil or not; and what is not valid may be the same, too.
	sameIs(t, "no lists", api.Config{}, api.Config{Symbols: []api.Symbol{}, Table: []api.Row{}}, true)
	sameIs(t, "no list and the zero symbol", api.Config{}, api.Config{Symbols: make([]api.Symbol, 1)}, false)
	sameIs(t, "no list and the zero row", api.Config{}, api.Config{Table: make([]api.Row, 1)}, false)
}

func TestP702SameOfEveryField(t *testing.T) {
	differs := func(what string, change func(*api.Config)) {
		t.Helper()
		for _, base := range []api.Config{plain(), full()} {
			c := clone(base)
			change(&c)
			sameIs(t, what, base, c, false)
		}
	}
	for _, n := range []int64{-1, 7, 1<<32 + 5, math.MaxInt64} {
		for _, f := range fields() {
			for k := range 3 {
				differs(f.name, func(c *api.Config) { f.set(&c.Symbols[k], n) })
			}
		}
		for k := range 3 {
			differs("At", func(c *api.Config) { c.Table[k].At = n })
			differs("Phase", func(c *api.Config) { c.Table[k].Phase = int(n) })
		}
		for _, f := range shared() {
			differs(f.name, func(c *api.Config) { f.set(c, n) })
		}
	}
	differs("a symbol less", func(c *api.Config) { c.Symbols = c.Symbols[:2] })
	differs("a symbol more", func(c *api.Config) { c.Symbols = append(c.Symbols, example()) })
	differs("no symbol", func(c *api.Config) { c.Symbols = nil })
	differs("other symbols", func(c *api.Config) { slices.Reverse(c.Symbols[:3]) })
	differs("a row less", func(c *api.Config) { c.Table = c.Table[1:] })
	differs("a row more", func(c *api.Config) { c.Table = append(c.Table, api.Row{}) })
	differs("no row", func(c *api.Config) { c.Table = nil })
	differs("other rows", func(c *api.Config) { slices.Reverse(c.Table) })
	differs("other Falls", func(c *api.Config) { slices.Reverse(c.Falls[:]) })
}

func TestP703Examples(t *testing.T) {
	s := example()
	s.Pause, s.Ext, s.MaxExt = 10, 5, 2
	if n := config.Bound(s); n != 25 {
		t.Errorf("Bound is %d, not 25", n)
	}
	s.MaxExt = 0
	if n := config.Bound(s); n != 15 {
		t.Errorf("Bound without extensions is %d, not 15", n)
	}
	if n := config.Bound(broad()); n != 12<<40 {
		t.Errorf("the greatest Bound is %d", n)
	}
	if n := config.Bound(narrow()); n != 2 {
		t.Errorf("the least Bound is %d", n)
	}
}

func TestP703EveryBound(t *testing.T) {
	for _, pause := range []int64{1, 2, 3, 1000, 1 << 32, 1<<40 - 1, 1 << 40} {
		for _, ext := range []int64{1, 2, 7, 999, 1 << 33, 1<<40 - 1, 1 << 40} {
			for most := range 11 {
				s := example()
				s.Pause, s.Ext, s.MaxExt = pause, ext, most
				want := pause
				for range most + 1 {
					want += ext
				}
				if n := config.Bound(s); n != want {
					t.Errorf("Bound of Pause %d, Ext %d and MaxExt %d is %d, not %d", pause, ext, most, n, want)
				}
			}
		}
	}
}

func TestP703BoundOfWhatIsNotValid(t *testing.T) {
	for _, f := range fields() {
		for _, n := range append(edges(), f.least, f.most) {
			s := loose()
			f.set(&s, n)
			want := int64(0)
			if faultOf(s) == api.OK {
				want = s.Pause + s.Ext*int64(s.MaxExt+1)
			}
			if got := config.Bound(s); got != want {
				t.Errorf("Bound(%+v) is %d, not %d", s, got, want)
			}
		}
	}
	for _, s := range []api.Symbol{{}, {Pause: 10, Ext: 5, MaxExt: 2}, {Pause: math.MaxInt64, Ext: math.MaxInt64, MaxExt: math.MaxInt}} {
		if n := config.Bound(s); n != 0 {
			t.Errorf("Bound(%+v) is %d", s, n)
		}
	}
	s := example()
	s.Dynamic = s.Static + 1
	if n := config.Bound(s); n != 0 {
		t.Errorf("Bound of a symbol whose Dynamic is too great is %d", n)
	}
	s = example()
	s.Ref++
	if n := config.Bound(s); n != 0 {
		t.Errorf("Bound of a symbol off its grid is %d", n)
	}
}

func TestP704ReadInvertsEncode(t *testing.T) {
	for _, c := range configs() {
		b, fault := config.Encode(c)
		if fault != api.OK {
			t.Fatalf("Encode(%+v) has fault %d", c, fault)
		}
		reads(t, "an encoding", b, c)
		if got, _ := config.Read(b); !config.Same(got, c) {
			t.Errorf("Read of the encoding of %+v is not the same: %+v", c, got)
		}
	}
}

func TestP704WhatIsReadHasTheseBytes(t *testing.T) {
	found := 0
	for _, b := range strewn(30_000) {
		c, fault := config.Read(b)
		if fault != api.OK {
			continue
		}
		found++
		if f, place := config.Check(c); f != api.OK || place != 0 {
			t.Errorf("Read(% x) is %+v, with fault %d", b, c, f)
		}
		if got, fault := config.Encode(c); !bytes.Equal(got, b) || fault != api.OK {
			t.Errorf("Read(% x) is %+v, whose encoding is % x with fault %d", b, c, got, fault)
		}
	}
	if found < 3_000 {
		t.Errorf("only %d of the lists are configurations", found)
	}
}

func TestP704DifferentConfigurationsHaveDifferentBytes(t *testing.T) {
	of := map[string]api.Config{}
	for _, c := range append(configs(), strange()...) {
		b, fault := config.Encode(c)
		if fault != api.OK {
			continue
		}
		if other, there := of[string(b)]; there && !equal(other, c) {
			t.Errorf("% x are %+v and %+v", b, c, other)
		}
		of[string(b)] = c
	}
}
