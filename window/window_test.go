package window_test

import (
	"math"
	"math/big"
	"slices"
	"testing"

	"damper/api"
	"damper/window"
)

// dice gives numbers that look like nothing, the same ones at every run.
type dice uint64

func (d *dice) next() uint64 {
	*d += 0x9e3779b97f4a7c15
	z := uint64(*d)
	z = (z ^ z>>30) * 0xbf58476d1ce4e5b9
	z = (z ^ z>>27) * 0x94d049bb133111eb
	return z ^ z>>31
}

func (d *dice) below(n int) int {
	return int(d.next() % uint64(n))
}

const (
	most  = math.MaxInt64
	least = math.MinInt64

	lastTick = 1 << 60
	farSpan  = 1 << 40
)

// far are numbers at, around and beyond the ends of every range that the chapter names.
func far() []int64 {
	return []int64{
		least, least + 1, -1 << 60, -1 << 40, -2, -1, 0, 1, 2, 9999, 10000, 1<<32 - 1, 1 << 32, 1<<32 + 1,
		1<<40 - 1, 1 << 40, 1<<40 + 1, 1<<60 - 1, 1 << 60, 1<<60 + 1, most - 1, most,
	}
}

type trade struct{ tick, price, qty int64 }

// model is a window by the words of the chapter: it keeps all trades since the last Reset.
type model struct {
	span, grid, ref int64
	last            int64 // the greatest tick that was accepted
	trades          []trade
	removed         int // how many of the trades, from the first one on
}

func (m *model) accepts(tick int64) bool {
	return 0 <= tick && tick <= lastTick && tick >= m.last
}

func priceOK(price int64) bool { return price >= 1 && price <= 1<<40 }

func (m *model) add(tick, price, qty int64) api.Fault {
	if !m.accepts(tick) || !priceOK(price) || qty < 1 || qty > 1<<32 {
		return api.Range
	}
	m.last = tick
	m.trades = append(m.trades, trade{tick, price, qty})
	return api.OK
}

// meanOf is the mean of some trades and a grid, if there are any.
func meanOf(trades []trade, grid int64) (int64, bool) {
	if len(trades) == 0 {
		return 0, false
	}
	worth, qty := new(big.Int), new(big.Int)
	for _, t := range trades {
		worth.Add(worth, new(big.Int).Mul(big.NewInt(t.price), big.NewInt(t.qty)))
		qty.Add(qty, big.NewInt(t.qty))
	}
	steps := new(big.Int).Div(new(big.Int).Div(worth, qty), big.NewInt(grid))
	if steps.Sign() == 0 {
		return grid, true
	}
	return steps.Int64() * grid, true
}

// inside are the trades in the window at a tick, of all there were.
func (m *model) inside(tick int64) []trade {
	var in []trade
	for _, t := range m.trades {
		if t.tick > tick-m.span {
			in = append(in, t)
		}
	}
	return in
}

func (m *model) mean(tick int64) (int64, bool) {
	if !m.accepts(tick) {
		return 0, false
	}
	m.last = tick
	in := m.inside(tick)
	m.removed = len(m.trades) - len(in)
	return meanOf(in, m.grid)
}

// movedOf is Moved by its words.
func movedOf(a, b int64, bps int) bool {
	if !priceOK(a) || !priceOK(b) || bps < 0 || bps > 9999 || a == b {
		return false
	}
	apart := new(big.Int).Sub(big.NewInt(a), big.NewInt(b))
	apart.Abs(apart).Mul(apart, big.NewInt(10000))
	return apart.Cmp(new(big.Int).Mul(big.NewInt(a), big.NewInt(int64(bps)))) >= 0
}

func (m *model) roll(tick int64, bps int) (int64, bool) {
	mean, ok := m.mean(tick)
	if ok && movedOf(m.ref, mean, bps) {
		m.ref = mean
		return mean, true
	}
	return m.ref, false
}

func (m *model) reset(ref int64) api.Fault {
	if !priceOK(ref) || ref%m.grid != 0 {
		return api.Range
	}
	m.ref, m.trades, m.removed = ref, nil, 0
	return api.OK
}

// pair is a window and the model of it; each call of the one is held against that of the other.
type pair struct {
	t *testing.T
	w *window.Window
	m model
}

// call is what was asked of a window, to tell it.
type call struct {
	what    string
	a, b, c int64
}

func made(t *testing.T, span, grid, ref int64) *window.Window {
	t.Helper()
	w, fault := window.New(span, grid, ref)
	if fault != api.OK || w == nil {
		t.Fatalf("New(%d, %d, %d) is %v and fault %d", span, grid, ref, w, fault)
	}
	return w
}

func paired(t *testing.T, span, grid, ref int64) *pair {
	t.Helper()
	return &pair{t: t, w: made(t, span, grid, ref), m: model{span: span, grid: grid, ref: ref}}
}

// same fails the test where what stays after a call is not as the model has it.
func (p *pair) same(c call) {
	p.t.Helper()
	if got := p.w.Ref(); got != p.m.ref {
		p.t.Fatalf("span %d, grid %d: after %v, Ref is %d, not %d", p.m.span, p.m.grid, c, got, p.m.ref)
	}
	if got, want := p.w.Len(), len(p.m.trades)-p.m.removed; got != want {
		p.t.Fatalf("span %d, grid %d: after %v, Len is %d, not %d", p.m.span, p.m.grid, c, got, want)
	}
}

func (p *pair) add(tick, price, qty int64) api.Fault {
	p.t.Helper()
	c := call{"Add", tick, price, qty}
	got, want := p.w.Add(tick, price, qty), p.m.add(tick, price, qty)
	if got != want {
		p.t.Fatalf("%v after %v is fault %d, not %d", c, p.m, got, want)
	}
	p.same(c)
	return got
}

func (p *pair) mean(tick int64) (int64, bool) {
	p.t.Helper()
	c := call{what: "Mean", a: tick}
	got, ok := p.w.Mean(tick)
	want, wantOK := p.m.mean(tick)
	if got != want || ok != wantOK {
		p.t.Fatalf("%v after %v is %d and %v, not %d and %v", c, p.m, got, ok, want, wantOK)
	}
	p.same(c)
	return got, ok
}

func (p *pair) roll(tick int64, bps int) (int64, bool) {
	p.t.Helper()
	c := call{what: "Roll", a: tick, b: int64(bps)}
	got, ok := p.w.Roll(tick, bps)
	want, wantOK := p.m.roll(tick, bps)
	if got != want || ok != wantOK {
		p.t.Fatalf("%v after %v is %d and %v, not %d and %v", c, p.m, got, ok, want, wantOK)
	}
	p.same(c)
	return got, ok
}

func (p *pair) reset(ref int64) api.Fault {
	p.t.Helper()
	c := call{what: "Reset", a: ref}
	got, want := p.w.Reset(ref), p.m.reset(ref)
	if got != want {
		p.t.Fatalf("%v after %v is fault %d, not %d", c, p.m, got, want)
	}
	p.same(c)
	return got
}

// do is one call, by a number and what it is asked with.
func (p *pair) do(kind int, tick, price, qty int64) {
	p.t.Helper()
	switch kind {
	case 0:
		p.add(tick, price, qty)
	case 1:
		p.mean(tick)
	case 2:
		p.roll(tick, int(qty))
	case 3:
		p.reset(price)
	}
}

func TestP1901NewInAndOutOfItsRange(t *testing.T) {
	numbers := append(far(), 3, 4, 5, 6, 10, 15, 1<<39, 3<<38)
	for _, span := range numbers {
		for _, grid := range numbers {
			for _, ref := range numbers {
				good := span >= 1 && span <= farSpan && grid >= 1 && grid <= 1<<40 && ref >= 1 && ref <= 1<<40 && ref%grid == 0
				w, fault := window.New(span, grid, ref)
				switch {
				case good && (w == nil || fault != api.OK):
					t.Fatalf("New(%d, %d, %d) is %v and fault %d", span, grid, ref, w, fault)
				case good && (w.Len() != 0 || w.Ref() != ref):
					t.Fatalf("New(%d, %d, %d) has %d trades and the reference %d", span, grid, ref, w.Len(), w.Ref())
				case !good && (w != nil || fault != api.Range):
					t.Fatalf("New(%d, %d, %d) is %v and fault %d, not Range", span, grid, ref, w, fault)
				}
			}
		}
	}
}

func TestP1901ANewWindowHasNoMean(t *testing.T) {
	for _, tick := range []int64{0, 1, 5, lastTick} {
		if got, ok := made(t, 5, 5, 100).Mean(tick); got != 0 || ok {
			t.Errorf("Mean(%d) is %d and %v", tick, got, ok)
		}
		if got, ok := made(t, 5, 5, 100).Roll(tick, 0); got != 100 || ok {
			t.Errorf("Roll(%d, 0) is %d and %v", tick, got, ok)
		}
	}
}

func TestP1901AddInAndOutOfItsRange(t *testing.T) {
	for _, tick := range far() {
		for _, price := range far() {
			for _, qty := range far() {
				p := paired(t, 5, 5, 100)
				good := tick >= 0 && tick <= lastTick && price >= 1 && price <= 1<<40 && qty >= 1 && qty <= 1<<32
				want := api.Range
				if good {
					want = api.OK
				}
				if got := p.add(tick, price, qty); got != want {
					t.Fatalf("Add(%d, %d, %d) is fault %d, not %d", tick, price, qty, got, want)
				}
			}
		}
	}
}

func TestP1901AddTakesPricesOffTheGrid(t *testing.T) {
	p := paired(t, 5, 10, 100)
	for price := int64(1); price <= 30; price++ {
		if fault := p.add(price, price, 1); fault != api.OK {
			t.Errorf("Add at the price %d is fault %d", price, fault)
		}
		p.mean(price)
	}
}

func TestP1901WhichTicksAreAccepted(t *testing.T) {
	// What comes first, and whether its tick then bounds those that follow.
	for _, x := range []struct {
		why    string
		first  func(w *window.Window)
		bounds bool
	}{
		{"an Add", func(w *window.Window) { w.Add(7, 100, 1) }, true},
		{"a Mean of nothing", func(w *window.Window) { w.Mean(7) }, true},
		{"a Mean", func(w *window.Window) { w.Add(6, 100, 1); w.Mean(7) }, true},
		{"a Roll of nothing", func(w *window.Window) { w.Roll(7, 0) }, true},
		{"a Roll that moves nothing", func(w *window.Window) { w.Add(6, 100, 1); w.Roll(7, 0) }, true},
		{"a Roll that moves the reference", func(w *window.Window) { w.Add(6, 200, 1); w.Roll(7, 0) }, true},
		{"a Roll with bps that are none", func(w *window.Window) { w.Add(6, 200, 1); w.Roll(7, -1) }, true},
		{"an Add, then a Reset", func(w *window.Window) { w.Add(7, 100, 1); w.Reset(200) }, true},
		{"a Mean, then a Reset", func(w *window.Window) { w.Mean(7); w.Reset(200) }, true},
		{"an Add, then one that is too early", func(w *window.Window) { w.Add(7, 100, 1); w.Add(3, 100, 1) }, true},
		{"nothing", func(w *window.Window) {}, false},
		{"a Reset", func(w *window.Window) { w.Reset(200) }, false},
		{"an Add of a price that is none", func(w *window.Window) { w.Add(7, 0, 1); w.Add(7, 1<<40+1, 1) }, false},
		{"an Add of a quantity that is none", func(w *window.Window) { w.Add(7, 100, 0); w.Add(7, 100, 1<<32+1) }, false},
		{"ticks that are too late", func(w *window.Window) { w.Add(lastTick+1, 100, 1); w.Mean(lastTick + 1); w.Roll(lastTick+1, 0) }, false},
	} {
		for _, y := range []struct {
			tick int64
			good bool
		}{{6, !x.bounds}, {0, !x.bounds}, {7, true}, {8, true}, {lastTick, true}, {lastTick + 1, false}, {-1, false}} {
			w := made(t, 100, 5, 100)
			x.first(w)
			if fault := w.Add(y.tick, 100, 1); (fault == api.OK) != y.good || !y.good && fault != api.Range {
				t.Errorf("%s: then Add at %d is fault %d", x.why, y.tick, fault)
			}
			// Mean and Roll tell it by a trade that would be in the window at the tick.
			at := y.tick
			if !y.good {
				at = min(max(at, 7), lastTick)
			}
			for _, ask := range []func(w *window.Window) bool{
				func(w *window.Window) bool { _, ok := w.Mean(y.tick); return ok },
				func(w *window.Window) bool { _, ok := w.Roll(y.tick, 0); return ok },
			} {
				w := made(t, farSpan, 5, 100)
				x.first(w)
				w.Reset(100)
				if w.Add(at, 5000, 1) != api.OK {
					t.Fatalf("%s: then Add at %d has a fault", x.why, at)
				}
				if got := ask(w); got != y.good {
					t.Errorf("%s: then Mean or Roll at %d has %v", x.why, y.tick, got)
				}
			}
		}
	}
}

func TestP1901ATickThatIsNotAcceptedChangesNothing(t *testing.T) {
	for _, tick := range []int64{least, -1, 0, 8, lastTick + 1, most} {
		p := paired(t, 5, 5, 100)
		p.add(2, 300, 1)
		p.add(9, 200, 1)
		if fault := p.add(tick, 100, 1); fault != api.Range {
			t.Errorf("Add at %d is fault %d", tick, fault)
		}
		if got, ok := p.mean(tick); got != 0 || ok {
			t.Errorf("Mean at %d is %d and %v", tick, got, ok)
		}
		if got, ok := p.roll(tick, 0); got != 100 || ok {
			t.Errorf("Roll at %d is %d and %v", tick, got, ok)
		}
		// The trade of the tick 2 has left the window, but nothing has removed it.
		if got := p.w.Len(); got != 2 {
			t.Errorf("after the tick %d, Len is %d", tick, got)
		}
		p.mean(9)
	}
}

func TestP1901RefAndReset(t *testing.T) {
	for _, ref := range append(far(), 3, 5, 10, 12, 100, 105, 1<<40-6, 1<<40-1<<40%5) {
		p := paired(t, 5, 5, 100)
		p.add(1, 50, 2)
		p.add(2, 60, 2)
		want := api.Range
		if ref >= 1 && ref <= 1<<40 && ref%5 == 0 {
			want = api.OK
		}
		if got := p.reset(ref); got != want {
			t.Fatalf("Reset(%d) is fault %d, not %d", ref, got, want)
		}
		got, ok := p.mean(2)
		if want == api.OK && (got != 0 || ok || p.w.Ref() != ref || p.w.Len() != 0) {
			t.Errorf("after Reset(%d), Mean is %d and %v, Ref %d, Len %d", ref, got, ok, p.w.Ref(), p.w.Len())
		}
		if want != api.OK && (got != 55 || !ok || p.w.Ref() != 100 || p.w.Len() != 2) {
			t.Errorf("after Reset(%d), Mean is %d and %v, Ref %d, Len %d", ref, got, ok, p.w.Ref(), p.w.Len())
		}
	}
}

func TestP1901AfterAResetTheMeanIsOfNewTrades(t *testing.T) {
	p := paired(t, 5, 5, 100)
	p.add(3, 1<<40, 1<<32)
	p.reset(200)
	p.add(3, 70, 1)
	if got, ok := p.mean(4); got != 70 || !ok {
		t.Errorf("Mean is %d and %v", got, ok)
	}
	// What was there before leaves no second time.
	if got, ok := p.mean(8); got != 0 || ok {
		t.Errorf("Mean is %d and %v", got, ok)
	}
	p.add(8, 85, 3)
	if got, ok := p.mean(8); got != 85 || !ok {
		t.Errorf("Mean is %d and %v", got, ok)
	}
}

func TestP1901ResetKeepsSpanAndGrid(t *testing.T) {
	for _, span := range []int64{1, 5, farSpan} {
		for _, grid := range []int64{1, 7, 1 << 40} {
			p := paired(t, span, grid, grid)
			p.reset(grid)
			p.add(3, 20, 1)
			p.mean(3)
			p.mean(2 + span)
			p.mean(3 + span)
			p.reset(grid + 1)
		}
	}
}

func TestP1901LenCountsWhatIsNotRemoved(t *testing.T) {
	w := made(t, 5, 5, 100)
	for n := range 10 {
		w.Add(int64(n), 100, 1)
		if got := w.Len(); got != n+1 {
			t.Fatalf("after %d trades, Len is %d", n+1, got)
		}
	}
	// Only Mean and Roll remove trades that have left the window, Add does not.
	for _, x := range []struct {
		tick int64
		want int
	}{{9, 5}, {9, 5}, {10, 4}, {12, 2}, {13, 1}, {14, 0}, {15, 0}} {
		w.Mean(x.tick)
		if got := w.Len(); got != x.want {
			t.Errorf("after Mean(%d), Len is %d, not %d", x.tick, got, x.want)
		}
	}
	w.Add(20, 100, 1)
	w.Add(30, 100, 1)
	if got := w.Len(); got != 2 {
		t.Errorf("Len is %d, not 2", got)
	}
	// Also a Roll that has no effect on the reference removes.
	if got, ok := w.Roll(30, -1); got != 100 || ok || w.Len() != 1 {
		t.Errorf("Roll is %d and %v, and Len then %d", got, ok, w.Len())
	}
}

func TestP1901P1902P1903ANilWindow(t *testing.T) {
	var w *window.Window
	for _, a := range far() {
		for _, b := range far() {
			if fault := w.Add(a, b, 1); fault != api.BadArg {
				t.Errorf("Add(%d, %d, 1) is fault %d", a, b, fault)
			}
			if got, ok := w.Roll(a, int(b)); got != 0 || ok {
				t.Errorf("Roll(%d, %d) is %d and %v", a, b, got, ok)
			}
		}
		if fault := w.Reset(a); fault != api.BadArg {
			t.Errorf("Reset(%d) is fault %d", a, fault)
		}
		if got, ok := w.Mean(a); got != 0 || ok {
			t.Errorf("Mean(%d) is %d and %v", a, got, ok)
		}
	}
	if ref, n := w.Ref(), w.Len(); ref != 0 || n != 0 {
		t.Errorf("Ref is %d and Len %d", ref, n)
	}
}

func TestP1901P1902P1903WindowsThatNewDidNotMake(t *testing.T) {
	// Of such a window nothing is promised but that each call ends: its span is 0, so that it never has a mean.
	for _, tick := range far() {
		for _, price := range far() {
			w := new(window.Window)
			w.Add(tick, price, price)
			if got, ok := w.Mean(tick); got != 0 || ok {
				t.Errorf("Mean(%d) is %d and %v", tick, got, ok)
			}
			if got, ok := w.Roll(tick, 0); got != 0 || ok {
				t.Errorf("Roll(%d, 0) is %d and %v", tick, got, ok)
			}
			if fault := w.Reset(price); fault != api.Range {
				t.Errorf("Reset(%d) is fault %d", price, fault)
			}
			if ref, n := w.Ref(), w.Len(); ref != 0 || n != 0 {
				t.Errorf("Ref is %d and Len %d", ref, n)
			}
		}
	}
}

// example is the window of the chapter's examples, with its two trades.
func example(t *testing.T) *pair {
	t.Helper()
	p := paired(t, 5, 5, 100)
	p.add(1, 100, 1)
	p.add(3, 121, 1)
	return p
}

func TestP1902Examples(t *testing.T) {
	p := example(t)
	for _, x := range []struct {
		tick, want int64
		ok         bool
	}{{3, 110, true}, {6, 120, true}, {8, 0, false}} {
		if got, ok := p.mean(x.tick); got != x.want || ok != x.ok {
			t.Errorf("Mean(%d) is %d and %v", x.tick, got, ok)
		}
	}
	if fault := p.add(7, 100, 1); fault != api.Range {
		t.Errorf("Add at 7 is fault %d", fault)
	}
	p = paired(t, 5, 1, 100)
	p.add(1, 100, 1)
	p.add(1, 104, 3)
	if got, ok := p.mean(1); got != 103 || !ok {
		t.Errorf("Mean of 1 at 100 and 3 at 104 is %d and %v", got, ok)
	}
}

func TestP1902MeanTable(t *testing.T) {
	for _, x := range []struct {
		why    string
		grid   int64
		trades []trade
		want   int64
	}{
		{"one trade", 1, []trade{{1, 7, 3}}, 7},
		{"two of one quantity", 1, []trade{{1, 7, 1}, {1, 9, 1}}, 8},
		{"rounded down by less than half", 1, []trade{{1, 7, 2}, {1, 8, 1}}, 7},
		{"rounded down by more than half", 1, []trade{{1, 7, 1}, {1, 8, 99}}, 7},
		{"quantities count", 1, []trade{{1, 1, 1}, {1, 100, 98}}, 99},
		{"down to the grid", 5, []trade{{1, 14, 1}}, 10},
		{"on the grid", 5, []trade{{1, 15, 1}}, 15},
		{"just below a step of the grid", 5, []trade{{1, 14, 1}, {1, 15, 99}}, 10},
		{"below the grid", 5, []trade{{1, 4, 1}}, 5},
		{"the least price and the greatest grid", 1 << 40, []trade{{1, 1, 1}}, 1 << 40},
		{"just below the greatest grid", 1 << 40, []trade{{1, 1<<40 - 1, 1}}, 1 << 40},
		{"the greatest price and the greatest grid", 1 << 40, []trade{{1, 1 << 40, 1}}, 1 << 40},
		{"the greatest price and quantity", 1, []trade{{1, 1 << 40, 1 << 32}, {1, 1 << 40, 1 << 32}}, 1 << 40},
		{"the greatest one but for one piece", 1, []trade{{1, 1 << 40, 1 << 32}, {1, 1<<40 - 1, 1}}, 1<<40 - 1},
		{"both ends", 1, []trade{{1, 1 << 40, 1 << 32}, {1, 1, 1 << 32}}, 1 << 39},
		{"the least price and quantity", 1, []trade{{1, 1, 1}, {1, 1, 1}}, 1},
	} {
		p := paired(t, 5, x.grid, x.grid)
		for _, y := range x.trades {
			p.add(y.tick, y.price, y.qty)
		}
		if got, ok := p.mean(1); got != x.want || !ok {
			t.Errorf("%s: Mean is %d and %v, not %d", x.why, got, ok, x.want)
		}
	}
}

func TestP1902AtTheEdgeOfTheWindow(t *testing.T) {
	for _, span := range []int64{1, 2, 3, 5, 1000, farSpan - 1, farSpan} {
		for _, at := range []int64{0, 1, 9, 1 << 50, lastTick - farSpan, lastTick - 1, lastTick} {
			for _, later := range []int64{0, 1, span - 1, span, span + 1, 2 * span, lastTick - at, lastTick + 1 - at} {
				p := paired(t, span, 1, 100)
				p.add(at, 50, 1)
				got, ok := p.mean(at + later)
				want := later < span && at+later <= lastTick
				if ok != want || ok && got != 50 {
					t.Errorf("span %d, trade at %d: Mean at %d is %d and %v", span, at, at+later, got, ok)
				}
			}
		}
	}
}

func TestP1902LateTicksHaveNoEnd(t *testing.T) {
	// From the first tick to the last one: the window's begin is below 0 at first, which is no tick.
	p := paired(t, farSpan, 1, 100)
	p.add(0, 10, 1)
	if got, ok := p.mean(0); got != 10 || !ok {
		t.Errorf("Mean(0) is %d and %v", got, ok)
	}
	p.mean(farSpan - 1)
	p.mean(farSpan)
	p.add(lastTick, 20, 1)
	if got, ok := p.mean(lastTick); got != 20 || !ok {
		t.Errorf("Mean of the last tick is %d and %v", got, ok)
	}
	if got, ok := p.mean(lastTick + 1); got != 0 || ok {
		t.Errorf("Mean beyond the last tick is %d and %v", got, ok)
	}
}

func TestP1902ManyOfOneTick(t *testing.T) {
	// All of a tick leave together, however many there are.
	for _, n := range []int{1, 2, 3, 100, 1000} {
		p := paired(t, 3, 1, 100)
		for i := range n {
			p.w.Add(4, int64(1+i), 2)
			p.m.add(4, int64(1+i), 2)
		}
		for range n / 2 {
			p.w.Add(5, 1<<40, 1<<32)
			p.m.add(5, 1<<40, 1<<32)
		}
		for tick := int64(4); tick < 10; tick++ {
			p.mean(tick)
		}
	}
}

func TestP1902SumsThatAreLong(t *testing.T) {
	// 100000 of the greatest trades have sums of about 89 and 49 bits, and one piece less of them shows.
	w := made(t, 10, 1, 1)
	for n := range 100000 {
		if fault := w.Add(int64(n/10000), 1<<40, 1<<32); fault != api.OK {
			t.Fatalf("Add is fault %d", fault)
		}
	}
	if got, ok := w.Mean(9); got != 1<<40 || !ok {
		t.Errorf("Mean is %d and %v", got, ok)
	}
	w.Add(9, 1<<40-1, 1)
	if got, ok := w.Mean(9); got != 1<<40-1 || !ok {
		t.Errorf("with one piece of less, Mean is %d and %v", got, ok)
	}
	for tick := int64(10); tick < 19; tick++ {
		if got, ok := w.Mean(tick); got != 1<<40-1 || !ok || w.Len() != int(19-tick)*10000+1 {
			t.Errorf("Mean(%d) is %d and %v, Len %d", tick, got, ok, w.Len())
		}
	}
	if got, ok := w.Mean(19); got != 0 || ok || w.Len() != 0 {
		t.Errorf("Mean(19) is %d and %v, Len %d", got, ok, w.Len())
	}
	w.Add(19, 3, 1)
	if got, ok := w.Mean(19); got != 3 || !ok {
		t.Errorf("after all of them have left, Mean is %d and %v", got, ok)
	}
}

func TestP1902AMeanAfterEachTrade(t *testing.T) {
	// So many that each Mean must not look at every trade, with as many in the window as there are ticks in its span.
	const span = 50000
	w := made(t, span, 1, 1)
	sum, n := int64(0), int64(0)
	for tick := range int64(4 * span) {
		price := 1 + tick%1000
		w.Add(tick, price, 1)
		sum, n = sum+price, n+1
		if tick >= span {
			sum, n = sum-(1+(tick-span)%1000), n-1
		}
		if got, ok := w.Mean(tick); got != sum/n || !ok || int64(w.Len()) != n {
			t.Fatalf("Mean(%d) is %d and %v, not %d; Len is %d, not %d", tick, got, ok, sum/n, w.Len(), n)
		}
	}
}

func TestP1903Examples(t *testing.T) {
	p := example(t)
	if got, ok := p.roll(4, 1000); got != 110 || !ok || p.w.Ref() != 110 {
		t.Errorf("Roll(4, 1000) is %d and %v, and Ref then %d", got, ok, p.w.Ref())
	}
	if !window.Moved(100, 105, 500) || window.Moved(100, 104, 500) {
		t.Errorf("Moved is %v and %v", window.Moved(100, 105, 500), window.Moved(100, 104, 500))
	}
}

func TestP1903RollTable(t *testing.T) {
	for _, x := range []struct {
		why       string
		tick      int64
		bps       int
		want      int64
		ok        bool
		remaining int
	}{
		{"the mean is just far enough", 4, 1000, 110, true, 2},
		{"it is not quite", 4, 1001, 100, false, 2},
		{"any distance is", 4, 0, 110, true, 2},
		{"the greatest distance", 4, 9999, 100, false, 2},
		{"there are no such parts", 4, 10000, 100, false, 2},
		{"nor these", 4, -1, 100, false, 2},
		{"one trade has left", 6, 2000, 120, true, 1},
		{"one trade has left, and the other one is too near", 6, 2001, 100, false, 1},
		{"all have left", 8, 0, 100, false, 0},
		{"the tick is too early", 2, 0, 100, false, 2},
		{"the tick is none", -1, 0, 100, false, 2},
		{"the tick is too late", lastTick + 1, 0, 100, false, 2},
		{"the last tick", lastTick, 0, 100, false, 0},
	} {
		p := example(t)
		if got, ok := p.roll(x.tick, x.bps); got != x.want || ok != x.ok {
			t.Errorf("%s: Roll(%d, %d) is %d and %v", x.why, x.tick, x.bps, got, ok)
		}
		if p.w.Ref() != x.want || p.w.Len() != x.remaining {
			t.Errorf("%s: then Ref is %d and Len %d", x.why, p.w.Ref(), p.w.Len())
		}
	}
}

func TestP1903RollDoesNotMoveToTheSame(t *testing.T) {
	p := paired(t, 5, 5, 100)
	p.add(1, 104, 1)
	for range 2 {
		if got, ok := p.roll(1, 0); got != 100 || ok {
			t.Errorf("Roll to the reference is %d and %v", got, ok)
		}
	}
	p.add(1, 120, 1)
	if got, ok := p.roll(1, 0); got != 110 || !ok {
		t.Errorf("Roll is %d and %v", got, ok)
	}
	if got, ok := p.roll(1, 0); got != 110 || ok {
		t.Errorf("a second Roll is %d and %v", got, ok)
	}
}

func TestP1903RollIsFromTheNewReference(t *testing.T) {
	// The reference follows in steps: each one is measured from the reference before it.
	p := paired(t, 1, 1, 1000)
	for n, x := range []struct {
		price, want int64
		ok          bool
	}{{1049, 1000, false}, {1050, 1050, true}, {1102, 1050, false}, {1103, 1103, true}, {1048, 1103, false}, {1047, 1047, true}} {
		p.add(int64(n), x.price, 7)
		if got, ok := p.roll(int64(n), 500); got != x.want || ok != x.ok {
			t.Errorf("Roll to %d is %d and %v", x.price, got, ok)
		}
	}
}

// moves fails the test where Moved is not as the chapter says.
func moves(t *testing.T, a, b int64, bps int) {
	t.Helper()
	if got, want := window.Moved(a, b, bps), movedOf(a, b, bps); got != want {
		t.Fatalf("Moved(%d, %d, %d) is %v", a, b, bps, got)
	}
}

func TestP1903MovedTable(t *testing.T) {
	for _, x := range []struct {
		a, b int64
		bps  int
		want bool
	}{
		{100, 95, 500, true}, {100, 96, 500, false}, {100, 105, 501, false}, {100, 95, 501, false},
		{105, 100, 500, false}, {95, 100, 500, true},
		{100, 100, 0, false}, {100, 101, 0, true}, {100, 99, 0, true}, {1, 1, 0, false}, {1, 2, 9999, true}, {2, 1, 5000, true}, {2, 1, 5001, false},
		{100, 1, 9900, true}, {100, 1, 9901, false}, {10000, 1, 9999, true}, {10001, 1, 9999, true}, {9999, 1, 9999, false},
		{100, 105, -1, false}, {100, 200, 9999, true}, {100, 200, 10000, false}, {100, 300, 10000, false}, {100, 300, 20000, false},
		{100, 200, math.MaxInt, false}, {100, 200, math.MinInt, false},
		{0, 100, 0, false}, {100, 0, 0, false}, {-100, 100, 0, false}, {100, -100, 0, false}, {-1, -2, 0, false},
		{1 << 40, 1, 9999, true}, {1, 1 << 40, 9999, true}, {1<<40 + 1, 1, 0, false}, {1, 1<<40 + 1, 0, false},
		{1 << 40, 1<<40 - 1, 0, true}, {1 << 40, 1<<40 - 1, 1, false}, {most, 1, 0, false}, {1, most, 0, false}, {least, 1, 0, false}, {1, least, 0, false},
	} {
		if got := window.Moved(x.a, x.b, x.bps); got != x.want {
			t.Errorf("Moved(%d, %d, %d) is %v", x.a, x.b, x.bps, got)
		}
	}
}

func TestP1903MovedOfAnything(t *testing.T) {
	parts := []int{math.MinInt, -10000, -1, 0, 1, 2, 499, 500, 501, 5000, 9998, 9999, 10000, 10001, math.MaxInt}
	numbers := append(far(), 3, 99, 100, 101, 105, 1<<39, 1<<39+1)
	for _, a := range numbers {
		for _, b := range numbers {
			for _, bps := range parts {
				moves(t, a, b, bps)
			}
		}
	}
	for a := int64(0); a <= 60; a++ {
		for b := int64(0); b <= 60; b++ {
			for bps := -100; bps <= 10100; bps += 50 {
				moves(t, a, b, bps)
			}
		}
	}
}

func TestP1903MovedAroundItsEdge(t *testing.T) {
	d := dice(1903)
	for range 50000 {
		a := 1 + int64(d.next()%(1<<40))
		bps := d.below(10000)
		edge := new(big.Int).Mul(big.NewInt(a), big.NewInt(int64(bps)))
		apart := edge.Div(edge, big.NewInt(10000)).Int64()
		for more := int64(-1); more <= 2; more++ {
			moves(t, a, a+apart+more, bps)
			moves(t, a, a-apart-more, bps)
		}
	}
}

func TestP1902P1903EverySequence(t *testing.T) {
	// Each sequence of five calls, of trades before the last one or at it or after it, and of prices that move the reference or don't.
	type ask struct {
		kind            int
		step            int64 // from the last tick
		price, quantity int64
	}
	asks := []ask{
		{0, 0, 9, 1}, {0, 1, 14, 3}, {0, 2, 20, 1}, {0, -1, 20, 1}, {0, 1, 0, 1},
		{1, 0, 0, 0}, {1, 1, 0, 0}, {1, 2, 0, 0}, {1, -1, 0, 0},
		{2, 0, 0, 0}, {2, 1, 0, 5000}, {2, -1, 0, 0},
		{3, 0, 15, 0}, {3, 0, 7, 0},
	}
	const length = 5
	var chosen [length]int
	var grow func(n int)
	grow = func(n int) {
		if n == length {
			p := paired(t, 2, 5, 10)
			tick := int64(0)
			for _, c := range chosen {
				a := asks[c]
				p.do(a.kind, tick+a.step, a.price, a.quantity)
				tick += max(a.step, 0)
			}
			return
		}
		for c := range asks {
			chosen[n] = c
			grow(n + 1)
		}
	}
	grow(0)
}

func TestP1902P1903LongSequences(t *testing.T) {
	d := dice(1902)
	for range 300 {
		span := int64(1 + d.below(40))
		grid := int64(1 + d.below(12))
		p := paired(t, span, grid, grid*int64(1+d.below(100)))
		tick := int64(d.below(3))
		for range 400 {
			tick += int64(max(0, d.below(12)-8))
			at := tick
			if d.below(20) == 0 {
				at -= int64(d.below(3))
			}
			price, qty := int64(d.below(500)), int64(d.below(40))
			if d.below(6) == 0 {
				price, qty = 1<<40-int64(d.below(3)), 1<<32-int64(d.below(3))
			}
			switch kind := d.below(40); {
			case kind < 22:
				p.add(at, price, qty)
			case kind < 30:
				p.mean(at)
			case kind < 39:
				p.roll(at, d.below(12000)-1000)
			default:
				p.reset(grid * price)
			}
		}
	}
}

func TestP1902P1903LongJumps(t *testing.T) {
	// Spans and ticks of any length, up to the last tick.
	d := dice(19021)
	for range 2000 {
		span := int64(1 + d.next()%(1<<d.below(41)))
		p := paired(t, span, 1, 1+int64(d.next()%(1<<40)))
		tick := int64(0)
		for range 60 {
			tick += int64(d.next() % (1 << d.below(60)))
			at := min(tick, lastTick+1)
			p.do(d.below(3), at, 1+int64(d.next()%(1<<40)), 1+int64(d.next()%(1<<d.below(33))))
		}
	}
}

func TestP1901WindowsShareNothing(t *testing.T) {
	a, b := paired(t, 5, 5, 100), paired(t, 5, 5, 100)
	for n := int64(0); n < 40; n++ {
		a.add(n, 100+n, 1)
		b.add(2*n, 300-n, 2)
		a.mean(n)
		b.roll(2*n, 100)
	}
	a.reset(200)
	b.mean(79)
}

// downTo is a price rounded down to a grid, but at least the grid.
func downTo(price, grid int64) int64 {
	return max(price/grid*grid, grid)
}

func TestP1904AMeanIsBetweenThePrices(t *testing.T) {
	d := dice(1904)
	for range 5000 {
		grid := int64(1 + d.below(20))
		w := made(t, 10, grid, grid)
		var prices []int64
		top := uint64(1) << d.below(41)
		for range 1 + d.below(12) {
			price := 1 + int64(d.next()%top)
			prices = append(prices, price)
			w.Add(3, price, 1+int64(d.next()%(1<<d.below(33))))
		}
		mean, ok := w.Mean(3)
		lo, hi := downTo(slices.Min(prices), grid), downTo(slices.Max(prices), grid)
		if !ok || mean < lo || mean > hi || mean%grid != 0 {
			t.Fatalf("with the grid %d, the mean of %v is %d and %v", grid, prices, mean, ok)
		}
	}
}

func TestP1904OldTradesDoNotInfluenceAMean(t *testing.T) {
	// Two windows with the same new trades, one of them with old ones too, removed one by one or all together or not yet.
	d := dice(19041)
	for range 3000 {
		old, fresh := made(t, 10, 1, 1), made(t, 10, 1, 1)
		for tick := range int64(20) {
			for range d.below(3) {
				old.Add(tick, 1+int64(d.next()%(1<<40)), 1+int64(d.next()%(1<<32)))
			}
			if d.below(3) == 0 {
				old.Mean(tick)
			}
		}
		for tick := int64(20); tick < 30; tick++ {
			price, qty := int64(1+d.below(1000)), int64(1+d.below(9))
			old.Add(tick, price, qty)
			fresh.Add(tick, price, qty)
		}
		for _, tick := range []int64{29, 30, 34, 38, 39} {
			a, ok := old.Mean(tick)
			b, alike := fresh.Mean(tick)
			if a != b || ok != alike || old.Len() != fresh.Len() {
				t.Fatalf("Mean(%d) is %d and %v, without old trades %d and %v; Len is %d and %d", tick, a, ok, b, alike, old.Len(), fresh.Len())
			}
		}
	}
}
