package ladder_test

import (
	"cmp"
	"math"
	"math/big"
	"slices"
	"testing"

	"damper/api"
	"damper/ladder"
)

// dice gives numbers that look like nothing, the same ones at every run.
type dice uint64

func (d *dice) below(n int) int {
	*d += 0x9e3779b97f4a7c15
	z := uint64(*d)
	z = (z ^ z>>30) * 0xbf58476d1ce4e5b9
	z = (z ^ z>>27) * 0x94d049bb133111eb
	return int((z ^ z>>31) % uint64(n))
}

// model is what the chapter says of a ladder: its levels, in the order in which they were created.
type model struct {
	side, levels int
	list         []ladder.Level
}

// at returns where in the list the level with a price is, -1 if there is none.
func (m *model) at(price int64) int {
	return slices.IndexFunc(m.list, func(l ladder.Level) bool { return l.Price == price })
}

// queue is the least number that no level has.
func (m *model) queue() int {
	n := 0
	for slices.ContainsFunc(m.list, func(l ladder.Level) bool { return l.Queue == n }) {
		n++
	}
	return n
}

func (m *model) put(price, qty int64) (int, api.Fault) {
	n := m.at(price)
	switch {
	case price < 1 || qty < 1:
		return 0, api.Range
	case n >= 0 && m.list[n].Qty > math.MaxInt64-qty:
		return 0, api.Overflow
	case n < 0 && len(m.list) == m.levels:
		return 0, api.Full
	case n < 0:
		n = len(m.list)
		m.list = append(m.list, ladder.Level{Price: price, Queue: m.queue()})
	}
	m.list[n].Qty += qty
	m.list[n].Orders++
	return m.list[n].Queue, api.OK
}

func (m *model) take(price, qty int64, gone bool) (int, api.Fault) {
	n := m.at(price)
	if n < 0 {
		return 0, api.Unknown
	}
	level := m.list[n]
	if qty < 0 || qty > level.Qty {
		return 0, api.Range
	}
	level.Qty -= qty
	if gone {
		level.Orders--
	}
	m.list[n] = level
	if level.Orders == 0 {
		m.list = slices.Concat(m.list[:n], m.list[n+1:])
	}
	return level.Queue, api.OK
}

// sorted are the levels from the best one on.
func (m *model) sorted() []ladder.Level {
	list := slices.Clone(m.list)
	slices.SortFunc(list, func(a, b ladder.Level) int {
		if m.side == api.Buy {
			a, b = b, a
		}
		return cmp.Compare(a.Price, b.Price)
	})
	return list
}

func (m *model) worth(limit int64) int64 {
	sum := new(big.Int)
	for _, l := range m.list {
		if l.Price == limit || (l.Price > limit) == (m.side == api.Buy) {
			sum.Add(sum, big.NewInt(l.Qty))
		}
	}
	if top := big.NewInt(1 << 62); sum.Cmp(top) > 0 {
		sum = top
	}
	return sum.Int64()
}

// pair is a ladder and the model of it.
type pair struct {
	l *ladder.Ladder
	m *model
}

// made is a ladder without levels, and its model.
func made(t *testing.T, side, levels int) pair {
	t.Helper()
	l, fault := ladder.New(side, levels)
	if fault != api.OK || l == nil {
		t.Fatalf("New(%d, %d) is fault %d, and a ladder: %t", side, levels, fault, l != nil)
	}
	return pair{l, &model{side: side, levels: levels}}
}

// filled is a ladder with an order of its own quantity at each of some prices: 1 at the first, 2 at the second.
func filled(t *testing.T, side, levels int, prices ...int64) pair {
	t.Helper()
	p := made(t, side, levels)
	for n, price := range prices {
		p.put(t, price, int64(n+1))
	}
	return p
}

// The methods of a pair fail the test where the ladder answers something else than the model.

func (p pair) put(t *testing.T, price, qty int64) {
	t.Helper()
	got, fault := p.l.Put(price, qty)
	if want, wrong := p.m.put(price, qty); got != want || fault != wrong {
		t.Fatalf("Put(%d, %d) is %d and fault %d, not %d and fault %d", price, qty, got, fault, want, wrong)
	}
}

func (p pair) take(t *testing.T, price, qty int64, gone bool) {
	t.Helper()
	got, fault := p.l.Take(price, qty, gone)
	if want, wrong := p.m.take(price, qty, gone); got != want || fault != wrong {
		t.Fatalf("Take(%d, %d, %t) is %d and fault %d, not %d and fault %d", price, qty, gone, got, fault, want, wrong)
	}
}

// same looks at everything that changes nothing, at the prices of the levels, around them and at the ends of what there is.
func (p pair) same(t *testing.T) {
	t.Helper()
	list := p.m.sorted()
	if got := p.l.Len(); got != len(list) {
		t.Fatalf("Len is %d, not %d", got, len(list))
	}
	yields(t, p.l, list...)
	var first ladder.Level
	if len(list) > 0 {
		first = list[0]
	}
	if got, ok := p.l.Best(); got != first || ok != (len(list) > 0) {
		t.Fatalf("Best is %v and %t, not %v", got, ok, first)
	}
	p.prices(t, math.MinInt64, math.MinInt64+1, -1, 0, 1, 2, math.MaxInt64-1, math.MaxInt64)
	for _, level := range list {
		p.prices(t, level.Price-1, level.Price, level.Price+1)
	}
}

// prices looks at what is told of some prices.
func (p pair) prices(t *testing.T, prices ...int64) {
	t.Helper()
	for _, price := range prices {
		n := p.m.at(price)
		var level ladder.Level
		if n >= 0 {
			level = p.m.list[n]
		}
		if got, ok := p.l.Find(price); got != level || ok != (n >= 0) {
			t.Fatalf("Find(%d) is %v and %t, not %v", price, got, ok, level)
		}
		if got, want := p.l.Fits(price), n >= 0 || len(p.m.list) < p.m.levels; got != want {
			t.Fatalf("Fits(%d) is %t with %d levels of %d", price, got, len(p.m.list), p.m.levels)
		}
		if got, want := p.l.Worth(price), p.m.worth(price); got != want {
			t.Fatalf("Worth(%d) is %d, not %d", price, got, want)
		}
	}
}

// yields fails the test where Each yields something else.
func yields(t *testing.T, l *ladder.Ladder, want ...ladder.Level) {
	t.Helper()
	if got := slices.Collect(l.Each()); !slices.Equal(got, want) {
		t.Fatalf("Each yields %v, not %v", got, want)
	}
}

// priced are the prices of levels.
func priced(levels []ladder.Level) []int64 {
	var prices []int64
	for _, l := range levels {
		prices = append(prices, l.Price)
	}
	return prices
}

// is fails the test where a call that answers a queue answers something else.
func is(t *testing.T, call string, queue int, fault api.Fault, want int, wrong api.Fault) {
	t.Helper()
	if queue != want || fault != wrong {
		t.Errorf("%s is %d and fault %d, not %d and fault %d", call, queue, fault, want, wrong)
	}
}

// sides are both of them.
func sides() []int { return []int{api.Buy, api.Sell} }

func TestP1101Examples(t *testing.T) {
	l := made(t, api.Buy, 2).l
	for _, c := range []struct {
		price, qty int64
		queue      int
		fault      api.Fault
	}{{10, 5, 0, api.OK}, {12, 1, 1, api.OK}, {11, 1, 0, api.Full}, {10, 2, 0, api.OK}} {
		queue, fault := l.Put(c.price, c.qty)
		is(t, "Put", queue, fault, c.queue, c.fault)
	}
	if best, ok := l.Best(); best != (ladder.Level{Price: 12, Qty: 1, Orders: 1, Queue: 1}) || !ok {
		t.Errorf("Best is %v and %t", best, ok)
	}
	queue, fault := l.Take(10, 8, false)
	is(t, "Take(10, 8, false)", queue, fault, 0, api.Range)
	queue, fault = l.Take(12, 1, true)
	is(t, "Take(12, 1, true)", queue, fault, 1, api.OK)
	yields(t, l, ladder.Level{Price: 10, Qty: 7, Orders: 2, Queue: 0})

	l = made(t, api.Sell, 2).l
	l.Put(10, 5)
	l.Put(8, 1)
	if best, ok := l.Best(); best != (ladder.Level{Price: 8, Qty: 1, Orders: 1, Queue: 1}) || !ok {
		t.Errorf("Best is %v and %t", best, ok)
	}
}

func TestP1101NewInAndOutOfItsRange(t *testing.T) {
	tried := func(side, levels int) {
		t.Helper()
		l, fault := ladder.New(side, levels)
		want := api.OK
		switch {
		case side != 0 && side != 1:
			want = api.BadArg
		case levels < 1 || levels > 200:
			want = api.Range
		}
		if fault != want || (l != nil) != (want == api.OK) {
			t.Errorf("New(%d, %d) is fault %d, not %d, and a ladder: %t", side, levels, fault, want, l != nil)
		}
	}
	far := []int{math.MinInt, math.MinInt + 1, -1 << 32, -200, 1 << 32, 1<<32 + 1, math.MaxInt - 1, math.MaxInt}
	for levels := -300; levels <= 600; levels++ {
		for side := -3; side <= 4; side++ {
			tried(side, levels)
		}
	}
	for _, n := range far {
		for _, other := range append(far, -1, 0, 1, 2, 200, 201) {
			tried(n, other)
			tried(other, n)
		}
	}
}

func TestP1101NewLaddersHaveSoManyLevels(t *testing.T) {
	for _, side := range sides() {
		for levels := 1; levels <= api.MaxLevels; levels++ {
			p := made(t, side, levels)
			p.same(t)
			p.take(t, 1, 0, false)
			for price := range int64(levels) {
				p.put(t, price+1, 1)
			}
			// One more than there may be is Full, by the model as well.
			p.put(t, int64(levels)+1, 1)
			if _, fault := p.l.Put(int64(levels)+1, 1); fault != api.Full {
				t.Errorf("beyond %d levels, Put is fault %d", levels, fault)
			}
		}
	}
}

func TestP1101PutOutOfItsRange(t *testing.T) {
	wrong := []int64{math.MinInt64, math.MinInt64 + 1, -1 << 40, -2, -1, 0}
	right := []int64{1, 2, 10, 1 << 32, 1 << 40, math.MaxInt64}
	for _, side := range sides() {
		// A ladder without levels, one with room, and one that is full and would overflow.
		empty, room, full := made(t, side, 1), filled(t, side, 2, 10), filled(t, side, 1, 10)
		full.put(t, 10, math.MaxInt64-1)
		for _, p := range []pair{empty, room, full} {
			for _, n := range wrong {
				for _, other := range slices.Concat(wrong, right) {
					queue, fault := p.l.Put(n, other)
					is(t, "Put at a wrong price", queue, fault, 0, api.Range)
					queue, fault = p.l.Put(other, n)
					is(t, "Put of a wrong quantity", queue, fault, 0, api.Range)
				}
			}
			p.same(t)
		}
	}
}

func TestP1101PutHasNoUpperBound(t *testing.T) {
	for _, side := range sides() {
		for _, qty := range []int64{1, api.MaxQty, api.MaxQty + 1, 1 << 62, math.MaxInt64} {
			p := made(t, side, 5)
			for _, price := range []int64{1, api.MaxPrice, math.MaxInt64, api.MaxPrice + 1, math.MaxInt64 - 1} {
				queue, fault := p.l.Put(price, qty)
				is(t, "Put", queue, fault, len(p.m.list), api.OK)
				p.m.put(price, qty)
				p.same(t)
			}
		}
	}
}

func TestP1101PutOverflow(t *testing.T) {
	for _, side := range sides() {
		for _, had := range []int64{1, 2, 1 << 32, 1 << 62, math.MaxInt64 - 1, math.MaxInt64} {
			for _, levels := range []int{1, 2} {
				p := made(t, side, levels)
				p.put(t, 7, had)
				for _, more := range []int64{math.MaxInt64 - had + 1, math.MaxInt64 - had + 2, math.MaxInt64} {
					if more <= math.MaxInt64-had || more < 1 {
						continue
					}
					queue, fault := p.l.Put(7, more)
					is(t, "Put", queue, fault, 0, api.Overflow)
					p.same(t)
				}
				if had == math.MaxInt64 {
					continue
				}
				queue, fault := p.l.Put(7, math.MaxInt64-had)
				is(t, "Put of all that fits", queue, fault, 0, api.OK)
				yields(t, p.l, ladder.Level{Price: 7, Qty: math.MaxInt64, Orders: 2})
			}
		}
	}
}

func TestP1101PutFull(t *testing.T) {
	for _, side := range sides() {
		p := filled(t, side, 3, 20, 10, 30)
		for _, price := range []int64{1, 9, 11, 19, 21, 29, 31, math.MaxInt64} {
			queue, fault := p.l.Put(price, 1)
			is(t, "Put", queue, fault, 0, api.Full)
			p.same(t)
		}
		for n, price := range []int64{20, 10, 30} {
			queue, fault := p.l.Put(price, 5)
			is(t, "Put at a level that is there", queue, fault, n, api.OK)
			p.m.put(price, 5)
		}
		p.same(t)
		// A level that is gone leaves its room, and its queue, to another one.
		p.take(t, 10, 7, true)
		p.put(t, 5, 1)
		p.take(t, 10, 0, true)
		p.same(t)
		p.take(t, 5, 1, true)
		p.same(t)
		queue, fault := p.l.Put(40, 1)
		is(t, "Put after a level is gone", queue, fault, 1, api.OK)
		p.m.put(40, 1)
		p.same(t)
	}
}

func TestP1101ANewLevelHasTheLeastFreeQueue(t *testing.T) {
	for _, side := range sides() {
		p := made(t, side, api.MaxLevels)
		for n := range api.MaxLevels {
			// Prices that go up and down, so that no place in the order is that of the queue.
			queue, fault := p.l.Put(int64(1+n*77%api.MaxLevels), 1)
			is(t, "Put", queue, fault, n, api.OK)
			p.m.put(int64(1+n*77%api.MaxLevels), 1)
		}
		p.same(t)
		for _, freed := range [][]int{{0}, {199}, {63}, {64}, {65, 63}, {127, 128, 191, 192}, {199, 100, 0}, {130, 5, 70, 198}} {
			for _, queue := range freed {
				p.take(t, int64(1+queue*77%api.MaxLevels), 1, true)
			}
			slices.Sort(freed)
			for _, want := range freed {
				price := int64(1 + want*77%api.MaxLevels)
				queue, fault := p.l.Put(price, 1)
				is(t, "Put", queue, fault, want, api.OK)
				p.m.put(price, 1)
			}
			p.same(t)
		}
	}
}

func TestP1101AQueueStaysWithItsLevel(t *testing.T) {
	p := filled(t, api.Sell, 4, 20, 30, 10)
	p.put(t, 30, 4)
	p.take(t, 20, 1, true)
	p.put(t, 30, 4)
	for _, want := range []ladder.Level{{Price: 10, Qty: 3, Orders: 1, Queue: 2}, {Price: 30, Qty: 10, Orders: 3, Queue: 1}} {
		if got, ok := p.l.Find(want.Price); got != want || !ok {
			t.Errorf("Find(%d) is %v and %t, not %v", want.Price, got, ok, want)
		}
	}
	p.take(t, 10, 0, false)
	p.take(t, 30, 10, true)
	p.put(t, 40, 1)
	p.same(t)
}

func TestP1101TakeOfALevelThatIsNotThere(t *testing.T) {
	quantities := []int64{math.MinInt64, -1, 0, 1, 3, math.MaxInt64}
	for _, side := range sides() {
		empty, p := made(t, side, 2), filled(t, side, 3, 10, 12, 14)
		p.take(t, 12, 2, true)
		for _, price := range []int64{math.MinInt64, -10, -1, 0, 1, 9, 11, 12, 13, 15, math.MaxInt64} {
			for _, qty := range quantities {
				for _, gone := range []bool{false, true} {
					queue, fault := p.l.Take(price, qty, gone)
					is(t, "Take", queue, fault, 0, api.Unknown)
					queue, fault = empty.l.Take(price, qty, gone)
					is(t, "Take", queue, fault, 0, api.Unknown)
				}
			}
		}
		empty.same(t)
		p.same(t)
	}
}

func TestP1101TakeOutOfItsRange(t *testing.T) {
	for _, side := range sides() {
		for _, has := range []int64{1, 2, 9, 1 << 62, math.MaxInt64 - 1, math.MaxInt64} {
			p := filled(t, side, 3, 5)
			p.put(t, 10, has)
			p.put(t, 15, math.MaxInt64)
			for _, qty := range []int64{math.MinInt64, math.MinInt64 + 1, -has - 1, -has, -2, -1, has + 1, math.MaxInt64} {
				if qty >= 0 && qty <= has { // has + 1 where there is no such number
					continue
				}
				for _, gone := range []bool{false, true} {
					queue, fault := p.l.Take(10, qty, gone)
					is(t, "Take", queue, fault, 0, api.Range)
					p.same(t)
				}
			}
			for _, qty := range []int64{0, has / 2, has - has/2} {
				queue, fault := p.l.Take(10, qty, false)
				is(t, "Take", queue, fault, 1, api.OK)
				p.m.take(10, qty, false)
				p.same(t)
			}
			queue, fault := p.l.Take(10, 1, true)
			is(t, "Take of more than is left", queue, fault, 0, api.Range)
			p.same(t)
		}
	}
}

func TestP1101TakeRemovesALevelWithoutOrders(t *testing.T) {
	for _, side := range sides() {
		p := made(t, side, 3)
		for _, qty := range []int64{4, 5, 6} {
			p.put(t, 10, qty)
		}
		p.put(t, 11, 1)
		steps := []struct {
			qty  int64
			gone bool
			want ladder.Level
		}{
			{4, true, ladder.Level{Price: 10, Qty: 11, Orders: 2}},
			{11, false, ladder.Level{Price: 10, Qty: 0, Orders: 2}}, // the orders are left, the quantity is not
			{0, true, ladder.Level{Price: 10, Qty: 0, Orders: 1}},
			{0, false, ladder.Level{Price: 10, Qty: 0, Orders: 1}},
			{0, true, ladder.Level{}},
		}
		for _, s := range steps {
			p.take(t, 10, s.qty, s.gone)
			if got, ok := p.l.Find(10); got != s.want || ok != (s.want.Price == 10) {
				t.Errorf("after Take(10, %d, %t), Find(10) is %v and %t", s.qty, s.gone, got, ok)
			}
			p.same(t)
		}
	}
}

func TestP1101TakeRemovesALevelWithAQuantity(t *testing.T) {
	for _, side := range sides() {
		for _, qty := range []int64{0, 1, 4, 5} {
			p := filled(t, side, 3, 1, 2, 3, 4)
			p.put(t, 2, 3)
			p.take(t, 2, 0, true)
			queue, fault := p.l.Take(2, qty, true)
			is(t, "Take", queue, fault, 1, api.OK)
			p.m.take(2, qty, true)
			if got, ok := p.l.Find(2); got != (ladder.Level{}) || ok {
				t.Errorf("Find(2) is %v and %t without orders", got, ok)
			}
			p.same(t)
			// What the level had left is not there when it is made again.
			p.put(t, 2, 1)
			p.same(t)
		}
	}
}

func TestP1102BestIsThatOfTheSide(t *testing.T) {
	for _, prices := range [][]int64{{5}, {5, 7}, {7, 5}, {5, 7, 6}, {6, 7, 5}, {1, math.MaxInt64}, {math.MaxInt64, 1}, {10, 9, 100, 8}} {
		for _, side := range sides() {
			p := filled(t, side, 9, prices...)
			want := slices.Max(prices)
			if side == api.Sell {
				want = slices.Min(prices)
			}
			if got, ok := p.l.Best(); got.Price != want || !ok {
				t.Errorf("Best is %v and %t, not at %d", got, ok, want)
			}
			for range prices {
				best, _ := p.l.Best()
				p.take(t, best.Price, best.Qty, true)
				p.same(t)
			}
			if got, ok := p.l.Best(); got != (ladder.Level{}) || ok {
				t.Errorf("Best is %v and %t without levels", got, ok)
			}
		}
	}
}

func TestP1102FindAtEachPrice(t *testing.T) {
	for _, side := range sides() {
		p := made(t, side, api.MaxLevels)
		for n := range int64(api.MaxLevels) {
			p.put(t, 2+2*(n*31%api.MaxLevels), 1+n)
		}
		for n := range int64(api.MaxLevels) {
			price := 2 + 2*(n*31%api.MaxLevels)
			want := ladder.Level{Price: price, Qty: 1 + n, Orders: 1, Queue: int(n)}
			if got, ok := p.l.Find(price); got != want || !ok {
				t.Errorf("Find(%d) is %v and %t, not %v", price, got, ok, want)
			}
			for _, none := range []int64{price - 1, price + 1, -price} {
				if got, ok := p.l.Find(none); got != (ladder.Level{}) || ok {
					t.Errorf("Find(%d) is %v and %t", none, got, ok)
				}
			}
		}
	}
}

func TestP1102FitsALevelOrRoomForOne(t *testing.T) {
	anywhere := []int64{math.MinInt64, -1, 0, 1, 10, 15, 20, 25, math.MaxInt64}
	for _, side := range sides() {
		p := made(t, side, 2)
		fit := func(want ...int64) {
			t.Helper()
			for _, price := range anywhere {
				if got := p.l.Fits(price); got != slices.Contains(want, price) {
					t.Errorf("Fits(%d) is %t with %v", price, got, priced(p.m.list))
				}
			}
		}
		fit(anywhere...)
		p.put(t, 10, 1)
		fit(anywhere...)
		p.put(t, 20, 1)
		fit(10, 20)
		p.put(t, 20, 1)
		p.take(t, 20, 1, true)
		fit(10, 20)
		p.take(t, 10, 1, false)
		fit(10, 20)
		p.take(t, 10, 0, true)
		fit(anywhere...)
		p.put(t, 25, 1)
		fit(20, 25)
	}
}

func TestP1102LenCounts(t *testing.T) {
	p := made(t, api.Buy, 3)
	counts := func(want int) {
		t.Helper()
		if got := p.l.Len(); got != want {
			t.Errorf("Len is %d, not %d", got, want)
		}
	}
	counts(0)
	for n, price := range []int64{5, 6, 4} {
		p.put(t, price, 2)
		counts(n + 1)
		p.put(t, price, 2)
		counts(n + 1)
	}
	p.put(t, 7, 1)
	counts(3)
	p.take(t, 6, 4, false)
	counts(3)
	p.take(t, 6, 0, true)
	counts(3)
	p.take(t, 6, 0, true)
	counts(2)
	p.take(t, 6, 0, true)
	counts(2)
}

func TestP1102EachYieldsFromTheBestOn(t *testing.T) {
	prices := []int64{8, 3, 9, 1, 7}
	for side, want := range [][]int64{{9, 8, 7, 3, 1}, {1, 3, 7, 8, 9}} {
		p := filled(t, side, 5, prices...)
		if got := priced(slices.Collect(p.l.Each())); !slices.Equal(got, want) {
			t.Errorf("side %d: Each yields %v, not %v", side, got, want)
		}
		p.same(t)
	}
}

func TestP1102EachStopsWithItsConsumer(t *testing.T) {
	for _, length := range []int{1, 2, 9, api.MaxLevels} {
		p := made(t, api.Sell, api.MaxLevels)
		var want []int64
		for n := range int64(length) {
			p.put(t, n+1, 1)
			want = append(want, n+1)
		}
		for stop := range length {
			var got []ladder.Level
			// A consumer that counts itself: a range would turn a call too many into a panic.
			p.l.Each()(func(l ladder.Level) bool {
				got = append(got, l)
				return len(got) <= stop
			})
			if !slices.Equal(priced(got), want[:stop+1]) {
				t.Fatalf("of %d levels, stopped at %d, %v are yielded", length, stop, got)
			}
		}
		p.same(t)
	}
}

func TestP1102EachIsRangedOverAgain(t *testing.T) {
	p := filled(t, api.Buy, 3, 5, 4, 3)
	each := p.l.Each()
	for range 2 {
		var outer []int64
		for level := range each {
			outer = append(outer, level.Price)
			if inner := priced(slices.Collect(each)); !slices.Equal(inner, []int64{5, 4, 3}) {
				t.Errorf("inside, %v are yielded", inner)
			}
		}
		if !slices.Equal(outer, []int64{5, 4, 3}) {
			t.Errorf("%v are yielded", outer)
		}
	}
	p.take(t, 4, 2, true)
	if got := priced(slices.Collect(each)); !slices.Equal(got, []int64{5, 3}) {
		t.Errorf("%v are yielded after a level is gone", got)
	}
	p.put(t, 6, 1)
	if got := priced(slices.Collect(each)); !slices.Equal(got, []int64{6, 5, 3}) {
		t.Errorf("%v are yielded after a level has come", got)
	}
}

func TestP1102EachWhoseConsumerTakesAndPuts(t *testing.T) {
	for _, side := range sides() {
		// Each level that is yielded goes.
		p := filled(t, side, 4, 2, 4, 3, 1)
		want := priced(p.m.sorted())
		var got []int64
		for level := range p.l.Each() {
			got = append(got, level.Price)
			p.take(t, level.Price, level.Qty, true)
			p.same(t)
		}
		if !slices.Equal(got, want) {
			t.Errorf("%v are yielded, not %v", got, want)
		}

		// A range ends, however many levels come behind it and ahead of it.
		p = filled(t, side, api.MaxLevels, 1000)
		got = nil
		for level := range p.l.Each() {
			got = append(got, level.Price)
			for n := range int64(50) {
				p.put(t, 1001+n, 1)
				p.put(t, 999-n, 1)
			}
		}
		if !slices.Equal(got, []int64{1000}) {
			t.Errorf("%v are yielded", got)
		}
		p.same(t)
	}
}

func TestP1102EachYieldsWhatALevelIsByThen(t *testing.T) {
	p := filled(t, api.Buy, 6, 6, 5, 4, 3, 2, 1)
	var got []ladder.Level
	for level := range p.l.Each() {
		got = append(got, level)
		switch level.Price {
		case 6:
			p.take(t, 6, 1, true)
			p.take(t, 5, 2, true)
			p.put(t, 4, 10)
		case 4:
			p.take(t, 2, 5, true)
			p.take(t, 1, 2, false)
		}
	}
	want := []ladder.Level{{Price: 6, Qty: 1, Orders: 1, Queue: 0}, {Price: 4, Qty: 13, Orders: 2, Queue: 2}, {Price: 3, Qty: 4, Orders: 1, Queue: 3}, {Price: 1, Qty: 4, Orders: 1, Queue: 5}}
	if !slices.Equal(got, want) {
		t.Errorf("%v are yielded, not %v", got, want)
	}
	p.same(t)
}

func TestP1103WorthAtAndAroundThePrices(t *testing.T) {
	limits := []int64{math.MinInt64, -10, 0, 1, 9, 10, 11, 19, 20, 21, 29, 30, 31, math.MaxInt64}
	for side, want := range [][]int64{
		{7, 7, 7, 7, 7, 7, 6, 6, 6, 4, 4, 4, 0, 0},
		{0, 0, 0, 0, 0, 1, 1, 1, 3, 3, 3, 7, 7, 7},
	} {
		p := made(t, side, 3)
		for _, limit := range limits {
			if got := p.l.Worth(limit); got != 0 {
				t.Errorf("side %d: Worth(%d) is %d without levels", side, limit, got)
			}
		}
		for _, level := range []struct{ price, qty int64 }{{20, 2}, {10, 1}, {30, 4}} {
			p.put(t, level.price, level.qty)
		}
		for n, limit := range limits {
			if got := p.l.Worth(limit); got != want[n] {
				t.Errorf("side %d: Worth(%d) is %d, not %d", side, limit, got, want[n])
			}
		}
	}
}

func TestP1103WorthAtTheGreatestSum(t *testing.T) {
	const top = 1 << 62
	for _, side := range sides() {
		for _, c := range []struct {
			qty  []int64
			want int64
		}{
			{[]int64{top - 1}, top - 1},
			{[]int64{top}, top},
			{[]int64{top + 1}, top},
			{[]int64{math.MaxInt64}, top},
			{[]int64{top - 2, 1}, top - 1},
			{[]int64{top - 1, 1}, top},
			{[]int64{top, 1}, top},
			{[]int64{top - 1, 2}, top},
			{[]int64{top, top}, top},
			{[]int64{top, top, top}, top},
			{[]int64{1, math.MaxInt64}, top},
			{[]int64{math.MaxInt64, 1}, top},
			{[]int64{math.MaxInt64, math.MaxInt64, 2}, top},
			{[]int64{top / 2, top / 4, top / 4}, top},
			{[]int64{top / 2, top / 4, top/4 - 1}, top - 1},
			{[]int64{top / 2, top / 2, top, top, 5}, top},
		} {
			p := made(t, side, 5)
			all := int64(1)
			if side == api.Sell {
				all = 5
			}
			for n, qty := range c.qty {
				p.put(t, int64(n+1), qty)
			}
			if got := p.l.Worth(all); got != c.want {
				t.Errorf("side %d: Worth of %v is %d, not %d", side, c.qty, got, c.want)
			}
			p.same(t)
		}
		p := made(t, side, api.MaxLevels)
		for n := range int64(api.MaxLevels) {
			p.put(t, n+1, math.MaxInt64)
		}
		p.same(t)
	}
}

func TestP1103WorthLeavesOutWorseLevels(t *testing.T) {
	// A worse level that would overflow the sum does not count.
	for _, side := range sides() {
		p := made(t, side, 3)
		for _, price := range []int64{10, 20, 30} {
			p.put(t, price, 3)
		}
		worst := int64(10)
		if side == api.Sell {
			worst = 30
		}
		p.put(t, worst, math.MaxInt64-3)
		if got := p.l.Worth(20); got != 6 {
			t.Errorf("side %d: Worth(20) is %d", side, got)
		}
		if got := p.l.Worth(worst); got != 1<<62 {
			t.Errorf("side %d: Worth(%d) is %d", side, worst, got)
		}
	}
}

// ordered fails the test where the levels are not what the chapter's consequences say, whatever the model has.
func ordered(t *testing.T, p pair) {
	t.Helper()
	var used [api.MaxLevels]bool
	var last int64
	for level := range p.l.Each() {
		if last != 0 && (level.Price == last || (level.Price > last) == (p.m.side == api.Buy)) {
			t.Fatalf("%d comes after %d", level.Price, last)
		}
		if level.Queue < 0 || level.Queue >= p.m.levels || used[level.Queue] {
			t.Fatalf("the queue %d of %d levels is another one's as well, or there is none such", level.Queue, p.m.levels)
		}
		if level.Price < 1 || level.Qty < 0 || level.Orders < 1 {
			t.Fatalf("there is a level %v", level)
		}
		last, used[level.Queue] = level.Price, true
	}
}

// tried does one of the things that change a ladder, each of which has a number, from 0 on.
func (p pair) tried(t *testing.T, what, prices int) {
	t.Helper()
	price := int64(1 + what%prices)
	switch what / prices {
	case 0:
		p.put(t, price, 2)
	case 1:
		p.take(t, price, 1, false)
	case 2:
		p.take(t, price, 1, true)
	default:
		p.take(t, price, 0, true)
	}
}

func TestP1104EverySequence(t *testing.T) {
	for _, size := range []struct{ levels, prices, length int }{{1, 1, 7}, {1, 2, 5}, {2, 2, 5}, {2, 3, 4}, {3, 3, 4}, {3, 4, 4}} {
		kinds := 4 * size.prices
		sequences := 1
		for range size.length {
			sequences *= kinds
		}
		// The lowest digit says the side, the others what is done, one after the other.
		for s := range 2 * sequences {
			p := made(t, s%2, size.levels)
			s /= 2
			for range size.length {
				p.tried(t, s%kinds, size.prices)
				s /= kinds
			}
			p.same(t)
			ordered(t, p)
		}
	}
}

func TestP1104LongSequences(t *testing.T) {
	d := dice(1104)
	for _, side := range sides() {
		for _, size := range []struct{ levels, prices int }{{1, 2}, {2, 4}, {9, 12}, {63, 80}, {64, 80}, {65, 80}, {128, 140}, {200, 60}, {200, 210}, {200, 3000}} {
			// More Puts than Takes, as many, and fewer.
			for _, puts := range []int{2, 4, 6} {
				p := made(t, side, size.levels)
				for step := range 1500 {
					price := int64(d.below(size.prices + 1))
					switch n := d.below(8); {
					case n < puts || n == 7 && p.l.Len() == 0:
						p.put(t, price, int64(d.below(9)))
					case n == 7:
						best, _ := p.l.Best()
						p.take(t, best.Price, best.Qty, true)
					default:
						p.take(t, price, int64(d.below(9)-1), d.below(3) > 0)
					}
					if step%250 == 0 {
						p.same(t)
					}
				}
				p.same(t)
				ordered(t, p)
			}
		}
	}
}

func TestP1104LaddersShareNothing(t *testing.T) {
	d := dice(1105)
	a, b := made(t, api.Buy, 2), made(t, api.Sell, 2)
	for range 500 {
		a.tried(t, d.below(12), 3)
		b.same(t)
		b.tried(t, d.below(12), 3)
		a.same(t)
	}
}

func TestP1104LevelsAreCopies(t *testing.T) {
	p := filled(t, api.Buy, 3, 3, 2, 1)
	list := slices.Collect(p.l.Each())
	best, _ := p.l.Best()
	found, _ := p.l.Find(2)
	for _, level := range append(list, best, found) {
		level.Price, level.Qty, level.Orders, level.Queue = 9, 9, 9, 9
	}
	clear(list)
	p.same(t)
}

// refuses fails the test where a method answers as if there were a level, or room for one.
func refuses(t *testing.T, l *ladder.Ladder) {
	t.Helper()
	if best, ok := l.Best(); best != (ladder.Level{}) || ok {
		t.Errorf("Best is %v and %t", best, ok)
	}
	if n := l.Len(); n != 0 {
		t.Errorf("Len is %d", n)
	}
	each := l.Each()
	for range 2 {
		for level := range each {
			t.Errorf("Each yields %v", level)
		}
	}
	for _, price := range []int64{math.MinInt64, -1, 0, 1, 10, math.MaxInt64} {
		if level, ok := l.Find(price); level != (ladder.Level{}) || ok {
			t.Errorf("Find(%d) is %v and %t", price, level, ok)
		}
		if l.Fits(price) {
			t.Errorf("Fits(%d) is true", price)
		}
		if worth := l.Worth(price); worth != 0 {
			t.Errorf("Worth(%d) is %d", price, worth)
		}
	}
}

func TestP1101P1102P1103LaddersThatNewDidNotMake(t *testing.T) {
	numbers := []int64{math.MinInt64, -1, 0, 1, 10, math.MaxInt64}
	none, zero := (*ladder.Ladder)(nil), new(ladder.Ladder)
	for range 2 {
		refuses(t, none)
		refuses(t, zero)
		for _, price := range numbers {
			for _, qty := range numbers {
				queue, fault := none.Put(price, qty)
				is(t, "Put", queue, fault, 0, api.BadArg)
				want := api.Full
				if price < 1 || qty < 1 {
					want = api.Range
				}
				queue, fault = zero.Put(price, qty)
				is(t, "Put", queue, fault, 0, want)
				for _, gone := range []bool{false, true} {
					queue, fault = none.Take(price, qty, gone)
					is(t, "Take", queue, fault, 0, api.BadArg)
					queue, fault = zero.Take(price, qty, gone)
					is(t, "Take", queue, fault, 0, api.Unknown)
				}
			}
		}
	}
}
