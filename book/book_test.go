package book_test

import (
	"cmp"
	"math"
	"slices"
	"testing"

	"damper/api"
	"damper/book"
)

// dice gives numbers that look like nothing, the same ones at every run.
type dice uint64

func (d *dice) next() uint64 {
	*d += 0x9e3779b97f4a7c15
	z := uint64(*d)
	z = (z ^ z>>30) * 0xbf58476d1ce4e5b9
	z = (z ^ z>>27) * 0x94d049bb133111eb
	return z ^ z>>31
}

func (d *dice) below(n int) int {
	return int(d.next() % uint64(n))
}

// order is one that a book takes, with any values in the fields that a book does not look at.
func (d *dice) order(ids, prices int) api.Order {
	return api.Order{
		ID:    int64(d.below(ids)),
		Owner: int(d.next()),
		Side:  d.below(2),
		Price: int64(1 + d.below(prices)),
		Qty:   int64(1 + d.below(9)),
		Flags: int(d.next()),
		Seq:   int64(d.next()),
	}
}

// model is what the chapter says of a book: its orders, in the order in which they were added.
type model struct {
	slots, levels int
	orders        []api.Order
}

// at returns where in the list the order with an ID is, -1 if there is none.
func (m *model) at(id int64) int {
	return slices.IndexFunc(m.orders, func(o api.Order) bool { return o.ID == id })
}

// of are the orders of a side in their order.
func (m *model) of(side int) []api.Order {
	var list []api.Order
	for _, o := range m.orders {
		if o.Side == side {
			list = append(list, o)
		}
	}
	slices.SortStableFunc(list, func(a, b api.Order) int {
		if side == api.Buy {
			a, b = b, a
		}
		return cmp.Compare(a.Price, b.Price)
	})
	return list
}

// fits counts the prices of a side, whatever the order of its orders.
func (m *model) fits(side int, price int64) bool {
	prices := map[int64]int{}
	for _, o := range m.orders {
		if o.Side == side {
			prices[o.Price]++
		}
	}
	return (side == 0 || side == 1) && (prices[price] > 0 || len(prices) < m.levels)
}

func (m *model) room(side int, price int64) bool {
	return m.fits(side, price) && len(m.orders) < m.slots
}

func (m *model) add(o api.Order) api.Fault {
	switch {
	case o.Side != 0 && o.Side != 1:
		return api.BadArg
	case o.Price < 1 || o.Price > 1<<40 || o.Qty < 1 || o.Qty > 1<<32:
		return api.Range
	case m.at(o.ID) >= 0:
		return api.Twice
	case !m.room(o.Side, o.Price):
		return api.Full
	}
	m.orders = append(m.orders, o)
	return api.OK
}

func (m *model) remove(id int64) (api.Order, api.Fault) {
	n := m.at(id)
	if n < 0 {
		return api.Order{}, api.Unknown
	}
	o := m.orders[n]
	m.orders = slices.Concat(m.orders[:n], m.orders[n+1:])
	return o, api.OK
}

func (m *model) reduce(id, by int64) (api.Order, api.Fault) {
	n := m.at(id)
	switch {
	case n < 0:
		return api.Order{}, api.Unknown
	case by < 1 || by > m.orders[n].Qty:
		return api.Order{}, api.Range
	case by == m.orders[n].Qty:
		o, _ := m.remove(id)
		o.Qty = 0
		return o, api.OK
	}
	m.orders[n].Qty -= by
	return m.orders[n], api.OK
}

// worth is the quantity of a side at the prices that are taken.
func (m *model) worth(side int, taken func(price int64) bool) int64 {
	var sum int64
	for _, o := range m.orders {
		if o.Side == side && taken(o.Price) {
			sum += o.Qty
		}
	}
	return sum
}

// crossed looks at each Buy and each Sell.
func (m *model) crossed() bool {
	for _, buy := range m.orders {
		for _, sell := range m.orders {
			if buy.Side == 0 && sell.Side == 1 && buy.Price >= sell.Price {
				return true
			}
		}
	}
	return false
}

// pair is a book and the model of it.
type pair struct {
	b *book.Book
	m *model
}

// made is a book without orders, and its model.
func made(t *testing.T, slots, levels int) pair {
	t.Helper()
	b, fault := book.New(slots, levels)
	if fault != api.OK || b == nil {
		t.Fatalf("New(%d, %d) is fault %d, and a book: %t", slots, levels, fault, b != nil)
	}
	return pair{b, &model{slots: slots, levels: levels}}
}

// filled is a book with some orders, all of which it takes.
func filled(t *testing.T, slots, levels int, orders ...api.Order) pair {
	t.Helper()
	p := made(t, slots, levels)
	for _, o := range orders {
		p.adds(t, o, api.OK)
	}
	return p
}

// buy and sell are orders of a side.

func buy(id, price, qty int64) api.Order {
	return api.Order{ID: id, Side: 0, Price: price, Qty: qty}
}

func sell(id, price, qty int64) api.Order {
	return api.Order{ID: id, Side: 1, Price: price, Qty: qty}
}

// The methods of a pair fail the test where the book answers something else than the model.

func (p pair) add(t *testing.T, o api.Order) {
	t.Helper()
	if got, want := p.b.Add(o), p.m.add(o); got != want {
		t.Fatalf("Add of %v is fault %d, not %d", o, got, want)
	}
}

// adds does the same where the test itself says what the fault is.
func (p pair) adds(t *testing.T, o api.Order, want api.Fault) {
	t.Helper()
	if got := p.b.Add(o); got != want {
		t.Fatalf("Add of %v is fault %d, not %d", o, got, want)
	}
	p.m.add(o)
}

func (p pair) remove(t *testing.T, id int64) {
	t.Helper()
	got, fault := p.b.Remove(id)
	if want, wrong := p.m.remove(id); got != want || fault != wrong {
		t.Fatalf("Remove(%d) is %v and fault %d, not %v and fault %d", id, got, fault, want, wrong)
	}
}

func (p pair) reduce(t *testing.T, id, by int64) {
	t.Helper()
	got, fault := p.b.Reduce(id, by)
	if want, wrong := p.m.reduce(id, by); got != want || fault != wrong {
		t.Fatalf("Reduce(%d, %d) is %v and fault %d, not %v and fault %d", id, by, got, fault, want, wrong)
	}
}

// same looks at everything that changes nothing, at the prices of the orders, around them and at the ends of what there is.
func (p pair) same(t *testing.T) {
	t.Helper()
	if got := p.b.Len(); got != len(p.m.orders) {
		t.Fatalf("Len is %d, not %d", got, len(p.m.orders))
	}
	if got, want := p.b.Crossed(), p.m.crossed(); got != want {
		t.Fatalf("Crossed is %t with %v", got, p.m.orders)
	}
	for _, o := range p.m.orders {
		if got, ok := p.b.Get(o.ID); got != o || !ok {
			t.Fatalf("Get(%d) is %v and %t, not %v", o.ID, got, ok, o)
		}
	}
	for side := range 2 {
		list := p.m.of(side)
		yields(t, p.b, side, list...)
		p.first(t, side, list)
		p.prices(t, side, 0, 1, 2)
		for _, o := range list {
			p.prices(t, side, o.Price-1, o.Price, o.Price+1)
		}
	}
}

// first looks at what is told of the first order of a side.
func (p pair) first(t *testing.T, side int, list []api.Order) {
	t.Helper()
	var first api.Order
	if len(list) > 0 {
		first = list[0]
	}
	if got, ok := p.b.Front(side); got != first || ok != (len(list) > 0) {
		t.Fatalf("Front(%d) is %v and %t, not %v", side, got, ok, first)
	}
	if got, ok := p.b.Best(side); got != first.Price || ok != (len(list) > 0) {
		t.Fatalf("Best(%d) is %d and %t, not %d", side, got, ok, first.Price)
	}
}

// prices looks at what is told of some prices of a side.
func (p pair) prices(t *testing.T, side int, prices ...int64) {
	t.Helper()
	for _, price := range prices {
		same := func(other int64) bool { return other == price }
		better := func(other int64) bool { return other == price || (other > price) == (side == 0) }
		if got, want := p.b.At(side, price), p.m.worth(side, same); got != want {
			t.Fatalf("At(%d, %d) is %d, not %d", side, price, got, want)
		}
		if got, want := p.b.Worth(side, price), p.m.worth(side, better); got != want {
			t.Fatalf("Worth(%d, %d) is %d, not %d", side, price, got, want)
		}
		if got, want := p.b.Fits(side, price), p.m.fits(side, price); got != want {
			t.Fatalf("Fits(%d, %d) is %t", side, price, got)
		}
		if got, want := p.b.Room(side, price), p.m.room(side, price); got != want {
			t.Fatalf("Room(%d, %d) is %t", side, price, got)
		}
	}
}

// yields fails the test where Each yields something else.
func yields(t *testing.T, b *book.Book, side int, want ...api.Order) {
	t.Helper()
	if got := slices.Collect(b.Each(side)); !slices.Equal(got, want) {
		t.Fatalf("Each(%d) yields %v, not %v", side, got, want)
	}
}

// named are the IDs of orders.
func named(orders []api.Order) []int64 {
	var ids []int64
	for _, o := range orders {
		ids = append(ids, o.ID)
	}
	return ids
}

// noSides are numbers that are neither Buy nor Sell.
func noSides() []int {
	return []int{math.MinInt, math.MinInt + 1, -1 << 32, -2, -1, 2, 3, 4, 1 << 32, 1<<32 + 1, math.MaxInt - 1, math.MaxInt}
}

// anywhere are prices at and beyond the ends of what an order can have.
func anywhere() []int64 {
	return []int64{math.MinInt64, math.MinInt64 + 1, -1, 0, 1, 2, 10, api.MaxPrice - 1, api.MaxPrice, api.MaxPrice + 1, math.MaxInt64 - 1, math.MaxInt64}
}

func TestP1301Examples(t *testing.T) {
	p := made(t, 4, 2)
	p.adds(t, buy(1, 10, 1), api.OK)
	p.adds(t, buy(2, 11, 1), api.OK)
	p.adds(t, buy(3, 12, 1), api.Full)
	p.adds(t, buy(1, 12, 1), api.Twice)
	p.adds(t, buy(2, 11, 1), api.Twice)
	p.same(t)

	p = filled(t, 4, 2, buy(1, 10, 1), buy(2, 12, 1), buy(3, 12, 1))
	if o, ok := p.b.Front(0); o != buy(2, 12, 1) || !ok {
		t.Errorf("Front is %v and %t", o, ok)
	}
}

func TestP1301NewInAndOutOfItsRange(t *testing.T) {
	tried := func(slots, levels int) {
		t.Helper()
		b, fault := book.New(slots, levels)
		want := api.OK
		if slots < 1 || slots > 500 || levels < 1 || levels > 200 {
			want = api.Range
		}
		if fault != want || (b != nil) != (want == api.OK) {
			t.Errorf("New(%d, %d) is fault %d, not %d, and a book: %t", slots, levels, fault, want, b != nil)
		}
	}
	for slots := -600; slots <= 1200; slots++ {
		for _, levels := range []int{0, 1, 200, 201} {
			tried(slots, levels)
		}
	}
	for levels := -300; levels <= 600; levels++ {
		for _, slots := range []int{0, 1, 500, 501} {
			tried(slots, levels)
		}
	}
	far := []int{math.MinInt, math.MinInt + 1, math.MinInt/2 + 1, -1 << 32, 1 << 32, 1<<32 + 1, math.MaxInt/2 + 2, math.MaxInt - 1, math.MaxInt}
	for _, n := range far {
		for _, other := range append(far, -1, 0, 1, 200, 201, 500, 501) {
			tried(n, other)
			tried(other, n)
		}
	}
}

func TestP1301NewBooksAreEmpty(t *testing.T) {
	for _, size := range [][2]int{{1, 1}, {1, 200}, {500, 1}, {500, 200}, {7, 3}} {
		p := made(t, size[0], size[1])
		p.same(t)
		for _, id := range []int64{math.MinInt64, -1, 0, 1, math.MaxInt64} {
			p.remove(t, id)
			p.reduce(t, id, 1)
			if o, ok := p.b.Get(id); o != (api.Order{}) || ok {
				t.Errorf("Get(%d) is %v and %t", id, o, ok)
			}
		}
	}
}

// some are books without an order, with room, without a slot, without a level of either side, and without both.
func some(t *testing.T) []pair {
	t.Helper()
	return []pair{
		made(t, 1, 1),
		filled(t, 9, 9, buy(1, 10, 3), sell(2, 20, 3)),
		filled(t, 2, 9, buy(1, 10, 3), sell(2, 20, 3)),
		filled(t, 9, 1, buy(1, 10, 3), sell(2, 20, 3)),
		filled(t, 2, 1, buy(1, 10, 3), sell(2, 20, 3)),
	}
}

func TestP1301AddOfAnotherSide(t *testing.T) {
	for _, p := range some(t) {
		for _, side := range noSides() {
			for id := range int64(4) {
				for _, price := range anywhere() {
					for _, qty := range []int64{math.MinInt64, -1, 0, 1, api.MaxQty, api.MaxQty + 1, math.MaxInt64} {
						p.adds(t, api.Order{ID: id, Side: side, Price: price, Qty: qty}, api.BadArg)
					}
				}
			}
		}
		p.same(t)
	}
}

func TestP1301AddOutOfItsRange(t *testing.T) {
	prices := []int64{math.MinInt64, math.MinInt64 + 1, -1 << 40, -10, -1, 0, 1<<40 + 1, 1 << 41, math.MaxInt64}
	quantities := []int64{math.MinInt64, math.MinInt64 + 1, -1 << 32, -3, -1, 0, 1<<32 + 1, 1 << 33, 1 << 40, math.MaxInt64}
	for _, p := range some(t) {
		for side := range 2 {
			for id := range int64(4) {
				for _, price := range prices {
					for _, qty := range append(quantities, 1, 3, 1<<32) {
						p.adds(t, api.Order{ID: id, Side: side, Price: price, Qty: qty}, api.Range)
					}
				}
				for _, qty := range quantities {
					for _, price := range []int64{1, 10, 20, 1 << 40} {
						p.adds(t, api.Order{ID: id, Side: side, Price: price, Qty: qty}, api.Range)
					}
				}
			}
		}
		p.same(t)
	}
}

func TestP1301AddAtTheEndsOfItsRange(t *testing.T) {
	for side := range 2 {
		for _, price := range []int64{1, 2, 1<<40 - 1, 1 << 40} {
			for _, qty := range []int64{1, 2, 1<<32 - 1, 1 << 32} {
				p := made(t, 3, 3)
				for id := range int64(3) {
					p.adds(t, api.Order{ID: id, Side: side, Price: price, Qty: qty}, api.OK)
				}
				p.same(t)
			}
		}
	}
}

func TestP1301AddTwice(t *testing.T) {
	p := filled(t, 9, 9, buy(1, 10, 3), sell(2, 20, 3), buy(-1, 10, 4))
	for _, id := range []int64{1, 2, -1} {
		for side := range 2 {
			for _, price := range []int64{1, 10, 15, 20, api.MaxPrice} {
				for _, qty := range []int64{1, 3, 4, api.MaxQty} {
					p.adds(t, api.Order{ID: id, Side: side, Price: price, Qty: qty}, api.Twice)
				}
			}
		}
	}
	p.same(t)
	// It comes ahead of Full, of slots as of levels.
	for _, p := range some(t)[1:] {
		for id := int64(1); id <= 2; id++ {
			for side := range 2 {
				for _, price := range []int64{5, 10, 20, 25} {
					p.adds(t, api.Order{ID: id, Side: side, Price: price, Qty: 1}, api.Twice)
				}
			}
		}
		p.same(t)
	}
}

func TestP1301AnIDThatIsGoneIsFree(t *testing.T) {
	p := filled(t, 2, 1, buy(1, 10, 3), sell(2, 20, 3))
	p.remove(t, 1)
	p.adds(t, sell(1, 20, 7), api.OK)
	p.same(t)
	p.reduce(t, 2, 3)
	p.adds(t, buy(2, 11, 4), api.OK)
	p.same(t)
	p.reduce(t, 1, 6)
	p.adds(t, buy(1, 11, 4), api.Twice)
	p.same(t)
}

func TestP1301AddIsFullWithoutASlot(t *testing.T) {
	for _, slots := range []int{1, 2, 3, 63, 64, 65, 499, 500} {
		p := made(t, slots, 2)
		for n := range int64(slots) {
			p.adds(t, api.Order{ID: n, Side: int(n % 2), Price: 10 + n%3%2, Qty: 1}, api.OK)
		}
		for side := range 2 {
			for _, price := range []int64{9, 10, 11, 12} {
				p.adds(t, api.Order{ID: -1, Side: side, Price: price, Qty: 1}, api.Full)
			}
		}
		p.same(t)
		// One that goes leaves its slot to one of either side.
		for n := range int64(2) {
			p.remove(t, int64(slots/2))
			p.adds(t, api.Order{ID: int64(slots / 2), Side: int(n), Price: 10, Qty: 2}, api.OK)
			p.adds(t, api.Order{ID: -1, Side: int(n), Price: 10, Qty: 1}, api.Full)
		}
		p.same(t)
	}
}

func TestP1301AddIsFullWithoutALevel(t *testing.T) {
	for _, levels := range []int{1, 2, 3, 63, 64, 65, 199, 200} {
		p := made(t, 500, levels)
		for side := range 2 {
			// The other side does not count.
			for n := range int64(levels) {
				p.adds(t, api.Order{ID: 1000*int64(side) + n, Side: side, Price: 2 + 2*n, Qty: 1}, api.OK)
			}
			for _, price := range []int64{1, 3, 2*int64(levels) + 1, 2*int64(levels) + 2, api.MaxPrice} {
				p.adds(t, api.Order{ID: -1, Side: side, Price: price, Qty: 1}, api.Full)
			}
			p.adds(t, api.Order{ID: -2 - int64(side), Side: side, Price: 2, Qty: 1}, api.OK)
			p.adds(t, api.Order{ID: -4 - int64(side), Side: side, Price: 2 * int64(levels), Qty: 1}, api.OK)
		}
		p.same(t)
		// A price is there till its last order goes.
		for side := range 2 {
			p.remove(t, -2-int64(side))
			p.remove(t, 1000*int64(side)+int64(levels)-1)
			p.adds(t, api.Order{ID: -1, Side: side, Price: 1, Qty: 1}, api.Full)
			p.remove(t, -4-int64(side))
			if levels == 1 {
				p.remove(t, 1000*int64(side))
			}
			p.adds(t, api.Order{ID: -6 - int64(side), Side: side, Price: 1, Qty: 1}, api.OK)
			p.adds(t, api.Order{ID: -1, Side: side, Price: 3, Qty: 1}, api.Full)
		}
		p.same(t)
	}
}

func TestP1301AnOrderIsTheLastOfItsPrice(t *testing.T) {
	for side := range 2 {
		p := made(t, 20, 3)
		// Neither Seq nor ID nor Owner says which one is earlier.
		for n, id := range []int64{5, 9, 1, 7, 3, 8, 2, 6, 4} {
			p.add(t, api.Order{ID: id, Owner: int(id), Side: side, Price: 10 + int64(n)%3, Qty: 1 + id%2, Seq: 20 - int64(n)})
		}
		want := [][]int64{{1, 8, 4, 9, 3, 6, 5, 7, 2}, {5, 7, 2, 9, 3, 6, 1, 8, 4}}[side]
		if got := named(slices.Collect(p.b.Each(side))); !slices.Equal(got, want) {
			t.Errorf("side %d: Each yields %v, not %v", side, got, want)
		}
		p.same(t)
		// One that goes and comes again is the last one then.
		o, _ := p.b.Remove(want[3])
		p.m.remove(want[3])
		p.add(t, o)
		want = slices.Concat(want[:3], want[4:6], want[3:4], want[6:])
		if got := named(slices.Collect(p.b.Each(side))); !slices.Equal(got, want) {
			t.Errorf("side %d: Each yields %v, not %v", side, got, want)
		}
		p.same(t)
	}
}

func TestP1302Examples(t *testing.T) {
	p := filled(t, 2, 2, buy(1, 10, 3))
	if o, fault := p.b.Reduce(1, 2); o != buy(1, 10, 1) || fault != api.OK {
		t.Errorf("Reduce is %v and fault %d", o, fault)
	}
	if o, ok := p.b.Get(1); o != buy(1, 10, 1) || !ok {
		t.Errorf("Get is %v and %t", o, ok)
	}
}

func TestP1302RemoveAndReduceOfWhatIsNotThere(t *testing.T) {
	for _, p := range some(t) {
		for _, id := range []int64{math.MinInt64, -1, 0, 3, 10, 20, 1 << 32, 1<<32 + 1, math.MaxInt64} {
			if o, fault := p.b.Remove(id); o != (api.Order{}) || fault != api.Unknown {
				t.Errorf("Remove(%d) is %v and fault %d", id, o, fault)
			}
			for _, by := range []int64{math.MinInt64, -1, 0, 1, 3, 4, math.MaxInt64} {
				if o, fault := p.b.Reduce(id, by); o != (api.Order{}) || fault != api.Unknown {
					t.Errorf("Reduce(%d, %d) is %v and fault %d", id, by, o, fault)
				}
			}
			if o, ok := p.b.Get(id); o != (api.Order{}) || ok {
				t.Errorf("Get(%d) is %v and %t", id, o, ok)
			}
		}
		p.same(t)
	}
}

func TestP1302RemoveRemovesOnce(t *testing.T) {
	for side := range 2 {
		for gone := range int64(5) {
			p := made(t, 5, 2)
			for id := range int64(5) {
				p.add(t, api.Order{ID: id, Side: side, Price: 10 + id/3, Qty: 1 + id})
			}
			o, fault := p.b.Remove(gone)
			if want := (api.Order{ID: gone, Side: side, Price: 10 + gone/3, Qty: 1 + gone}); o != want || fault != api.OK {
				t.Errorf("Remove(%d) is %v and fault %d", gone, o, fault)
			}
			p.m.remove(gone)
			p.same(t)
			if o, fault := p.b.Remove(gone); o != (api.Order{}) || fault != api.Unknown {
				t.Errorf("Remove(%d) again is %v and fault %d", gone, o, fault)
			}
			if o, ok := p.b.Get(gone); o != (api.Order{}) || ok {
				t.Errorf("Get(%d) is %v and %t", gone, o, ok)
			}
			p.same(t)
		}
	}
}

func TestP1302ReduceOutOfItsRange(t *testing.T) {
	for side := range 2 {
		for _, qty := range []int64{1, 2, 3, 9, api.MaxQty - 1, api.MaxQty} {
			// The others of its price have more than it has.
			p := filled(t, 5, 2, api.Order{ID: 1, Side: side, Price: 10, Qty: api.MaxQty}, api.Order{ID: 2, Side: side, Price: 10, Qty: qty}, api.Order{ID: 3, Side: side, Price: 10, Qty: api.MaxQty})
			for _, by := range []int64{math.MinInt64, math.MinInt64 + 1, -qty - 1, -qty, -1, 0, qty + 1, 2 * qty, qty + 1<<32, math.MaxInt64} {
				if by >= 1 && by <= qty {
					continue
				}
				if o, fault := p.b.Reduce(2, by); o != (api.Order{}) || fault != api.Range {
					t.Errorf("Reduce of %d by %d is %v and fault %d", qty, by, o, fault)
				}
			}
			p.same(t)
		}
	}
}

func TestP1302ReduceKeepsThePlace(t *testing.T) {
	for side := range 2 {
		for id := range int64(9) {
			p := made(t, 9, 3)
			for n := range int64(9) {
				p.add(t, api.Order{ID: n, Owner: 4, Side: side, Price: 10 + n%3, Qty: 5, Flags: 6, Seq: n})
			}
			before := named(slices.Collect(p.b.Each(side)))
			for _, by := range []int64{1, 3} {
				p.reduce(t, id, by)
				p.same(t)
				if got := named(slices.Collect(p.b.Each(side))); !slices.Equal(got, before) {
					t.Errorf("Each yields %v, not %v", got, before)
				}
			}
			p.reduce(t, id, 2)
			p.same(t)
			p.reduce(t, id, 1)
			p.same(t)
		}
	}
}

func TestP1302ReduceRemovesWhatHasNothingLeft(t *testing.T) {
	for side := range 2 {
		for _, qty := range []int64{1, 2, api.MaxQty} {
			p := filled(t, 2, 1, api.Order{ID: 7, Owner: 3, Side: side, Price: 10, Qty: qty, Flags: 5, Seq: 9}, api.Order{ID: 8, Side: side, Price: 10, Qty: 1})
			if o, fault := p.b.Reduce(7, qty); o != (api.Order{ID: 7, Owner: 3, Side: side, Price: 10, Flags: 5, Seq: 9}) || fault != api.OK {
				t.Errorf("Reduce is %v and fault %d", o, fault)
			}
			p.m.remove(7)
			p.same(t)
			p.remove(t, 7)
			p.reduce(t, 7, 1)
			if o, ok := p.b.Get(7); o != (api.Order{}) || ok {
				t.Errorf("Get is %v and %t", o, ok)
			}
			// The slot is free, and with the last order of a price its level.
			p.adds(t, api.Order{ID: 7, Side: side, Price: 11, Qty: 1}, api.Full)
			p.reduce(t, 8, 1)
			p.adds(t, api.Order{ID: 7, Side: side, Price: 11, Qty: 1}, api.OK)
			p.adds(t, api.Order{ID: 8, Side: 1 - side, Price: 10, Qty: 1}, api.OK)
			p.same(t)
		}
	}
}

func TestP1303NoSide(t *testing.T) {
	for _, p := range some(t) {
		for _, side := range noSides() {
			if o, ok := p.b.Front(side); o != (api.Order{}) || ok {
				t.Errorf("Front(%d) is %v and %t", side, o, ok)
			}
			if price, ok := p.b.Best(side); price != 0 || ok {
				t.Errorf("Best(%d) is %d and %t", side, price, ok)
			}
			yields(t, p.b, side)
			for _, price := range anywhere() {
				if at, worth := p.b.At(side, price), p.b.Worth(side, price); at != 0 || worth != 0 {
					t.Errorf("At and Worth of the side %d are %d and %d", side, at, worth)
				}
				if p.b.Fits(side, price) || p.b.Room(side, price) {
					t.Errorf("Fits or Room of the side %d is true", side)
				}
			}
		}
	}
}

func TestP1303FrontAndBestAreOfTheSide(t *testing.T) {
	p := filled(t, 9, 9, buy(1, 10, 5), buy(2, 12, 1), sell(3, 14, 1), sell(4, 13, 2), buy(5, 11, 1), buy(6, 12, 7), sell(7, 15, 1), sell(8, 13, 1))
	for _, c := range []struct {
		side  int
		first api.Order
		gone  int64
	}{
		{0, buy(2, 12, 1), 2}, {0, buy(6, 12, 7), 6}, {0, buy(5, 11, 1), 5}, {0, buy(1, 10, 5), 1},
		{1, sell(4, 13, 2), 4}, {1, sell(8, 13, 1), 8}, {1, sell(3, 14, 1), 3}, {1, sell(7, 15, 1), 7},
	} {
		if o, ok := p.b.Front(c.side); o != c.first || !ok {
			t.Errorf("Front(%d) is %v and %t, not %v", c.side, o, ok, c.first)
		}
		if price, ok := p.b.Best(c.side); price != c.first.Price || !ok {
			t.Errorf("Best(%d) is %d and %t, not %d", c.side, price, ok, c.first.Price)
		}
		p.remove(t, c.gone)
		p.same(t)
	}
	for side := range 2 {
		if o, ok := p.b.Front(side); o != (api.Order{}) || ok {
			t.Errorf("Front(%d) is %v and %t", side, o, ok)
		}
		if price, ok := p.b.Best(side); price != 0 || ok {
			t.Errorf("Best(%d) is %d and %t", side, price, ok)
		}
	}
}

func TestP1303AtAndWorthAtAndAroundThePrices(t *testing.T) {
	limits := []int64{math.MinInt64, -10, 0, 1, 9, 10, 11, 19, 20, 21, 29, 30, 31, math.MaxInt64}
	at := []int64{0, 0, 0, 0, 0, 1, 0, 0, 6, 0, 0, 8, 0, 0}
	for side, worth := range [][]int64{
		{15, 15, 15, 15, 15, 15, 14, 14, 14, 8, 8, 8, 0, 0},
		{0, 0, 0, 0, 0, 1, 1, 1, 7, 7, 7, 15, 15, 15},
	} {
		p := made(t, 9, 3)
		for n, price := range []int64{10, 20, 20, 30} {
			p.add(t, api.Order{ID: int64(n), Side: side, Price: price, Qty: 1 << n})
		}
		for n, limit := range limits {
			if got := p.b.At(side, limit); got != at[n] {
				t.Errorf("At(%d, %d) is %d, not %d", side, limit, got, at[n])
			}
			if got := p.b.Worth(side, limit); got != worth[n] {
				t.Errorf("Worth(%d, %d) is %d, not %d", side, limit, got, worth[n])
			}
			if at, worth := p.b.At(1-side, limit), p.b.Worth(1-side, limit); at != 0 || worth != 0 {
				t.Errorf("At and Worth of the other side are %d and %d", at, worth)
			}
		}
	}
}

func TestP1303TheGreatestQuantities(t *testing.T) {
	for side := range 2 {
		for _, levels := range []int64{1, 2, 200} {
			p := made(t, 500, 200)
			for n := range int64(500) {
				p.adds(t, api.Order{ID: n, Side: side, Price: api.MaxPrice - n%levels, Qty: api.MaxQty}, api.OK)
			}
			all := api.MaxPrice + 1 - levels
			if side == 1 {
				all = api.MaxPrice
			}
			if got := p.b.Worth(side, all); got != 500<<32 {
				t.Errorf("Worth is %d with %d levels", got, levels)
			}
			if got, want := p.b.At(side, api.MaxPrice), (500+levels-1)/levels<<32; got != want {
				t.Errorf("At is %d with %d levels, not %d", got, levels, want)
			}
			p.same(t)
		}
	}
}

func TestP1303FitsAndRoom(t *testing.T) {
	p := made(t, 3, 2)
	// told are the prices of a side at which Fits and Room hold; nil where they hold at every price.
	told := func(side int, fits, room []int64) {
		t.Helper()
		for _, price := range anywhere() {
			if got, want := p.b.Fits(side, price), fits == nil || slices.Contains(fits, price); got != want {
				t.Errorf("Fits(%d, %d) is %t with %v", side, price, got, p.m.orders)
			}
			if got, want := p.b.Room(side, price), room == nil || slices.Contains(room, price); got != want {
				t.Errorf("Room(%d, %d) is %t with %v", side, price, got, p.m.orders)
			}
		}
	}
	none := []int64{}
	for side := range 2 {
		told(0, nil, nil)
		told(1, nil, nil)
		p.add(t, api.Order{ID: 1, Side: side, Price: 10, Qty: 2})
		told(side, nil, nil)
		told(1-side, nil, nil)
		p.add(t, api.Order{ID: 2, Side: side, Price: 2, Qty: 2})
		told(side, []int64{2, 10}, []int64{2, 10})
		told(1-side, nil, nil)
		p.add(t, api.Order{ID: 3, Side: side, Price: 2, Qty: 2})
		told(side, []int64{2, 10}, none)
		told(1-side, nil, none)
		p.remove(t, 1)
		told(side, nil, nil)
		p.add(t, api.Order{ID: 4, Side: 1 - side, Price: 2, Qty: 2})
		told(side, nil, none)
		told(1-side, nil, none)
		p.remove(t, 2)
		told(side, nil, nil)
		p.remove(t, 3)
		p.remove(t, 4)
	}
}

func TestP1303LenCounts(t *testing.T) {
	p := made(t, 4, 1)
	counts := func(want int) {
		t.Helper()
		if got := p.b.Len(); got != want {
			t.Errorf("Len is %d, not %d", got, want)
		}
	}
	counts(0)
	p.add(t, buy(1, 10, 2))
	counts(1)
	p.add(t, sell(2, 11, 2))
	counts(2)
	p.add(t, buy(3, 10, 2))
	counts(3)
	p.add(t, buy(4, 9, 2))
	counts(3)
	p.add(t, buy(3, 10, 2))
	counts(3)
	p.reduce(t, 1, 1)
	counts(3)
	p.reduce(t, 1, 1)
	counts(2)
	p.remove(t, 1)
	counts(2)
	p.remove(t, 2)
	counts(1)
	p.remove(t, 3)
	counts(0)
}

func TestP1303EachExample(t *testing.T) {
	p := filled(t, 4, 2, buy(1, 10, 5), buy(2, 11, 1), buy(4, 11, 1))
	yields(t, p.b, 0, buy(2, 11, 1), buy(4, 11, 1), buy(1, 10, 5))
	yields(t, p.b, 1)
	p = filled(t, 4, 2, sell(1, 10, 5), sell(2, 11, 1), sell(4, 11, 1))
	yields(t, p.b, 1, sell(1, 10, 5), sell(2, 11, 1), sell(4, 11, 1))
	yields(t, p.b, 0)
}

func TestP1303EachStopsWithItsConsumer(t *testing.T) {
	for side := range 2 {
		for _, length := range []int{1, 2, 9, 120} {
			p := made(t, 500, 200)
			for n := range length {
				p.add(t, api.Order{ID: int64(n), Side: side, Price: 1 + int64(n*7%length/2), Qty: 1})
			}
			want := named(p.m.of(side))
			for stop := range length {
				var got []api.Order
				// A consumer that counts itself: a range would turn a call too many into a panic.
				p.b.Each(side)(func(o api.Order) bool {
					got = append(got, o)
					return len(got) <= stop
				})
				if !slices.Equal(named(got), want[:stop+1]) {
					t.Fatalf("of %d orders, stopped at %d, %v are yielded", length, stop, named(got))
				}
			}
			p.same(t)
		}
	}
}

func TestP1303EachIsRangedOverAgain(t *testing.T) {
	p := filled(t, 5, 3, buy(1, 5, 1), buy(2, 7, 1), buy(3, 5, 1), buy(4, 6, 1))
	each := p.b.Each(0)
	for range 2 {
		var outer []int64
		for o := range each {
			outer = append(outer, o.ID)
			if inner := named(slices.Collect(each)); !slices.Equal(inner, []int64{2, 4, 1, 3}) {
				t.Errorf("inside, %v are yielded", inner)
			}
		}
		if !slices.Equal(outer, []int64{2, 4, 1, 3}) {
			t.Errorf("%v are yielded", outer)
		}
	}
	p.remove(t, 1)
	p.reduce(t, 4, 1)
	if got := named(slices.Collect(each)); !slices.Equal(got, []int64{2, 3}) {
		t.Errorf("%v are yielded after two are gone", got)
	}
	p.add(t, buy(1, 7, 1))
	if got := named(slices.Collect(each)); !slices.Equal(got, []int64{2, 1, 3}) {
		t.Errorf("%v are yielded after one has come", got)
	}
}

func TestP1303EachWhoseConsumerRemoves(t *testing.T) {
	for side := range 2 {
		for _, way := range []func(p pair, o api.Order){
			func(p pair, o api.Order) { p.remove(t, o.ID) },
			func(p pair, o api.Order) { p.reduce(t, o.ID, o.Qty) },
		} {
			p := made(t, 500, 200)
			for n := range int64(50) {
				p.add(t, api.Order{ID: n, Side: side, Price: 1 + n*7%50/3, Qty: 1 + n})
				p.add(t, api.Order{ID: -1 - n, Side: 1 - side, Price: 1 + n*7%50/3, Qty: 1 + n})
			}
			want := p.m.of(side)
			var got []api.Order
			for o := range p.b.Each(side) {
				got = append(got, o)
				way(p, o)
			}
			if !slices.Equal(got, want) {
				t.Errorf("%v are yielded, not %v", got, want)
			}
			p.same(t)
			if n := p.b.Len(); n != 50 {
				t.Errorf("Len is %d", n)
			}
		}
	}
}

func TestP1303EachYieldsWhatAnOrderIsByThen(t *testing.T) {
	p := filled(t, 20, 9, sell(1, 10, 5), sell(2, 10, 5), sell(3, 10, 5), sell(4, 10, 5), sell(5, 11, 5), sell(6, 12, 5), sell(7, 12, 5), sell(8, 12, 5))
	var got []api.Order
	for o := range p.b.Each(1) {
		got = append(got, o)
		switch o.ID {
		case 1:
			p.reduce(t, 1, 5)
			p.reduce(t, 3, 2)
			p.remove(t, 2)
			p.remove(t, 5)
			// Each of these would have the slot of one that went, and one of them its level's queue as well.
			p.add(t, sell(9, 10, 1))
			p.add(t, sell(10, 12, 1))
			p.add(t, sell(11, 13, 1))
		case 6:
			// The same ID at another price, on the other side, or from another owner is another order.
			p.remove(t, 7)
			p.remove(t, 8)
			p.add(t, buy(7, 12, 5))
			p.add(t, api.Order{ID: 8, Owner: 1, Side: 1, Price: 12, Qty: 5})
		}
	}
	if want := []api.Order{sell(1, 10, 5), sell(3, 10, 3), sell(4, 10, 5), sell(6, 12, 5)}; !slices.Equal(got, want) {
		t.Errorf("%v are yielded, not %v", got, want)
	}
	p.same(t)
}

func TestP1303EachEndsWhateverItsConsumerAdds(t *testing.T) {
	for side := range 2 {
		p := filled(t, 500, 200, api.Order{ID: 1000, Side: side, Price: 100, Qty: 1}, api.Order{ID: 2000, Side: side, Price: 100, Qty: 1})
		var got []int64
		for o := range p.b.Each(side) {
			got = append(got, o.ID)
			for n := range int64(50) {
				p.add(t, api.Order{ID: o.ID + n + 1, Side: side, Price: 75 + n, Qty: 1})
			}
			// It goes and comes again, behind where the range is.
			p.remove(t, o.ID)
			p.add(t, o)
		}
		if !slices.Equal(got, []int64{1000, 2000}) {
			t.Errorf("%v are yielded", got)
		}
		p.same(t)
	}
}

func TestP1303Crossed(t *testing.T) {
	for _, c := range []struct {
		orders []api.Order
		want   bool
	}{
		{nil, false},
		{[]api.Order{buy(1, 10, 1)}, false},
		{[]api.Order{sell(1, 10, 1)}, false},
		{[]api.Order{buy(1, 10, 1), buy(2, 12, 1)}, false},
		{[]api.Order{sell(1, 10, 1), sell(2, 12, 1)}, false},
		{[]api.Order{buy(1, 10, 1), sell(2, 11, 1)}, false},
		{[]api.Order{buy(1, 10, 1), sell(2, 10, 1)}, true},
		{[]api.Order{buy(1, 11, 1), sell(2, 10, 1)}, true},
		{[]api.Order{sell(1, 10, 1), buy(2, 9, 1)}, false},
		{[]api.Order{buy(1, 9, 1), buy(2, 10, 1), sell(3, 12, 1), sell(4, 10, 1)}, true},
		{[]api.Order{buy(1, 9, 1), buy(2, 10, 1), sell(3, 12, 1), sell(4, 11, 1)}, false},
		{[]api.Order{buy(1, api.MaxPrice, 1), sell(2, 1, 1)}, true},
		{[]api.Order{buy(1, 1, 1), sell(2, api.MaxPrice, 1)}, false},
		{[]api.Order{buy(1, 1, 1), sell(2, 1, 1)}, true},
		{[]api.Order{buy(1, api.MaxPrice, 1), sell(2, api.MaxPrice, 1)}, true},
	} {
		p := filled(t, 9, 9, c.orders...)
		if got := p.b.Crossed(); got != c.want {
			t.Errorf("Crossed is %t with %v", got, c.orders)
		}
		p.same(t)
	}
	p := filled(t, 9, 9, buy(1, 10, 1), sell(2, 10, 2))
	p.reduce(t, 2, 1)
	p.same(t)
	p.reduce(t, 2, 1)
	if p.b.Crossed() {
		t.Error("Crossed is true without a Sell")
	}
}

func TestP1303Better(t *testing.T) {
	numbers := append(anywhere(), 9, 11, -10)
	for _, a := range numbers {
		for _, b := range numbers {
			if got := book.Better(0, a, b); got != (a > b) {
				t.Errorf("Better(Buy, %d, %d) is %t", a, b, got)
			}
			if got := book.Better(1, a, b); got != (a < b) {
				t.Errorf("Better(Sell, %d, %d) is %t", a, b, got)
			}
			for _, side := range noSides() {
				if book.Better(side, a, b) {
					t.Errorf("Better(%d, %d, %d) is true", side, a, b)
				}
			}
		}
	}
}

func TestP1304EveryFieldIsKept(t *testing.T) {
	for _, o := range []api.Order{
		{ID: math.MinInt64}, {ID: -1}, {ID: math.MaxInt64}, {Owner: math.MinInt}, {Owner: math.MaxInt}, {Side: 1}, {Price: api.MaxPrice}, {Qty: api.MaxQty},
		{Flags: math.MinInt}, {Flags: math.MaxInt}, {Seq: math.MinInt64}, {Seq: math.MaxInt64}, {ID: 2, Owner: 3, Side: 1, Price: 4, Qty: 5, Flags: 6, Seq: 7},
	} {
		o.Price, o.Qty = max(o.Price, 1), max(o.Qty, 1)
		p := filled(t, 3, 3, buy(50, 1, 1), o, sell(60, 4, 1))
		if got, ok := p.b.Get(o.ID); got != o || !ok {
			t.Errorf("Get is %v and %t, not %v", got, ok, o)
		}
		p.same(t)
		if got, fault := p.b.Remove(o.ID); got != o || fault != api.OK {
			t.Errorf("Remove is %v and fault %d, not %v", got, fault, o)
		}
		p.m.remove(o.ID)
		p.same(t)
	}
}

// ordered fails the test where the orders are not what the chapter's definition says, whatever the model has: the Seq of each is when it was added.
func ordered(t *testing.T, b *book.Book) {
	t.Helper()
	total := 0
	for side := range 2 {
		var last api.Order
		var worth int64
		for o := range b.Each(side) {
			if o.Side != side || o.Qty < 1 {
				t.Fatalf("%v is an order of the side %d", o, side)
			}
			if last.Price != 0 && !book.Better(side, last.Price, o.Price) && !(last.Price == o.Price && last.Seq < o.Seq) {
				t.Fatalf("%v comes after %v", o, last)
			}
			last = o
			worth += o.Qty
			total++
		}
		if got := b.Worth(side, last.Price); got != worth {
			t.Fatalf("Worth is %d, not %d", got, worth)
		}
	}
	if n := b.Len(); n != total {
		t.Fatalf("Len is %d, not %d", n, total)
	}
}

// kinds is the number of the things that tried does, with so many IDs and prices.
func kinds(ids, prices int) int {
	return ids * (2*prices + 3)
}

// tried does one of the things that change a book, each of which has a number, from 0 on.
func (p pair) tried(t *testing.T, what, ids, prices int, seq int64) {
	t.Helper()
	id := int64(what % ids)
	switch what /= ids; {
	case what == 0:
		p.remove(t, id)
	case what <= 2:
		p.reduce(t, id, int64(what))
	default:
		what -= 3
		p.add(t, api.Order{ID: id, Side: what % 2, Price: int64(1 + what/2), Qty: 2, Seq: seq})
	}
}

func TestP1304EverySequence(t *testing.T) {
	for _, size := range []struct{ slots, levels, ids, prices, length int }{{1, 1, 1, 1, 5}, {2, 1, 2, 1, 4}, {2, 1, 2, 2, 3}, {2, 2, 2, 2, 4}, {3, 1, 3, 2, 3}, {3, 2, 3, 2, 3}, {2, 2, 3, 3, 3}} {
		n := kinds(size.ids, size.prices)
		sequences := 1
		for range size.length {
			sequences *= n
		}
		for s := range sequences {
			p := made(t, size.slots, size.levels)
			for seq := range size.length {
				p.tried(t, s%n, size.ids, size.prices, int64(seq))
				s /= n
			}
			p.same(t)
			ordered(t, p.b)
		}
	}
}

// somewhere is an order that is there, if chance will have it, and else any.
func (p pair) somewhere(d *dice, ids int) int64 {
	if n := len(p.m.orders); n > 0 && d.below(4) > 0 {
		return p.m.orders[d.below(n)].ID
	}
	return int64(d.below(ids))
}

func TestP1304LongSequences(t *testing.T) {
	d := dice(1304)
	for _, size := range []struct{ slots, levels, ids, prices int }{{1, 1, 2, 2}, {3, 2, 5, 3}, {9, 4, 20, 6}, {40, 40, 60, 12}, {64, 10, 100, 11}, {200, 64, 260, 90}, {500, 200, 600, 230}, {500, 200, 600, 40}, {500, 3, 600, 3}} {
		// More that come than go, as many, and fewer.
		for _, adds := range []int{3, 5, 6} {
			p := made(t, size.slots, size.levels)
			for step := range 1200 {
				switch n := d.below(8); {
				case n < adds:
					o := d.order(size.ids, size.prices)
					o.Seq = int64(step)
					p.add(t, o)
				case n == 7:
					p.remove(t, p.somewhere(&d, size.ids))
				default:
					p.reduce(t, p.somewhere(&d, size.ids), int64(d.below(7)))
				}
				if step%400 == 0 {
					p.same(t)
				}
			}
			p.same(t)
			ordered(t, p.b)
		}
	}
}

func TestP1304AFullBook(t *testing.T) {
	// All levels of both sides, and all slots: the sides share neither prices nor queues.
	p := made(t, 500, 200)
	for n := range int64(500) {
		p.adds(t, api.Order{ID: n, Side: int(n % 2), Price: 1 + n/2*77%200, Qty: 1 + n, Seq: n}, api.OK)
	}
	p.same(t)
	ordered(t, p.b)
	d := dice(1305)
	for range 500 {
		p.remove(t, p.m.orders[d.below(len(p.m.orders))].ID)
		if d.below(2) == 0 {
			p.add(t, d.order(500, 200))
		}
	}
	p.same(t)
	for len(p.m.orders) > 0 {
		p.remove(t, p.m.orders[d.below(len(p.m.orders))].ID)
	}
	p.same(t)
	for n := range int64(500) {
		p.adds(t, api.Order{ID: n, Side: int(n % 2), Price: 1 + n/2%200, Qty: 1 + n, Seq: n}, api.OK)
	}
	p.same(t)
	ordered(t, p.b)
}

func TestP1304BooksShareNothing(t *testing.T) {
	d := dice(1306)
	a, b := made(t, 3, 2), made(t, 3, 2)
	for step := range int64(500) {
		a.tried(t, d.below(kinds(4, 3)), 4, 3, step)
		b.same(t)
		b.tried(t, d.below(kinds(4, 3)), 4, 3, step)
		a.same(t)
	}
}

// refuses fails the test where a method answers as if there were an order, or room for one.
func refuses(t *testing.T, b *book.Book) {
	t.Helper()
	if n := b.Len(); n != 0 || b.Crossed() {
		t.Errorf("Len is %d and Crossed is %t", n, b.Crossed())
	}
	for _, id := range []int64{math.MinInt64, -1, 0, 1, math.MaxInt64} {
		if o, ok := b.Get(id); o != (api.Order{}) || ok {
			t.Errorf("Get(%d) is %v and %t", id, o, ok)
		}
	}
	for _, side := range append(noSides(), 0, 1) {
		if o, ok := b.Front(side); o != (api.Order{}) || ok {
			t.Errorf("Front(%d) is %v and %t", side, o, ok)
		}
		if price, ok := b.Best(side); price != 0 || ok {
			t.Errorf("Best(%d) is %d and %t", side, price, ok)
		}
		each := b.Each(side)
		for range 2 {
			for o := range each {
				t.Errorf("Each(%d) yields %v", side, o)
			}
		}
		for _, price := range anywhere() {
			if at, worth := b.At(side, price), b.Worth(side, price); at != 0 || worth != 0 {
				t.Errorf("At and Worth are %d and %d", at, worth)
			}
			if b.Fits(side, price) || b.Room(side, price) {
				t.Errorf("Fits or Room of the side %d is true", side)
			}
		}
	}
}

// changes fails the test where Remove or Reduce of an order that is not there has another fault.
func changes(t *testing.T, b *book.Book, want api.Fault) {
	t.Helper()
	for _, id := range []int64{math.MinInt64, -1, 0, 1, math.MaxInt64} {
		if o, fault := b.Remove(id); o != (api.Order{}) || fault != want {
			t.Errorf("Remove(%d) is %v and fault %d, not %d", id, o, fault, want)
		}
		for _, by := range []int64{math.MinInt64, -1, 0, 1, math.MaxInt64} {
			if o, fault := b.Reduce(id, by); o != (api.Order{}) || fault != want {
				t.Errorf("Reduce(%d, %d) is %v and fault %d, not %d", id, by, o, fault, want)
			}
		}
	}
}

func TestP1301P1302P1303BooksThatNewDidNotMake(t *testing.T) {
	none, zero := (*book.Book)(nil), new(book.Book)
	for range 2 {
		refuses(t, none)
		refuses(t, zero)
		changes(t, none, api.BadArg)
		changes(t, zero, api.Unknown)
		// What can't be added anywhere has its fault; anything else finds no room.
		empty := &model{}
		for _, side := range append(noSides(), 0, 1) {
			for _, price := range anywhere() {
				for _, qty := range anywhere() {
					o := api.Order{ID: 1, Side: side, Price: price, Qty: qty}
					if fault := none.Add(o); fault != api.BadArg {
						t.Errorf("Add of %v is fault %d", o, fault)
					}
					if fault, want := zero.Add(o), empty.add(o); fault != want {
						t.Errorf("Add of %v is fault %d, not %d", o, fault, want)
					}
				}
			}
		}
	}
}
