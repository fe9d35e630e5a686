package sweep_test

import (
	"cmp"
	"math"
	"slices"
	"testing"

	"damper/api"
	"damper/book"
	"damper/sweep"
)

// dice gives numbers that look like nothing, the same ones at every run.
type dice uint64

func (d *dice) next() uint64 {
	*d += 0x9e3779b97f4a7c15
	z := uint64(*d)
	z = (z ^ z>>30) * 0xbf58476d1ce4e5b9
	z = (z ^ z>>27) * 0x94d049bb133111eb
	return z ^ z>>31
}

func (d *dice) below(n int) int {
	return int(d.next() % uint64(n))
}

// order is one that a book takes.
func (d *dice) order(id int64, owners, prices int) api.Order {
	return api.Order{ID: id, Owner: d.below(owners), Side: d.below(2), Price: int64(1 + d.below(prices)), Qty: int64(1 + d.below(9)), Flags: d.below(8), Seq: int64(d.next())}
}

// taker has now and then no limit, and a band that contains most of the prices, or none.
func (d *dice) taker(owners, prices int) sweep.Taker {
	t := sweep.Taker{Side: d.below(2), Owner: d.below(owners), Qty: int64(1 + d.below(40)), Self: d.below(5)}
	t.Band = api.Band{Lo: int64(d.below(prices / 2)), Hi: int64(1 + d.below(2*prices))}
	t.Limit = int64(max(0, d.below(2*prices)-prices/2))
	return t
}

// buy and sell are orders of a side and an owner.

func buy(id int64, owner int, price, qty int64) api.Order {
	return api.Order{ID: id, Owner: owner, Side: 0, Price: price, Qty: qty}
}

func sell(id int64, owner int, price, qty int64) api.Order {
	return api.Order{ID: id, Owner: owner, Side: 1, Price: price, Qty: qty}
}

// all is a band that contains each price.
var all = api.Band{Lo: 1, Hi: api.MaxPrice}

// noSides are numbers that are neither Buy nor Sell.
func noSides() []int {
	return []int{math.MinInt, math.MinInt + 1, -1 << 32, -2, -1, 2, 3, 4, 1 << 32, 1<<32 + 1, math.MaxInt - 1, math.MaxInt}
}

// far are numbers at and beyond the ends of what a price or a quantity can be.
func far() []int64 {
	return []int64{math.MinInt64, math.MinInt64 + 1, -1 << 40, -2, -1, 0, 1, 2, 1 << 32, 1<<32 + 1, 1<<40 - 1, 1 << 40, 1<<40 + 1, math.MaxInt64 - 1, math.MaxInt64}
}

// made is a book without orders.
func made(t *testing.T, slots, levels int) *book.Book {
	t.Helper()
	b, fault := book.New(slots, levels)
	if fault != api.OK {
		t.Fatalf("New is fault %d", fault)
	}
	return b
}

// filled is a small book with some orders, all of which it takes.
func filled(t *testing.T, orders ...api.Order) *book.Book {
	t.Helper()
	b := made(t, 9, 9)
	for _, o := range orders {
		if fault := b.Add(o); fault != api.OK {
			t.Fatalf("Add of %v is fault %d", o, fault)
		}
	}
	return b
}

// sorted are the orders of a side, of those that were added in this order, in their order.
func sorted(orders []api.Order, side int) []api.Order {
	var list []api.Order
	for _, o := range orders {
		if o.Side == side {
			list = append(list, o)
		}
	}
	slices.SortStableFunc(list, func(a, b api.Order) int {
		if side == 0 {
			a, b = b, a
		}
		return cmp.Compare(a.Price, b.Price)
	})
	return list
}

// has fails the test where a book has other orders than these, which were added in this order.
func has(t *testing.T, b *book.Book, orders ...api.Order) {
	t.Helper()
	for side := range 2 {
		want := sorted(orders, side)
		if got := slices.Collect(b.Each(side)); !slices.Equal(got, want) {
			t.Fatalf("the orders of the side %d are %v, not %v", side, got, want)
		}
	}
	if n := b.Len(); n != len(orders) {
		t.Fatalf("Len is %d, not %d", n, len(orders))
	}
}

// planned is the plan by the words of the chapter, for the orders of the other side in their order.
func planned(orders []api.Order, t sweep.Taker) sweep.Plan {
	if t.Qty == 0 {
		return sweep.Plan{}
	}
	if len(orders) == 0 {
		return sweep.Plan{Left: t.Qty, Stop: 1}
	}
	o := orders[0]
	fill := sweep.Fill{ID: o.ID, Price: o.Price, Qty: o.Qty}
	switch {
	case t.Limit != 0 && t.Side == 0 && o.Price > t.Limit, t.Limit != 0 && t.Side == 1 && o.Price < t.Limit:
		return sweep.Plan{Left: t.Qty, Stop: 1}
	case o.Price < t.Band.Lo, o.Price > t.Band.Hi:
		return sweep.Plan{Left: t.Qty, Stop: 2}
	case t.Self == 1 && o.Owner == t.Owner:
		return sweep.Plan{Left: t.Qty, Stop: 3}
	case t.Self == 3 && o.Owner == t.Owner:
		fill.Gone = true
		return sweep.Plan{Fills: []sweep.Fill{fill}, Left: t.Qty, Stop: 3}
	case t.Self != 0 && o.Owner == t.Owner:
		fill.Gone = true
	case o.Qty > t.Qty:
		fill.Qty = t.Qty
		t.Qty = 0
	default:
		t.Qty -= o.Qty
	}
	rest := planned(orders[1:], t)
	rest.Fills = append([]sweep.Fill{fill}, rest.Fills...)
	return rest
}

// left are the orders that are left of these when the Fills have been executed.
func left(orders []api.Order, fills []sweep.Fill) []api.Order {
	orders = slices.Clone(orders)
	for _, f := range fills {
		n := slices.IndexFunc(orders, func(o api.Order) bool { return o.ID == f.ID })
		orders[n].Qty -= f.Qty
		if f.Gone || orders[n].Qty == 0 {
			orders = slices.Delete(orders, n, n+1)
		}
	}
	return orders
}

func same(a, b sweep.Plan) bool {
	return slices.Equal(a.Fills, b.Fills) && a.Left == b.Left && a.Stop == b.Stop
}

// makes fails the test where Make answers another plan, or changes the book.
func makes(t *testing.T, b *book.Book, taker sweep.Taker, left int64, stop int, fills ...sweep.Fill) {
	t.Helper()
	before := slices.Concat(slices.Collect(b.Each(0)), slices.Collect(b.Each(1)))
	want := sweep.Plan{Fills: fills, Left: left, Stop: stop}
	if got := sweep.Make(b, taker); !same(got, want) {
		t.Errorf("Make for %v is %v, not %v", taker, got, want)
	}
	has(t, b, before...)
}

// example is the book of the chapter's examples.
func example(t *testing.T) *book.Book {
	t.Helper()
	return filled(t, sell(1, 0, 10, 3), sell(2, 7, 11, 5), sell(3, 0, 12, 4))
}

// exampleTaker is the one of the chapter's examples.
func exampleTaker() sweep.Taker {
	return sweep.Taker{Side: 0, Owner: 7, Limit: 12, Qty: 9, Band: api.Band{Lo: 1, Hi: 11}, Self: 2}
}

func TestP1401Examples(t *testing.T) {
	makes(t, example(t), exampleTaker(), 6, 2, sweep.Fill{ID: 1, Price: 10, Qty: 3}, sweep.Fill{ID: 2, Price: 11, Qty: 5, Gone: true})
	b := filled(t, sell(1, 0, 10, 3), sell(2, 0, 11, 5))
	makes(t, b, sweep.Taker{Owner: 9, Limit: 11, Qty: 6, Band: all}, 0, 0, sweep.Fill{ID: 1, Price: 10, Qty: 3}, sweep.Fill{ID: 2, Price: 11, Qty: 3})
}

func TestP1401TheOtherSideInItsOrder(t *testing.T) {
	b := filled(t,
		sell(1, 0, 21, 1), sell(2, 0, 20, 2), sell(3, 0, 21, 3), sell(4, 0, 20, 4),
		buy(5, 0, 10, 5), buy(6, 0, 11, 6), buy(7, 0, 10, 7), buy(8, 0, 11, 8))
	makes(t, b, sweep.Taker{Side: 0, Qty: 100, Band: all}, 90, 1,
		sweep.Fill{ID: 2, Price: 20, Qty: 2}, sweep.Fill{ID: 4, Price: 20, Qty: 4}, sweep.Fill{ID: 1, Price: 21, Qty: 1}, sweep.Fill{ID: 3, Price: 21, Qty: 3})
	makes(t, b, sweep.Taker{Side: 1, Qty: 100, Band: all}, 74, 1,
		sweep.Fill{ID: 6, Price: 11, Qty: 6}, sweep.Fill{ID: 8, Price: 11, Qty: 8}, sweep.Fill{ID: 5, Price: 10, Qty: 5}, sweep.Fill{ID: 7, Price: 10, Qty: 7})
	makes(t, b, sweep.Taker{Side: 1, Qty: 1, Band: all}, 0, 0, sweep.Fill{ID: 6, Price: 11, Qty: 1})
}

func TestP1401WithoutOrders(t *testing.T) {
	for _, b := range []*book.Book{nil, {}, filled(t)} {
		for side := range 2 {
			for _, qty := range far() {
				for self := range 4 {
					makes(t, b, sweep.Taker{Side: side, Qty: qty, Band: all, Self: self}, qty, 1)
				}
			}
		}
	}
	// Those of the taker's own side do not count.
	makes(t, filled(t, buy(1, 0, 10, 3)), sweep.Taker{Side: 0, Qty: 2, Band: all}, 2, 1)
	makes(t, filled(t, sell(1, 0, 10, 3)), sweep.Taker{Side: 1, Qty: 2, Band: all}, 2, 1)
}

func TestP1401NoSideAndNoQty(t *testing.T) {
	b := filled(t, sell(1, 0, 10, 3), buy(2, 0, 9, 3))
	for _, side := range noSides() {
		for _, qty := range far() {
			for self := range 4 {
				makes(t, b, sweep.Taker{Side: side, Qty: qty, Band: all, Self: self}, qty, 1)
				makes(t, nil, sweep.Taker{Side: side, Qty: qty, Band: all, Self: self}, qty, 1)
			}
		}
	}
	for _, qty := range []int64{math.MinInt64, math.MinInt64 + 1, -1 << 32, -3, -1, 0} {
		for side := range 2 {
			for self := range 4 {
				for owner := range 2 {
					makes(t, b, sweep.Taker{Side: side, Owner: owner, Qty: qty, Band: all, Self: self}, qty, 1)
					// Where another taker's plan would end with Stop 2.
					makes(t, b, sweep.Taker{Side: side, Owner: owner, Qty: qty, Self: self}, qty, 1)
				}
			}
		}
	}
}

func TestP1401QtyAroundWhatThereIs(t *testing.T) {
	b := filled(t, sell(1, 0, 10, 3), sell(2, 0, 10, 2))
	for _, c := range []struct {
		qty, left int64
		stop      int
		fills     []int64
	}{
		{1, 0, 0, []int64{1}}, {2, 0, 0, []int64{2}}, {3, 0, 0, []int64{3}}, {4, 0, 0, []int64{3, 1}}, {5, 0, 0, []int64{3, 2}}, {6, 1, 1, []int64{3, 2}},
		{1 << 32, 1<<32 - 5, 1, []int64{3, 2}}, {math.MaxInt64, math.MaxInt64 - 5, 1, []int64{3, 2}},
	} {
		var fills []sweep.Fill
		for n, qty := range c.fills {
			fills = append(fills, sweep.Fill{ID: int64(n + 1), Price: 10, Qty: qty})
		}
		makes(t, b, sweep.Taker{Qty: c.qty, Band: all}, c.left, c.stop, fills...)
		makes(t, b, sweep.Taker{Limit: 10, Qty: c.qty, Band: api.Band{Lo: 10, Hi: 10}}, c.left, c.stop, fills...)
	}
}

func TestP1401LimitAroundThePrices(t *testing.T) {
	sells := []api.Order{sell(1, 0, 10, 1), sell(2, 0, 12, 1), sell(3, 0, api.MaxPrice, 1)}
	buys := []api.Order{buy(1, 0, 12, 1), buy(2, 0, 10, 1), buy(3, 0, 1, 1)}
	for _, c := range []struct {
		limit      int64
		buys, sell int // how many orders a Buy, and a Sell, with this limit trades with
	}{
		{math.MinInt64, 0, 3}, {-10, 0, 3}, {-1, 0, 3}, {0, 3, 3}, {1, 0, 3}, {2, 0, 2}, {9, 0, 2}, {10, 1, 2}, {11, 1, 1}, {12, 2, 1}, {13, 2, 0},
		{api.MaxPrice - 1, 2, 0}, {api.MaxPrice, 3, 0}, {api.MaxPrice + 1, 3, 0}, {math.MaxInt64, 3, 0},
	} {
		for side, n := range []int{c.buys, c.sell} {
			orders := [][]api.Order{sells, buys}[side]
			var fills []sweep.Fill
			for _, o := range orders[:n] {
				fills = append(fills, sweep.Fill{ID: o.ID, Price: o.Price, Qty: 1})
			}
			b := filled(t, orders...)
			makes(t, b, sweep.Taker{Side: side, Limit: c.limit, Qty: 9, Band: all}, int64(9-n), 1, fills...)
			// As much as there is at the limit: the next order is not looked at.
			if n > 0 {
				makes(t, b, sweep.Taker{Side: side, Limit: c.limit, Qty: int64(n), Band: all}, 0, 0, fills...)
			}
		}
	}
}

func TestP1401BandAroundThePrices(t *testing.T) {
	sells := []api.Order{sell(1, 0, 10, 1), sell(2, 0, 12, 1)}
	buys := []api.Order{buy(1, 0, 12, 1), buy(2, 0, 10, 1)}
	for _, c := range []struct {
		band      api.Band
		buy, sell int // how many orders a Buy, and a Sell, trades with
	}{
		{api.Band{}, 0, 0}, {api.Band{Lo: 10, Hi: 12}, 2, 2}, {api.Band{Lo: 10, Hi: 11}, 1, 0}, {api.Band{Lo: 11, Hi: 12}, 0, 1}, {api.Band{Lo: 10, Hi: 10}, 1, 0}, {api.Band{Lo: 12, Hi: 12}, 0, 1},
		{api.Band{Lo: 9, Hi: 13}, 2, 2}, {api.Band{Lo: 11, Hi: 11}, 0, 0}, {api.Band{Lo: 1, Hi: 9}, 0, 0}, {api.Band{Lo: 13, Hi: 20}, 0, 0}, {api.Band{Lo: 12, Hi: 10}, 0, 0}, {api.Band{Lo: 12, Hi: 11}, 0, 0},
		{api.Band{Lo: math.MinInt64, Hi: math.MaxInt64}, 2, 2}, {api.Band{Lo: math.MaxInt64, Hi: math.MinInt64}, 0, 0}, {api.Band{Lo: math.MinInt64, Hi: 10}, 1, 0}, {api.Band{Lo: 12, Hi: math.MaxInt64}, 0, 1},
	} {
		for side, n := range []int{c.buy, c.sell} {
			orders := [][]api.Order{sells, buys}[side]
			stop := 2
			if n == 2 {
				stop = 1
			}
			var fills []sweep.Fill
			for _, o := range orders[:n] {
				fills = append(fills, sweep.Fill{ID: o.ID, Price: o.Price, Qty: 1})
			}
			makes(t, filled(t, orders...), sweep.Taker{Side: side, Qty: 9, Band: c.band}, int64(9-n), stop, fills...)
		}
	}
}

func TestP1401WhichStopComesFirst(t *testing.T) {
	first := sweep.Fill{ID: 1, Price: 10, Qty: 3}
	second := sweep.Fill{ID: 2, Price: 12, Qty: 5}
	removed := sweep.Fill{ID: 2, Price: 12, Qty: 5, Gone: true}
	narrow := api.Band{Lo: 1, Hi: 11}
	b := filled(t, sell(1, 0, 10, 3), sell(2, 7, 12, 5))
	for _, c := range []struct {
		taker sweep.Taker
		left  int64
		stop  int
		fills []sweep.Fill
	}{
		// Nothing is left, though the next order is worse, outside, and the taker's own.
		{sweep.Taker{Owner: 7, Limit: 11, Qty: 3, Band: narrow, Self: 1}, 0, 0, []sweep.Fill{first}},
		{sweep.Taker{Owner: 7, Qty: 3, Band: narrow, Self: 1}, 0, 0, []sweep.Fill{first}},
		{sweep.Taker{Owner: 7, Qty: 3, Band: all, Self: 1}, 0, 0, []sweep.Fill{first}},
		{sweep.Taker{Owner: 7, Qty: 3, Band: all, Self: 2}, 0, 0, []sweep.Fill{first}},
		{sweep.Taker{Owner: 7, Qty: 3, Band: all, Self: 3}, 0, 0, []sweep.Fill{first}},
		// It is worse, though outside and the taker's own.
		{sweep.Taker{Owner: 7, Limit: 11, Qty: 4, Band: narrow, Self: 1}, 1, 1, []sweep.Fill{first}},
		{sweep.Taker{Owner: 7, Limit: 11, Qty: 4, Band: all, Self: 1}, 1, 1, []sweep.Fill{first}},
		{sweep.Taker{Owner: 7, Limit: 11, Qty: 4, Band: all, Self: 2}, 1, 1, []sweep.Fill{first}},
		{sweep.Taker{Owner: 7, Limit: 11, Qty: 4, Band: all, Self: 3}, 1, 1, []sweep.Fill{first}},
		// It is outside, though the taker's own.
		{sweep.Taker{Owner: 7, Limit: 12, Qty: 4, Band: narrow, Self: 1}, 1, 2, []sweep.Fill{first}},
		{sweep.Taker{Owner: 7, Qty: 4, Band: narrow, Self: 2}, 1, 2, []sweep.Fill{first}},
		{sweep.Taker{Owner: 7, Qty: 4, Band: narrow, Self: 3}, 1, 2, []sweep.Fill{first}},
		// It is the taker's own.
		{sweep.Taker{Owner: 7, Limit: 12, Qty: 4, Band: all, Self: 1}, 1, 3, []sweep.Fill{first}},
		{sweep.Taker{Owner: 7, Limit: 12, Qty: 4, Band: all, Self: 2}, 1, 1, []sweep.Fill{first, removed}},
		{sweep.Taker{Owner: 7, Limit: 12, Qty: 4, Band: all, Self: 3}, 1, 3, []sweep.Fill{first, removed}},
		// It trades.
		{sweep.Taker{Owner: 7, Limit: 12, Qty: 9, Band: all, Self: 0}, 1, 1, []sweep.Fill{first, second}},
		{sweep.Taker{Owner: 8, Limit: 12, Qty: 9, Band: all, Self: 1}, 1, 1, []sweep.Fill{first, second}},
		{sweep.Taker{Owner: 8, Limit: 12, Qty: 9, Band: all, Self: 2}, 1, 1, []sweep.Fill{first, second}},
		{sweep.Taker{Owner: 8, Limit: 12, Qty: 9, Band: all, Self: 3}, 1, 1, []sweep.Fill{first, second}},
	} {
		makes(t, b, c.taker, c.left, c.stop, c.fills...)
	}
}

func TestP1401OrdersOfTheTakersOwner(t *testing.T) {
	for _, owner := range []int{0, 1, -1, 255, math.MinInt, math.MaxInt} {
		b := filled(t, sell(1, owner+1, 10, 3), sell(2, owner, 10, 5), sell(3, owner, 11, 2), sell(4, owner+1, 11, 6))
		taker := sweep.Taker{Owner: owner, Qty: 20, Band: all}
		fills := []sweep.Fill{{ID: 1, Price: 10, Qty: 3}, {ID: 2, Price: 10, Qty: 5}, {ID: 3, Price: 11, Qty: 2}, {ID: 4, Price: 11, Qty: 6}}
		makes(t, b, taker, 4, 1, fills...)
		taker.Self = 1
		makes(t, b, taker, 17, 3, fills[:1]...)
		fills[1].Gone = true
		taker.Self = 3
		makes(t, b, taker, 17, 3, fills[:2]...)
		fills[2].Gone = true
		// Any Self that is not named is like 2.
		for _, self := range []int{2, 4, 5, 255, 257, 1<<32 + 1, 1 << 32, -1, -2, -3, math.MinInt, math.MaxInt} {
			taker.Self = self
			makes(t, b, taker, 11, 1, fills...)
		}
	}
}

func TestP1401WholeOrdersAreRemoved(t *testing.T) {
	// The taker is smaller than the order that goes, and has all that it had afterwards.
	b := filled(t, buy(1, 4, 10, 500), buy(2, 5, 9, 2))
	gone := sweep.Fill{ID: 1, Price: 10, Qty: 500, Gone: true}
	makes(t, b, sweep.Taker{Side: 1, Owner: 4, Qty: 1, Band: all, Self: 2}, 0, 0, gone, sweep.Fill{ID: 2, Price: 9, Qty: 1})
	makes(t, b, sweep.Taker{Side: 1, Owner: 4, Qty: 1, Band: all, Self: 3}, 1, 3, gone)
	makes(t, b, sweep.Taker{Side: 1, Owner: 4, Limit: 10, Qty: 1, Band: all, Self: 2}, 1, 1, gone)
}

func TestP1401ABookThatIsFull(t *testing.T) {
	for side := range 2 {
		b := made(t, 500, 200)
		var want []sweep.Fill
		for n := range int64(500) {
			price := n % 200
			if side == 0 {
				price = -price
			}
			o := api.Order{ID: n, Side: 1 - side, Price: 1<<39 - price, Qty: api.MaxQty}
			if fault := b.Add(o); fault != api.OK {
				t.Fatalf("Add is fault %d", fault)
			}
		}
		for o := range b.Each(1 - side) {
			want = append(want, sweep.Fill{ID: o.ID, Price: o.Price, Qty: api.MaxQty})
		}
		makes(t, b, sweep.Taker{Side: side, Qty: math.MaxInt64, Band: all}, math.MaxInt64-500<<32, 1, want...)
		makes(t, b, sweep.Taker{Side: side, Qty: 500 << 32, Band: all}, 0, 0, want...)
		want[499].Qty--
		makes(t, b, sweep.Taker{Side: side, Qty: 500<<32 - 1, Band: all}, 0, 0, want...)
	}
}

// everyBook calls a function with the orders of each book of up to two orders that differ in what a plan looks at, each behind one order of the other side.
func everyBook(side int, visit func(orders []api.Order)) {
	var kinds []api.Order
	for price := range int64(3) {
		for qty := range int64(2) {
			for owner := range 2 {
				kinds = append(kinds, api.Order{Owner: owner, Side: side, Price: 1 + price, Qty: 1 + qty})
			}
		}
	}
	for n := range len(kinds) {
		for m := range len(kinds) + 1 {
			orders := []api.Order{{ID: 9, Side: 1 - side, Price: 2, Qty: 2}, kinds[n]}
			orders[1].ID = 1
			if m < len(kinds) {
				orders = append(orders, kinds[m])
				orders[2].ID = 2
			}
			visit(orders)
		}
	}
}

// everyTaker calls a function with the takers of a side that differ for such books.
func everyTaker(side int, visit func(taker sweep.Taker)) {
	bands := []api.Band{{Lo: 1, Hi: 3}, {Lo: 1, Hi: 2}, {Lo: 2, Hi: 3}, {Lo: 2, Hi: 2}, {Lo: 3, Hi: 1}, {Lo: 0, Hi: 9}}
	for _, band := range bands {
		for limit := int64(-1); limit <= 4; limit++ {
			for qty := int64(1); qty <= 5; qty++ {
				for self := -1; self <= 4; self++ {
					for owner := range 2 {
						visit(sweep.Taker{Side: side, Owner: owner, Limit: limit, Qty: qty, Band: band, Self: self})
					}
				}
			}
		}
	}
}

func TestP1401EverySmallBook(t *testing.T) {
	for side := range 2 {
		everyBook(1-side, func(orders []api.Order) {
			b := filled(t, orders...)
			other := sorted(orders, 1-side)
			everyTaker(side, func(taker sweep.Taker) {
				if got, want := sweep.Make(b, taker), planned(other, taker); !same(got, want) {
					t.Fatalf("with %v, Make for %v is %v, not %v", orders, taker, got, want)
				}
			})
			has(t, b, orders...)
		})
	}
}

func TestP1401PlansAreTheirOwn(t *testing.T) {
	b := example(t)
	one, other := sweep.Make(b, exampleTaker()), sweep.Make(b, exampleTaker())
	want := slices.Clone(other.Fills)
	whole := one.Fills[:cap(one.Fills)]
	for n := range whole {
		whole[n] = sweep.Fill{ID: 99, Price: 99, Qty: 99}
	}
	if !slices.Equal(other.Fills, want) {
		t.Errorf("the Fills of another plan become %v", other.Fills)
	}
	// What the book does later is not seen in a plan.
	sweep.Apply(b, other)
	if !slices.Equal(other.Fills, want) {
		t.Errorf("the Fills become %v after Apply", other.Fills)
	}
}

func TestP1402Examples(t *testing.T) {
	b := example(t)
	p := sweep.Make(b, exampleTaker())
	if got := sweep.Traded(p); got != 3 {
		t.Errorf("Traded is %d", got)
	}
	if fault := sweep.Apply(b, p); fault != api.OK {
		t.Errorf("Apply is fault %d", fault)
	}
	has(t, b, sell(3, 0, 12, 4))
	if fault := sweep.Apply(b, p); fault != api.Unknown {
		t.Errorf("Apply again is fault %d", fault)
	}
	has(t, b, sell(3, 0, 12, 4))
}

// applied is Apply of some Fills; what else a plan has does not matter to it.
func applied(t *testing.T, b *book.Book, want api.Fault, fills ...sweep.Fill) {
	t.Helper()
	plan := sweep.Plan{Fills: fills, Left: -7, Stop: 9}
	if got := sweep.Apply(b, plan); got != want {
		t.Errorf("Apply of %v is fault %d, not %d", fills, got, want)
	}
}

func TestP1402ApplyReducesAndRemoves(t *testing.T) {
	b := filled(t, sell(1, 0, 10, 3), sell(2, 0, 10, 5), buy(3, 0, 9, 4), buy(4, 0, 8, 4))
	applied(t, b, api.OK)
	has(t, b, sell(1, 0, 10, 3), sell(2, 0, 10, 5), buy(3, 0, 9, 4), buy(4, 0, 8, 4))
	applied(t, b, api.OK, sweep.Fill{ID: 1, Price: 10, Qty: 2})
	has(t, b, sell(1, 0, 10, 1), sell(2, 0, 10, 5), buy(3, 0, 9, 4), buy(4, 0, 8, 4))
	applied(t, b, api.OK, sweep.Fill{ID: 1, Price: 10, Qty: 1}, sweep.Fill{ID: 3, Price: 9, Qty: 4, Gone: true}, sweep.Fill{ID: 2, Price: 10, Qty: 1}, sweep.Fill{ID: 2, Price: 10, Qty: 3})
	has(t, b, sell(2, 0, 10, 1), buy(4, 0, 8, 4))
	// With Gone the order goes whole, whatever the Qty is; the Price is not looked at.
	for _, qty := range far() {
		b := filled(t, sell(1, 0, 10, 3), buy(2, 0, 8, 4))
		applied(t, b, api.OK, sweep.Fill{ID: 1, Price: qty, Qty: qty, Gone: true}, sweep.Fill{ID: 2, Price: qty, Qty: 1})
		has(t, b, buy(2, 0, 8, 3))
	}
}

func TestP1402ApplyStopsAtTheFirstFault(t *testing.T) {
	before := []api.Order{sell(1, 0, 10, 3), sell(2, 0, 11, 5)}
	first := sweep.Fill{ID: 1, Price: 10, Qty: 2}
	last := sweep.Fill{ID: 2, Price: 11, Qty: 5, Gone: true}
	unknown := sweep.Fill{ID: 3, Price: 10, Qty: 1}
	missing := sweep.Fill{ID: 3, Price: 10, Qty: 1, Gone: true}
	ranges := []sweep.Fill{}
	for _, qty := range []int64{math.MinInt64, -1, 0, 6, 1 << 40, math.MaxInt64} {
		ranges = append(ranges, sweep.Fill{ID: 2, Price: 11, Qty: qty})
	}
	for _, wrong := range append(ranges, unknown, missing) {
		want := api.Range
		if wrong.ID == 3 {
			want = api.Unknown
		}
		b := filled(t, before...)
		applied(t, b, want, wrong, first, last)
		has(t, b, before...)
		// What was done before remains.
		applied(t, b, want, first, wrong, last)
		has(t, b, sell(1, 0, 10, 1), sell(2, 0, 11, 5))
		// Nothing after it counts, neither what would go nor another fault.
		for _, other := range append(ranges, unknown, missing) {
			applied(t, b, want, wrong, other)
		}
		has(t, b, sell(1, 0, 10, 1), sell(2, 0, 11, 5))
	}
}

func TestP1402ApplyMeetsWhatIsGoneAlready(t *testing.T) {
	for _, goes := range []sweep.Fill{{ID: 1, Qty: 3}, {ID: 1, Qty: 3, Gone: true}} {
		for _, again := range []sweep.Fill{{ID: 1, Qty: 1}, {ID: 1, Qty: 0}, {ID: 1, Qty: 3, Gone: true}} {
			b := filled(t, sell(1, 0, 10, 3), sell(2, 0, 11, 5))
			applied(t, b, api.Unknown, goes, again, sweep.Fill{ID: 2, Qty: 1})
			has(t, b, sell(2, 0, 11, 5))
		}
	}
	// Its quantity is what the Fills before have left.
	b := filled(t, sell(1, 0, 10, 3))
	applied(t, b, api.Range, sweep.Fill{ID: 1, Qty: 2}, sweep.Fill{ID: 1, Qty: 2})
	has(t, b, sell(1, 0, 10, 1))
}

func TestP1402ApplyWithoutABook(t *testing.T) {
	reduces, removes := sweep.Fill{ID: 1, Qty: 1}, sweep.Fill{ID: 1, Qty: 1, Gone: true}
	applied(t, nil, api.OK)
	applied(t, nil, api.BadArg, reduces)
	applied(t, nil, api.BadArg, removes, reduces)
	applied(t, nil, api.BadArg, sweep.Fill{})
	applied(t, &book.Book{}, api.OK)
	applied(t, &book.Book{}, api.Unknown, reduces)
	applied(t, &book.Book{}, api.Unknown, removes)
}

func TestP1402ApplyAndTradedKeepThePlan(t *testing.T) {
	fills := []sweep.Fill{{ID: 1, Price: 10, Qty: 2}, {ID: 2, Price: 11, Qty: 5, Gone: true}, {ID: 3, Price: 12, Qty: 1}, {ID: 4, Price: 13, Qty: 6}}
	before := slices.Clone(fills)
	p := sweep.Plan{Fills: fills[:3], Left: 4, Stop: 1}
	b := example(t)
	if fault := sweep.Apply(b, p); fault != api.OK {
		t.Errorf("Apply is fault %d", fault)
	}
	if got := sweep.Traded(p); got != 3 {
		t.Errorf("Traded is %d", got)
	}
	if !slices.Equal(fills, before) {
		t.Errorf("the Fills become %v", fills)
	}
	has(t, b, sell(1, 0, 10, 1), sell(3, 0, 12, 3))
}

func TestP1402Traded(t *testing.T) {
	const most, least = math.MaxInt64, math.MinInt64
	for _, c := range []struct {
		qtys []int64
		want int64
	}{
		{nil, 0}, {[]int64{0}, 0}, {[]int64{5}, 5}, {[]int64{3, 4, 5}, 12}, {[]int64{-3}, -3}, {[]int64{5, -9}, -4}, {[]int64{5, -6}, -1}, {[]int64{-1}, -1},
		{[]int64{most}, most}, {[]int64{most - 1, 1}, most}, {[]int64{1, most - 1}, most}, {[]int64{most, 0}, most}, {[]int64{least}, least}, {[]int64{least + 1, -1}, least}, {[]int64{least, most, 1}, 0},
		{[]int64{most, 1}, -1}, {[]int64{1, most}, -1}, {[]int64{most, most}, -1}, {[]int64{most, most, 2}, -1}, {[]int64{least, -1}, -1}, {[]int64{least, least}, -1},
		// In between, though the whole would be one.
		{[]int64{most, 1, -5}, -1}, {[]int64{least, -1, 5}, -1}, {[]int64{most, -5, 1}, most - 4}, {[]int64{least, 5, -1}, least + 4}, {[]int64{1 << 62, 1 << 62, -1}, -1}, {[]int64{1 << 62, -1, 1 << 62}, most},
	} {
		var p sweep.Plan
		for _, qty := range c.qtys {
			p.Fills = append(p.Fills, sweep.Fill{Qty: qty})
		}
		if got := sweep.Traded(p); got != c.want {
			t.Errorf("Traded of %v is %d, not %d", c.qtys, got, c.want)
		}
		// Those with Gone do not count, nor what is left.
		for n := range len(p.Fills) + 1 {
			for _, qty := range far() {
				with := sweep.Plan{Fills: slices.Insert(slices.Clone(p.Fills), n, sweep.Fill{ID: 1, Price: 2, Qty: qty, Gone: true}), Left: qty, Stop: 2}
				if got := sweep.Traded(with); got != c.want {
					t.Errorf("Traded of %v with one that is Gone is %d, not %d", c.qtys, got, c.want)
				}
			}
		}
	}
}

func TestP1402Reaches(t *testing.T) {
	b := filled(t, sell(1, 0, 13, 1), sell(2, 0, 12, 1), buy(3, 0, 9, 1), buy(4, 0, 10, 1))
	for _, c := range []struct {
		limit     int64
		buy, sell bool
	}{
		{math.MinInt64, false, true}, {-11, false, true}, {-1, false, true}, {0, true, true}, {1, false, true}, {9, false, true}, {10, false, true}, {11, false, false}, {12, true, false}, {13, true, false}, {14, true, false},
		{api.MaxPrice, true, false}, {api.MaxPrice + 1, true, false}, {math.MaxInt64, true, false},
	} {
		for side, want := range []bool{c.buy, c.sell} {
			if got := sweep.Reaches(b, side, c.limit); got != want {
				t.Errorf("Reaches(%d, %d) is %t", side, c.limit, got)
			}
		}
	}
	has(t, b, sell(1, 0, 13, 1), sell(2, 0, 12, 1), buy(3, 0, 9, 1), buy(4, 0, 10, 1))
}

func TestP1402ReachesNothing(t *testing.T) {
	full := filled(t, sell(1, 0, 13, 1), buy(2, 0, 10, 1))
	for _, limit := range append(far(), 10, 13) {
		for side := range 2 {
			for _, b := range []*book.Book{nil, {}, filled(t), filled(t, api.Order{ID: 1, Side: side, Price: 10, Qty: 1})} {
				if sweep.Reaches(b, side, limit) {
					t.Errorf("Reaches(%d, %d) is true", side, limit)
				}
			}
		}
		for _, side := range noSides() {
			for _, b := range []*book.Book{nil, {}, full} {
				if sweep.Reaches(b, side, limit) {
					t.Errorf("Reaches(%d, %d) is true", side, limit)
				}
			}
		}
	}
}

func TestP1402ReachesWhatAPlanTradesWith(t *testing.T) {
	for side := range 2 {
		everyBook(1-side, func(orders []api.Order) {
			b := filled(t, orders...)
			for limit := int64(-1); limit <= 4; limit++ {
				plan := sweep.Make(b, sweep.Taker{Side: side, Limit: limit, Qty: 1, Band: all})
				if got, want := sweep.Reaches(b, side, limit), len(plan.Fills) > 0; got != want {
					t.Fatalf("with %v, Reaches(%d, %d) is %t", orders, side, limit, got)
				}
			}
		})
	}
}

// kept fails the test where a plan is not what the section "Consequences" says of it.
func kept(t *testing.T, taker sweep.Taker, p sweep.Plan) {
	t.Helper()
	traded := sweep.Traded(p)
	if traded < 0 || p.Left < 0 || traded+p.Left != taker.Qty || (p.Left == 0) != (p.Stop == 0) {
		t.Fatalf("for %v, %d is traded and %d left, with Stop %d", taker, traded, p.Left, p.Stop)
	}
	for _, f := range p.Fills {
		if f.Qty < 1 || f.Price < taker.Band.Lo || f.Price > taker.Band.Hi {
			t.Fatalf("for %v there is the Fill %v", taker, f)
		}
		if taker.Limit != 0 && (taker.Side == 0 && f.Price > taker.Limit || taker.Side == 1 && f.Price < taker.Limit) {
			t.Fatalf("for %v there is the Fill %v", taker, f)
		}
	}
}

// again fails the test where a taker that comes again with what is left finds more to do in the book; with Self 3 it meets what comes behind the order that is gone.
func again(t *testing.T, b *book.Book, taker sweep.Taker, p sweep.Plan) {
	t.Helper()
	if p.Left == 0 || p.Stop == 3 && taker.Self == 3 {
		return
	}
	taker.Qty = p.Left
	if next := sweep.Make(b, taker); len(next.Fills) > 0 || next.Left != p.Left || next.Stop != p.Stop {
		t.Fatalf("after %v there is %v for %v", p, next, taker)
	}
}

func TestP1403EverySmallBook(t *testing.T) {
	for side := range 2 {
		everyBook(1-side, func(orders []api.Order) {
			everyTaker(side, func(taker sweep.Taker) {
				// TestP1401EverySmallBook has the other takers, whose plans are like these: here they would only take longer.
				if taker.Self < 0 || taker.Self > 3 || taker.Limit < 0 || taker.Qty > 4 {
					return
				}
				b := filled(t, orders...)
				p := sweep.Make(b, taker)
				kept(t, taker, p)
				applied(t, b, api.OK, p.Fills...)
				has(t, b, left(orders, p.Fills)...)
				again(t, b, taker, p)
			})
		})
	}
}

func TestP1403LongBooks(t *testing.T) {
	var d dice
	stops := [4]int{}
	for range 60 {
		b := made(t, 500, 200)
		var orders []api.Order
		owners, prices := 1+d.below(6), 2+d.below(60)
		for id := range int64(600) {
			if o := d.order(id, owners, prices); b.Add(o) == api.OK {
				orders = append(orders, o)
			}
			if id%4 != 0 || id < 100 {
				continue
			}
			taker := d.taker(owners, prices)
			p := sweep.Make(b, taker)
			if want := planned(sorted(orders, 1-taker.Side), taker); !same(p, want) {
				t.Fatalf("with %v, Make for %v is %v, not %v", orders, taker, p, want)
			}
			has(t, b, orders...)
			kept(t, taker, p)
			applied(t, b, api.OK, p.Fills...)
			orders = left(orders, p.Fills)
			has(t, b, orders...)
			again(t, b, taker, p)
			stops[p.Stop]++
		}
	}
	if slices.Min(stops[:]) < 500 {
		t.Errorf("the plans end by their Stops %v times", stops)
	}
}
