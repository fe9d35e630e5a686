package curve_test

import (
	"math"
	"slices"
	"testing"

	"damper/api"
	"damper/book"
	"damper/curve"
)

// dice gives numbers that look like nothing, the same ones at every run.
type dice uint64

func (d *dice) next() uint64 {
	*d += 0x9e3779b97f4a7c15
	z := uint64(*d)
	z = (z ^ z>>30) * 0xbf58476d1ce4e5b9
	z = (z ^ z>>27) * 0x94d049bb133111eb
	return z ^ z>>31
}

func (d *dice) below(n int) int {
	return int(d.next() % uint64(n))
}

func buy(id, price, qty int64) api.Order {
	return api.Order{ID: id, Side: 0, Price: price, Qty: qty}
}

func sell(id, price, qty int64) api.Order {
	return api.Order{ID: id, Side: 1, Price: price, Qty: qty}
}

// made is a book without orders.
func made(t *testing.T, slots, levels int) *book.Book {
	t.Helper()
	b, fault := book.New(slots, levels)
	if fault != api.OK {
		t.Fatalf("New is fault %d", fault)
	}
	return b
}

// filled is a book with some orders, all of which it takes.
func filled(t *testing.T, orders ...api.Order) *book.Book {
	t.Helper()
	b := made(t, 500, 200)
	for _, o := range orders {
		if fault := b.Add(o); fault != api.OK {
			t.Fatalf("Add of %v is fault %d", o, fault)
		}
	}
	return b
}

// example is the book of the chapter's examples.
func example(t *testing.T) *book.Book {
	t.Helper()
	return filled(t, buy(1, 10, 3), buy(2, 12, 2), sell(3, 9, 4), sell(4, 12, 1))
}

// orders are those of a book, of both sides.
func orders(b *book.Book) []api.Order {
	return slices.Concat(slices.Collect(b.Each(0)), slices.Collect(b.Each(1)))
}

// pointOf is the point of a price for some orders, by the words of the section "Definitions".
func pointOf(orders []api.Order, price int64) curve.Point {
	p := curve.Point{Price: price}
	for _, o := range orders {
		if o.Side == 0 && o.Price >= price {
			p.Demand += o.Qty
		}
		if o.Side == 1 && o.Price <= price {
			p.Supply += o.Qty
		}
	}
	return p
}

// pricesOf are the prices that some orders have, in ascending order, each once.
func pricesOf(orders []api.Order) []int64 {
	var prices []int64
	for _, o := range orders {
		prices = append(prices, o.Price)
	}
	slices.Sort(prices)
	return slices.Compact(prices)
}

// pointsOf are the points of the prices that some orders have.
func pointsOf(orders []api.Order) []curve.Point {
	var points []curve.Point
	for _, price := range pricesOf(orders) {
		points = append(points, pointOf(orders, price))
	}
	return points
}

// far are numbers at and beyond the ends of what a price or a quantity can be.
func far() []int64 {
	return []int64{math.MinInt64, math.MinInt64 + 1, -1 << 40, -2, -1, 0, 1, 2, 1 << 32, 1<<32 + 1, 1<<40 - 1, 1 << 40, 1<<40 + 1, math.MaxInt64 - 1, math.MaxInt64}
}

// around are the prices of some orders, those next to them, and those at and beyond the ends.
func around(orders []api.Order) []int64 {
	list := far()
	for _, price := range pricesOf(orders) {
		list = append(list, price-1, price, price+1)
	}
	slices.Sort(list)
	return slices.Compact(list)
}

// yields fails the test where a curve has other points.
func yields(t *testing.T, c *curve.Curve, want ...curve.Point) {
	t.Helper()
	if got := slices.Collect(c.Points()); !slices.Equal(got, want) {
		t.Fatalf("Points yields %v, not %v", got, want)
	}
}

// prices fails the test where a curve has other prices from lo to hi.
func prices(t *testing.T, c *curve.Curve, lo, hi int64, want ...int64) {
	t.Helper()
	if got := c.Prices(lo, hi); !slices.Equal(got, want) {
		t.Fatalf("Prices(%d, %d) is %v, not %v", lo, hi, got, want)
	}
}

// at fails the test where a curve has another point at a price.
func at(t *testing.T, c *curve.Curve, want curve.Point) {
	t.Helper()
	if got := c.At(want.Price); got != want {
		t.Fatalf("At(%d) is %v, not %v", want.Price, got, want)
	}
}

// holds fails the test where a curve is not that of a book with these orders.
func holds(t *testing.T, c *curve.Curve, orders []api.Order) {
	t.Helper()
	yields(t, c, pointsOf(orders)...)
	prices(t, c, math.MinInt64, math.MaxInt64, pricesOf(orders)...)
	for _, price := range around(orders) {
		at(t, c, pointOf(orders, price))
	}
}

// cuts fails the test where Prices is not those of the prices that are from lo to hi, for all ends at and next to them.
func cuts(t *testing.T, c *curve.Curve, orders []api.Order) {
	t.Helper()
	all, ends := pricesOf(orders), around(orders)
	for _, lo := range ends {
		for _, hi := range ends {
			var want []int64
			for _, price := range all {
				if lo <= price && price <= hi {
					want = append(want, price)
				}
			}
			prices(t, c, lo, hi, want...)
		}
	}
}

// everyBook visits each list of up to three orders of few sides, prices and quantities.
func everyBook(visit func([]api.Order)) {
	var grow func([]api.Order)
	grow = func(list []api.Order) {
		visit(list)
		if len(list) == 3 {
			return
		}
		for side := range 2 {
			for price := int64(1); price <= 4; price++ {
				for qty := int64(1); qty <= 2; qty++ {
					o := api.Order{ID: int64(len(list)), Side: side, Price: price, Qty: qty}
					grow(append(slices.Clone(list), o))
				}
			}
		}
	}
	grow(nil)
}

func TestP1601Examples(t *testing.T) {
	c := curve.Of(example(t))
	yields(t, c, curve.Point{Price: 9, Demand: 5, Supply: 4}, curve.Point{Price: 10, Demand: 5, Supply: 4}, curve.Point{Price: 12, Demand: 2, Supply: 5})
	prices(t, c, 10, 12, 10, 12)
	c = curve.Of(filled(t, buy(1, 10, 3), sell(2, 9, 2)))
	yields(t, c, curve.Point{Price: 9, Demand: 3, Supply: 2}, curve.Point{Price: 10, Demand: 3, Supply: 2})
}

func TestP1601EverySmallBook(t *testing.T) {
	everyBook(func(list []api.Order) {
		b := filled(t, list...)
		before := orders(b)
		c := curve.Of(b)
		yields(t, c, pointsOf(list)...)
		for lo := int64(0); lo <= 5; lo++ {
			for hi := int64(0); hi <= 5; hi++ {
				want := slices.DeleteFunc(pricesOf(list), func(price int64) bool { return price < lo || price > hi })
				prices(t, c, lo, hi, want...)
			}
		}
		if got := orders(b); !slices.Equal(got, before) {
			t.Fatalf("Of changes the orders %v to %v", before, got)
		}
	})
}

func TestP1601OneSide(t *testing.T) {
	c := curve.Of(filled(t, buy(1, 10, 3), buy(2, 12, 2), buy(3, 7, 4)))
	yields(t, c, curve.Point{Price: 7, Demand: 9}, curve.Point{Price: 10, Demand: 5}, curve.Point{Price: 12, Demand: 2})
	c = curve.Of(filled(t, sell(1, 10, 3), sell(2, 12, 2), sell(3, 7, 4)))
	yields(t, c, curve.Point{Price: 7, Supply: 4}, curve.Point{Price: 10, Supply: 7}, curve.Point{Price: 12, Supply: 9})
}

func TestP1601OneOrder(t *testing.T) {
	for _, price := range []int64{1, 2, 1000, api.MaxPrice - 1, api.MaxPrice} {
		for _, qty := range []int64{1, 2, api.MaxQty - 1, api.MaxQty} {
			c := curve.Of(filled(t, buy(1, price, qty)))
			yields(t, c, curve.Point{Price: price, Demand: qty})
			c = curve.Of(filled(t, sell(1, price, qty)))
			yields(t, c, curve.Point{Price: price, Supply: qty})
			c = curve.Of(filled(t, sell(1, price, qty), buy(2, price, 7)))
			yields(t, c, curve.Point{Price: price, Demand: 7, Supply: qty})
		}
	}
}

func TestP1601ThePriceAndTheSideAlone(t *testing.T) {
	list := []api.Order{
		{ID: math.MaxInt64, Owner: 7, Side: 0, Price: 10, Qty: 1, Flags: 7, Seq: 9},
		{ID: math.MinInt64, Owner: 7, Side: 1, Price: 10, Qty: 20, Flags: 1, Seq: -9},
		{ID: 0, Owner: -7, Side: 0, Price: 10, Qty: 300, Flags: -1, Seq: math.MinInt64},
		{ID: -1, Owner: math.MaxInt, Side: 1, Price: 10, Qty: 4000, Seq: math.MaxInt64},
	}
	yields(t, curve.Of(filled(t, list...)), curve.Point{Price: 10, Demand: 301, Supply: 4020})
}

func TestP1601WithoutABook(t *testing.T) {
	for n, c := range []*curve.Curve{nil, {}, curve.Of(nil), curve.Of(&book.Book{}), curve.Of(made(t, 1, 1))} {
		for p := range c.Points() {
			t.Errorf("the curve %d has the point %v", n, p)
		}
		for _, lo := range far() {
			for _, hi := range far() {
				prices(t, c, lo, hi)
			}
		}
	}
	// A book that has no orders any more is one without orders.
	b := filled(t, buy(1, 10, 3), sell(2, 9, 2))
	b.Remove(1)
	b.Reduce(2, 2)
	yields(t, curve.Of(b))
}

func TestP1601TheBookAsItIs(t *testing.T) {
	b := filled(t, buy(1, 10, 5), sell(2, 12, 5), buy(3, 11, 1))
	first := curve.Of(b)
	was := orders(b)
	points := first.Points()
	b.Reduce(1, 2)
	b.Reduce(2, 1)
	b.Remove(3)
	b.Add(buy(4, 9, 6))
	b.Add(sell(5, 12, 7))
	b.Add(sell(6, 14, 8))
	// What is left of an order counts, and nothing of one that is gone.
	second := curve.Of(b)
	yields(t, second, curve.Point{Price: 9, Demand: 9}, curve.Point{Price: 10, Demand: 3}, curve.Point{Price: 12, Supply: 11}, curve.Point{Price: 14, Supply: 19})
	// The changes have no effect on the curve that was there before, nor on its points.
	holds(t, first, was)
	if got := slices.Collect(points); !slices.Equal(got, pointsOf(was)) {
		t.Errorf("the points become %v", got)
	}
	now := orders(b)
	for _, o := range now {
		b.Remove(o.ID)
	}
	holds(t, first, was)
	holds(t, second, now)
}

func TestP1601TheBookChangesMeanwhile(t *testing.T) {
	b := example(t)
	was := orders(b)
	c := curve.Of(b)
	var got []curve.Point
	for p := range c.Points() {
		got = append(got, p)
		b.Remove(4)
		b.Reduce(1, 1)
		b.Add(sell(int64(100+len(got)), 11, 1))
	}
	if !slices.Equal(got, pointsOf(was)) {
		t.Errorf("Points yields %v, not %v", got, pointsOf(was))
	}
}

func TestP1601TheConsumerStops(t *testing.T) {
	c := curve.Of(example(t))
	all := slices.Collect(c.Points())
	for n := 1; n <= len(all); n++ {
		var got []curve.Point
		c.Points()(func(p curve.Point) bool {
			got = append(got, p)
			return len(got) < n
		})
		if !slices.Equal(got, all[:n]) {
			t.Errorf("to a consumer of %d, Points yields %v", n, got)
		}
	}
}

func TestP1601PointsAgain(t *testing.T) {
	c := curve.Of(example(t))
	points := c.Points()
	want := slices.Collect(points)
	for p := range points {
		// Ranges within each other do not meet.
		if got := slices.Collect(points); !slices.Equal(got, want) {
			t.Errorf("at %v, Points yields %v", p, got)
		}
		for range points {
			break
		}
	}
	if got := slices.Collect(points); !slices.Equal(got, want) {
		t.Errorf("the second time, Points yields %v", got)
	}
}

func TestP1601PricesAtAndAroundTheEnds(t *testing.T) {
	c := curve.Of(example(t))
	for _, x := range []struct {
		lo, hi int64
		want   []int64
	}{
		{9, 12, []int64{9, 10, 12}}, {8, 13, []int64{9, 10, 12}}, {9, 9, []int64{9}}, {12, 12, []int64{12}}, {9, 11, []int64{9, 10}}, {10, 11, []int64{10}}, {11, 12, []int64{12}}, {11, 20, []int64{12}}, {-5, 10, []int64{9, 10}},
		{11, 11, nil}, {13, 20, nil}, {1, 8, nil}, {12, 9, nil}, {10, 9, nil}, {11, 10, nil}, {0, 0, nil}, {-12, -9, nil},
		{math.MinInt64, math.MaxInt64, []int64{9, 10, 12}}, {math.MaxInt64, math.MinInt64, nil}, {math.MinInt64, 9, []int64{9}}, {12, math.MaxInt64, []int64{12}}, {math.MinInt64, math.MinInt64, nil}, {math.MaxInt64, math.MaxInt64, nil},
	} {
		prices(t, c, x.lo, x.hi, x.want...)
	}
	list := []api.Order{buy(1, 1, 1), sell(2, api.MaxPrice, 1), buy(3, api.MaxPrice, 1), sell(4, 1, 1), buy(5, 2, 1), sell(6, api.MaxPrice-1, 1)}
	cuts(t, curve.Of(filled(t, list...)), list)
}

func TestP1601PricesAreNewMemory(t *testing.T) {
	b := example(t)
	c := curve.Of(b)
	first := c.Prices(1, 100)
	second := c.Prices(1, 100)
	for n := range first {
		first[n] = -1
	}
	_ = append(first[:1], -2, -3, -4)
	if want := []int64{9, 10, 12}; !slices.Equal(second, want) {
		t.Errorf("the second Prices become %v", second)
	}
	holds(t, c, orders(b))
}

func TestP1602Examples(t *testing.T) {
	c := curve.Of(example(t))
	at(t, c, curve.Point{Price: 11, Demand: 2, Supply: 4})
	at(t, c, curve.Point{Price: 13, Supply: 5})
	p := curve.Point{Price: 10, Demand: 5, Supply: 4}
	at(t, c, p)
	if volume, odds := curve.Volume(p), curve.Odds(p); volume != 4 || odds != 1 {
		t.Errorf("of %v Volume is %d and Odds is %d", p, volume, odds)
	}
	c = curve.Of(filled(t, buy(1, 10, 3), sell(2, 9, 2)))
	at(t, c, curve.Point{Price: 9, Demand: 3, Supply: 2})
	at(t, c, curve.Point{Price: 10, Demand: 3, Supply: 2})
}

func TestP1602AtAroundThePrices(t *testing.T) {
	c := curve.Of(example(t))
	for _, p := range []curve.Point{
		{Price: math.MinInt64, Demand: 5}, {Price: -10, Demand: 5}, {Price: -1, Demand: 5}, {Price: 0, Demand: 5}, {Price: 1, Demand: 5}, {Price: 8, Demand: 5},
		{Price: 9, Demand: 5, Supply: 4}, {Price: 10, Demand: 5, Supply: 4}, {Price: 11, Demand: 2, Supply: 4}, {Price: 12, Demand: 2, Supply: 5},
		{Price: 13, Supply: 5}, {Price: api.MaxPrice, Supply: 5}, {Price: api.MaxPrice + 1, Supply: 5}, {Price: math.MaxInt64, Supply: 5},
	} {
		at(t, c, p)
	}
}

func TestP1602AtEverySmallBook(t *testing.T) {
	everyBook(func(list []api.Order) {
		c := curve.Of(filled(t, list...))
		for price := int64(-1); price <= 6; price++ {
			at(t, c, pointOf(list, price))
		}
	})
}

func TestP1602AtWithoutABook(t *testing.T) {
	for _, c := range []*curve.Curve{nil, {}, curve.Of(nil), curve.Of(&book.Book{}), curve.Of(made(t, 1, 1))} {
		for _, price := range far() {
			at(t, c, curve.Point{Price: price})
		}
	}
}

func TestP1602VolumeAndOdds(t *testing.T) {
	const most, least = math.MaxInt64, math.MinInt64
	for _, x := range []struct{ a, b, volume, odds int64 }{
		{0, 0, 0, 0}, {1, 0, 0, 1}, {5, 4, 4, 1}, {4, 4, 4, 0}, {2, 9, 2, 7}, {1 << 41, 1, 1, 1<<41 - 1}, {1 << 41, 1 << 41, 1 << 41, 0},
		{most, 0, 0, most}, {most, most, most, 0}, {most, most - 1, most - 1, 1}, {most, 1, 1, most - 1},
		{-1, -1, -1, 0}, {-1, 0, -1, 1}, {-3, 4, -3, 7}, {-2, -9, -9, 7}, {least, least, least, 0}, {least, least + 1, least, 1}, {least, -1, least, most}, {-1, most - 1, -1, most}, {-1 << 62, 1<<62 - 1, -1 << 62, most},
		// More than an int64 can tell.
		{least, 0, least, most}, {least, 1, least, most}, {least, most, least, most}, {-1, most, -1, most}, {-1 << 62, 1 << 62, -1 << 62, most},
	} {
		for _, price := range far() {
			for _, p := range []curve.Point{{Price: price, Demand: x.a, Supply: x.b}, {Price: price, Demand: x.b, Supply: x.a}} {
				if got := curve.Volume(p); got != x.volume {
					t.Errorf("Volume of %v is %d, not %d", p, got, x.volume)
				}
				if got := curve.Odds(p); got != x.odds {
					t.Errorf("Odds of %v is %d, not %d", p, got, x.odds)
				}
			}
		}
	}
}

func TestP1602VolumeAndOddsOfABook(t *testing.T) {
	everyBook(func(list []api.Order) {
		c := curve.Of(filled(t, list...))
		for price := int64(0); price <= 5; price++ {
			p := pointOf(list, price)
			few, many := p.Demand, p.Supply
			if few > many {
				few, many = many, few
			}
			if volume, odds := curve.Volume(c.At(price)), curve.Odds(c.At(price)); volume != few || odds != many-few {
				t.Fatalf("with %v, at %d Volume is %d and Odds is %d", list, price, volume, odds)
			}
		}
	})
}

// steady fails the test where Demand rises with the price, or Supply falls, or one of them is more than there is.
func steady(t *testing.T, points []curve.Point, orders []api.Order) {
	t.Helper()
	ends := curve.Point{Demand: pointOf(orders, math.MinInt64).Demand, Supply: pointOf(orders, math.MaxInt64).Supply}
	last := curve.Point{Price: math.MinInt64, Demand: ends.Demand}
	for n, p := range points {
		if n > 0 && p.Price <= last.Price {
			t.Fatalf("%v comes after %v", p, last)
		}
		if p.Demand > last.Demand || p.Supply < last.Supply || p.Demand < 0 || p.Supply > ends.Supply {
			t.Fatalf("%v comes after %v, of %v in all", p, last, ends)
		}
		last = p
	}
}

func TestP1603EverySmallBook(t *testing.T) {
	everyBook(func(list []api.Order) {
		c := curve.Of(filled(t, list...))
		steady(t, slices.Collect(c.Points()), list)
		var points []curve.Point
		for price := int64(-1); price <= 6; price++ {
			points = append(points, c.At(price))
		}
		steady(t, points, list)
	})
}

func TestP1603LongBooks(t *testing.T) {
	var d dice
	for range 40 {
		b := made(t, 500, 200)
		low, span := int64(1+d.below(1000)), 1+d.below(300)
		for id := range int64(700) {
			o := api.Order{ID: id, Owner: d.below(4), Side: d.below(2), Price: low + int64(d.below(span)), Qty: int64(1 + d.below(1<<32)), Flags: d.below(8), Seq: id}
			b.Add(o)
			switch d.below(4) {
			case 0:
				b.Remove(int64(d.below(int(id) + 1)))
			case 1:
				b.Reduce(int64(d.below(int(id)+1)), int64(1+d.below(1<<31)))
			}
			if id%100 != 99 {
				continue
			}
			list := orders(b)
			c := curve.Of(b)
			holds(t, c, list)
			steady(t, slices.Collect(c.Points()), list)
			var points []curve.Point
			for _, price := range around(list) {
				points = append(points, c.At(price))
			}
			steady(t, points, list)
			if got := orders(b); !slices.Equal(got, list) {
				t.Fatalf("Of changes the orders %v to %v", list, got)
			}
		}
	}
}

func TestP1603FullBooks(t *testing.T) {
	// As many prices as both sides can have, those of one side above, below and between those of the other, and each order as great as it can be.
	for _, x := range []struct{ buys, sells, step int64 }{
		{1, 1, 1}, {1, 2, 2}, {2, 1, 2}, {1, 201, 1}, {201, 1, 1}, {1, 101, 1}, {api.MaxPrice - 199, api.MaxPrice - 199, 1}, {1, api.MaxPrice - 199, 1}, {1, 1, 1 << 32},
	} {
		b := made(t, 500, 200)
		for n := range int64(200) {
			b.Add(buy(2*n, x.buys+n*x.step, api.MaxQty))
			b.Add(sell(2*n+1, x.sells+n*x.step, api.MaxQty))
		}
		for n := range int64(50) {
			b.Add(buy(1000+n, x.buys+x.step, api.MaxQty))
			b.Add(sell(2000+n, x.sells, api.MaxQty))
		}
		list := orders(b)
		if len(list) != 500 {
			t.Fatalf("for %v the book has %d orders", x, len(list))
		}
		c := curve.Of(b)
		holds(t, c, list)
		steady(t, slices.Collect(c.Points()), list)
	}
}

func TestP1603OneLongLevel(t *testing.T) {
	b := made(t, 500, 1)
	for n := range int64(500) {
		b.Add(buy(n, 77, api.MaxQty))
	}
	yields(t, curve.Of(b), curve.Point{Price: 77, Demand: 500 << 32})
}

func TestP1603TheSameEachTime(t *testing.T) {
	var list []api.Order
	for n := range int64(50) {
		list = append(list, api.Order{ID: n, Side: int(n % 2), Price: 1 + n*37%50, Qty: 1 + n})
	}
	b := filled(t, list...)
	want := pointsOf(list)
	for range 200 {
		yields(t, curve.Of(b), want...)
	}
}
