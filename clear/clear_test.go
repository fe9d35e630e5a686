package clear_test

import (
	"math"
	"math/big"
	"slices"
	"testing"

	"damper/api"
	"damper/book"
	"damper/clear"
)

// dice gives numbers that look like nothing, the same ones at every run.
type dice uint64

func (d *dice) next() uint64 {
	*d += 0x9e3779b97f4a7c15
	z := uint64(*d)
	z = (z ^ z>>30) * 0xbf58476d1ce4e5b9
	z = (z ^ z>>27) * 0x94d049bb133111eb
	return z ^ z>>31
}

func (d *dice) below(n int) int {
	return int(d.next() % uint64(n))
}

const (
	most  = math.MaxInt64
	least = math.MinInt64
)

// all is the band of Free.
func all() api.Band {
	return api.Band{Lo: 1, Hi: api.MaxPrice}
}

func buy(id, price, qty int64) api.Order {
	return api.Order{ID: id, Side: 0, Price: price, Qty: qty}
}

func sell(id, price, qty int64) api.Order {
	return api.Order{ID: id, Side: 1, Price: price, Qty: qty}
}

// made is a book without orders.
func made(t *testing.T, slots, levels int) *book.Book {
	t.Helper()
	b, fault := book.New(slots, levels)
	if fault != api.OK {
		t.Fatalf("New is fault %d", fault)
	}
	return b
}

// filled is a book with some orders, all of which it takes.
func filled(t *testing.T, orders ...api.Order) *book.Book {
	t.Helper()
	b := made(t, 500, 200)
	for _, o := range orders {
		if fault := b.Add(o); fault != api.OK {
			t.Fatalf("Add of %v is fault %d", o, fault)
		}
	}
	return b
}

// example is the book of the chapter's examples.
func example(t *testing.T) *book.Book {
	t.Helper()
	return filled(t, buy(1, 10, 3), buy(2, 12, 2), sell(3, 9, 4))
}

// orders are those of a book, of both sides.
func orders(b *book.Book) []api.Order {
	return slices.Concat(slices.Collect(b.Each(0)), slices.Collect(b.Each(1)))
}

// priceOf is a price with its Volume and Odds for some orders, by the words of chapter 16.
func priceOf(orders []api.Order, price int64) clear.Price {
	var demand, supply int64
	for _, o := range orders {
		if o.Side == 0 && o.Price >= price {
			demand += o.Qty
		}
		if o.Side == 1 && o.Price <= price {
			supply += o.Qty
		}
	}
	if demand < supply {
		return clear.Price{Price: price, Volume: demand, Odds: supply - demand}
	}
	return clear.Price{Price: price, Volume: supply, Odds: demand - supply}
}

// reduced is a band without the prices that are none, and whether anything is left of it.
func reduced(band api.Band) (api.Band, bool) {
	if band.Lo < 1 {
		band.Lo = 1
	}
	if band.Hi > api.MaxPrice {
		band.Hi = api.MaxPrice
	}
	return band, band.Lo <= band.Hi
}

// allowedOf are the allowed prices, by the words of the section "Definitions".
func allowedOf(orders []api.Order, ref int64, band api.Band) []int64 {
	band, ok := reduced(band)
	if !ok {
		return nil
	}
	var list []int64
	for _, o := range orders {
		if band.Lo <= o.Price && o.Price <= band.Hi {
			list = append(list, o.Price)
		}
	}
	switch {
	case ref < band.Lo:
		list = append(list, band.Lo)
	case ref > band.Hi:
		list = append(list, band.Hi)
	default:
		list = append(list, ref)
	}
	slices.Sort(list)
	return slices.Compact(list)
}

// away is how far two numbers are from each other, whatever they are.
func away(a, b int64) *big.Int {
	d := new(big.Int).Sub(big.NewInt(a), big.NewInt(b))
	return d.Abs(d)
}

// before tells whether a price comes before another one, by the words of the section "Definitions".
func before(a, b clear.Price, ref int64) bool {
	if a.Volume != b.Volume {
		return a.Volume > b.Volume
	}
	if a.Odds != b.Odds {
		return a.Odds < b.Odds
	}
	if far := away(a.Price, ref).Cmp(away(b.Price, ref)); far != 0 {
		return far < 0
	}
	return a.Price < b.Price
}

// chosen is the allowed price that comes before all others, and whether it has a Volume.
func chosen(orders []api.Order, ref int64, band api.Band) (clear.Price, bool) {
	list := allowedOf(orders, ref, band)
	for _, price := range list {
		p := priceOf(orders, price)
		first := !slices.ContainsFunc(list, func(other int64) bool { return other != price && !before(p, priceOf(orders, other), ref) })
		if first && p.Volume > 0 {
			return p, true
		}
	}
	return clear.Price{}, false
}

// allows fails the test where other prices are allowed.
func allows(t *testing.T, b *book.Book, ref int64, band api.Band, want ...int64) {
	t.Helper()
	if got := clear.Allowed(b, ref, band); !slices.Equal(got, want) {
		t.Fatalf("with %v, ref %d and the band %v, Allowed is %v, not %v", orders(b), ref, band, got, want)
	}
}

// chooses fails the test where Choose has another result.
func chooses(t *testing.T, b *book.Book, ref int64, band api.Band, want clear.Price, ok bool) {
	t.Helper()
	if got, is := clear.Choose(b, ref, band); got != want || is != ok {
		t.Fatalf("with %v, ref %d and the band %v, Choose is %v and %t, not %v and %t", orders(b), ref, band, got, is, want, ok)
	}
}

// frees fails the test where Free has another result.
func frees(t *testing.T, b *book.Book, ref int64, want clear.Price, ok bool) {
	t.Helper()
	if got, is := clear.Free(b, ref); got != want || is != ok {
		t.Fatalf("with %v and ref %d, Free is %v and %t, not %v and %t", orders(b), ref, got, is, want, ok)
	}
}

// holds fails the test where a function of a book with these orders says anything else than the chapter.
func holds(t *testing.T, b *book.Book, orders []api.Order, ref int64, band api.Band) {
	t.Helper()
	allows(t, b, ref, band, allowedOf(orders, ref, band)...)
	want, ok := chosen(orders, ref, band)
	chooses(t, b, ref, band, want, ok)
	want, ok = chosen(orders, ref, all())
	frees(t, b, ref, want, ok)
}

// same fails the test where the orders of a book are not those that it had.
func same(t *testing.T, b *book.Book, was []api.Order) {
	t.Helper()
	if got := orders(b); !slices.Equal(got, was) {
		t.Fatalf("the orders %v are changed to %v", was, got)
	}
}

// noBooks are books without orders, of which only the first one is nil.
func noBooks(t *testing.T) []*book.Book {
	t.Helper()
	b := example(t)
	b.Remove(1)
	b.Remove(2)
	b.Reduce(3, 4)
	return []*book.Book{nil, {}, made(t, 1, 1), b}
}

// far are numbers at and beyond the ends of what a price can be.
func far() []int64 {
	return []int64{least, least + 1, -1 << 62, -1 << 40, -2, -1, 0, 1, 2, 1 << 32, 1<<40 - 1, 1 << 40, 1<<40 + 1, 1 << 62, most - 1, most}
}

// bandsOf are the bands whose ends are among some numbers, also those without prices.
func bandsOf(ends []int64) []api.Band {
	var bands []api.Band
	for _, lo := range ends {
		for _, hi := range ends {
			bands = append(bands, api.Band{Lo: lo, Hi: hi})
		}
	}
	return bands
}

// everyBook visits each list of up to three orders of few sides, prices and quantities, with gaps between the prices.
func everyBook(visit func([]api.Order)) {
	var grow func([]api.Order)
	grow = func(list []api.Order) {
		visit(list)
		if len(list) == 3 {
			return
		}
		for side := range 2 {
			for _, price := range []int64{2, 4, 5, 8} {
				for qty := int64(1); qty <= 2; qty++ {
					o := api.Order{ID: int64(len(list)), Side: side, Price: price, Qty: qty}
					grow(append(slices.Clone(list), o))
				}
			}
		}
	}
	grow(nil)
}

// fewBands are bands at, between and next to the prices of everyBook.
func fewBands() []api.Band {
	return []api.Band{{Lo: 1, Hi: 9}, {Lo: 2, Hi: 8}, {Lo: 3, Hi: 7}, {Lo: 3, Hi: 3}, {Lo: 4, Hi: 4}, {Lo: 4, Hi: 5}, {Lo: 5, Hi: 9}, {Lo: 6, Hi: 7}, {Lo: 0, Hi: 1}, {Lo: -3, Hi: 2}, {Lo: 9, Hi: most}, {Lo: 5, Hi: 4}, {Lo: -5, Hi: 0}}
}

func TestP1701Example(t *testing.T) {
	allows(t, example(t), 11, api.Band{Lo: 10, Hi: 20}, 10, 11, 12)
}

func TestP1701AllowedTable(t *testing.T) {
	// The prices 9, 10, 12, of which both sides have 10, and several orders 12.
	b := filled(t, buy(1, 10, 3), buy(2, 12, 2), sell(3, 9, 4), sell(4, 10, 1), buy(5, 12, 1), buy(6, 12, 7))
	for _, x := range []struct {
		ref, lo, hi int64
		want        []int64
	}{
		{11, 1, api.MaxPrice, []int64{9, 10, 11, 12}}, {10, 9, 12, []int64{9, 10, 12}}, {9, 9, 12, []int64{9, 10, 12}}, {12, 9, 12, []int64{9, 10, 12}},
		{8, 9, 12, []int64{9, 10, 12}}, {13, 9, 12, []int64{9, 10, 12}}, {8, 8, 13, []int64{8, 9, 10, 12}}, {13, 8, 13, []int64{9, 10, 12, 13}},
		{100, 11, 20, []int64{12, 20}}, {-100, 11, 20, []int64{11, 12}}, {11, 13, 20, []int64{13}}, {15, 13, 20, []int64{15}}, {21, 13, 20, []int64{20}},
		{11, 11, 11, []int64{11}}, {0, 11, 11, []int64{11}}, {99, 10, 10, []int64{10}}, {5, 1, 8, []int64{5}}, {10, 1, 8, []int64{8}},
		{10, 12, 9, nil}, {11, 12, 11, nil}, {0, 0, 0, nil}, {0, 0, 1, []int64{1}}, {5, -9, 0, nil}, {5, -9, 1, []int64{1}}, {-9, -9, 9, []int64{1, 9}}, {0, -9, 9, []int64{1, 9}}, {3, -9, 9, []int64{3, 9}},
		{0, api.MaxPrice, most, []int64{api.MaxPrice}}, {most, api.MaxPrice, most, []int64{api.MaxPrice}}, {most, api.MaxPrice + 1, most, nil}, {api.MaxPrice, api.MaxPrice + 1, most, nil},
		{most, 12, most, []int64{12, api.MaxPrice}}, {api.MaxPrice + 1, 12, most, []int64{12, api.MaxPrice}}, {api.MaxPrice - 1, 12, most, []int64{12, api.MaxPrice - 1}},
		{least, least, most, []int64{1, 9, 10, 12}}, {most, least, most, []int64{9, 10, 12, api.MaxPrice}}, {10, most, least, nil}, {10, least, least, nil}, {10, most, most, nil},
	} {
		allows(t, b, x.ref, api.Band{Lo: x.lo, Hi: x.hi}, x.want...)
	}
}

func TestP1701AllowedIsTheNearestOfTheBand(t *testing.T) {
	// Of the prices of each small band, the one that is nearest is looked for one by one.
	b := made(t, 1, 1)
	for lo := int64(-3); lo <= 6; lo++ {
		for hi := lo; hi <= 6; hi++ {
			for _, ref := range append(far(), 3, 4, 5, 6, 7, 8) {
				var want []int64
				for price := max(lo, 1); price <= hi; price++ {
					if len(want) == 0 || away(price, ref).Cmp(away(want[0], ref)) < 0 {
						want = []int64{price}
					}
				}
				allows(t, b, ref, api.Band{Lo: lo, Hi: hi}, want...)
			}
		}
	}
}

func TestP1701AllowedEverySmallBook(t *testing.T) {
	everyBook(func(list []api.Order) {
		b := filled(t, list...)
		was := orders(b)
		for _, band := range fewBands() {
			for ref := int64(0); ref <= 10; ref++ {
				allows(t, b, ref, band, allowedOf(list, ref, band)...)
			}
		}
		same(t, b, was)
	})
}

func TestP1701AllowedWithoutOrders(t *testing.T) {
	for n, b := range noBooks(t) {
		for _, ref := range far() {
			for _, band := range bandsOf(far()) {
				if n == 0 {
					allows(t, b, ref, band)
				} else {
					allows(t, b, ref, band, allowedOf(nil, ref, band)...)
				}
			}
		}
	}
}

func TestP1701AllowedAtTheEnds(t *testing.T) {
	list := []api.Order{buy(1, 1, 1), sell(2, api.MaxPrice, 1), buy(3, api.MaxPrice, 2), sell(4, 1, 2), buy(5, 2, 1), sell(6, api.MaxPrice-1, 1)}
	b := filled(t, list...)
	for _, ref := range far() {
		for _, band := range bandsOf(far()) {
			allows(t, b, ref, band, allowedOf(list, ref, band)...)
		}
	}
}

func TestP1701AllowedIsNewMemory(t *testing.T) {
	b := example(t)
	was := orders(b)
	for _, ref := range []int64{10, 11} {
		first := clear.Allowed(b, ref, all())
		second := clear.Allowed(b, ref, all())
		for n := range first {
			first[n] = -1
		}
		_ = append(first[:1], -2, -3, -4)
		if want := allowedOf(was, ref, all()); !slices.Equal(second, want) {
			t.Errorf("the second Allowed becomes %v", second)
		}
		allows(t, b, ref, all(), allowedOf(was, ref, all())...)
	}
	same(t, b, was)
}

func TestP1701LessTable(t *testing.T) {
	for _, x := range []struct {
		why  string
		a, b clear.Price
		ref  int64
	}{
		{"a greater Volume, though all else is worse", clear.Price{Price: 90, Volume: 5, Odds: 99}, clear.Price{Price: 10, Volume: 4}, 10},
		{"smaller Odds, though it is farther from ref and higher", clear.Price{Price: 90, Volume: 5, Odds: 1}, clear.Price{Price: 10, Volume: 5, Odds: 2}, 10},
		{"nearer to a ref below, though there is no lower one", clear.Price{Price: 11, Volume: 5, Odds: 1}, clear.Price{Price: 12, Volume: 5, Odds: 1}, 10},
		{"nearer to a ref above, though it is higher", clear.Price{Price: 12, Volume: 5, Odds: 1}, clear.Price{Price: 11, Volume: 5, Odds: 1}, 20},
		{"nearer to a ref between, though it is higher", clear.Price{Price: 12, Volume: 5, Odds: 1}, clear.Price{Price: 8, Volume: 5, Odds: 1}, 11},
		{"nearer to a ref between, and lower", clear.Price{Price: 8, Volume: 5, Odds: 1}, clear.Price{Price: 12, Volume: 5, Odds: 1}, 9},
		{"at ref", clear.Price{Price: 12, Volume: 5, Odds: 1}, clear.Price{Price: 11, Volume: 5, Odds: 1}, 12},
		{"equally near and lower", clear.Price{Price: 8, Volume: 5, Odds: 1}, clear.Price{Price: 12, Volume: 5, Odds: 1}, 10},
		{"equally near and lower, from end to end", clear.Price{Price: 0}, clear.Price{Price: api.MaxPrice}, api.MaxPrice / 2},
		{"nearer by one of many", clear.Price{Price: api.MaxPrice}, clear.Price{Price: 0}, api.MaxPrice/2 + 1},
		{"the least Volume against none", clear.Price{Price: 0, Volume: 1, Odds: most}, clear.Price{Price: api.MaxPrice}, api.MaxPrice},
		{"a Volume beyond 32 bits", clear.Price{Volume: 1<<33 + 1}, clear.Price{Volume: 1 << 33}, 0},
		{"Odds beyond 32 bits", clear.Price{Price: api.MaxPrice, Odds: 1 << 33}, clear.Price{Odds: 1<<33 + 1}, 0},
		{"a Volume from end to end", clear.Price{Volume: most}, clear.Price{Volume: least}, 0},
		{"Odds from end to end", clear.Price{Odds: least}, clear.Price{Odds: most}, 0},
	} {
		if !clear.Less(x.a, x.b, x.ref) || clear.Less(x.b, x.a, x.ref) {
			t.Errorf("%s: with ref %d, Less of %v and %v is %t, and the other way round %t", x.why, x.ref, x.a, x.b, clear.Less(x.a, x.b, x.ref), clear.Less(x.b, x.a, x.ref))
		}
	}
}

func TestP1701LessOfSmallPrices(t *testing.T) {
	var list []clear.Price
	for n := range int64(125) {
		list = append(list, clear.Price{Price: n / 25, Volume: n / 5 % 5, Odds: n % 5})
	}
	for _, a := range list {
		for _, b := range list {
			for ref := int64(0); ref <= 5; ref++ {
				if got, want := clear.Less(a, b, ref), before(a, b, ref); got != want {
					t.Fatalf("with ref %d, Less of %v and %v is %t", ref, a, b, got)
				}
			}
		}
	}
}

func TestP1701LessAtTheEnds(t *testing.T) {
	prices := []int64{0, 1, 2, 1 << 32, api.MaxPrice / 2, api.MaxPrice/2 + 1, api.MaxPrice - 1, api.MaxPrice}
	numbers := []int64{0, 1, 1<<32 + 1, most - 1, most}
	for _, ref := range append(far(), prices...) {
		for _, p := range prices {
			for _, q := range prices {
				for _, n := range numbers {
					for _, m := range numbers {
						for _, x := range [][2]clear.Price{{{Price: p, Volume: n, Odds: 7}, {Price: q, Volume: m, Odds: 7}}, {{Price: p, Volume: 7, Odds: n}, {Price: q, Volume: 7, Odds: m}}} {
							if got, want := clear.Less(x[0], x[1], ref), before(x[0], x[1], ref); got != want {
								t.Fatalf("with ref %d, Less of %v and %v is %t", ref, x[0], x[1], got)
							}
						}
					}
				}
			}
		}
	}
}

func TestP1701LessOfAnything(t *testing.T) {
	// Nothing is promised of prices out of range but that the call ends; that no price comes before itself, and that not both come before the other, holds nevertheless.
	for _, ref := range far() {
		for _, p := range far() {
			for _, q := range far() {
				a, b := clear.Price{Price: p, Volume: p, Odds: p}, clear.Price{Price: q, Volume: p, Odds: p}
				ab, ba := clear.Less(a, b, ref), clear.Less(b, a, ref)
				if ab && ba || ab == ba && p != q {
					t.Fatalf("with ref %d, Less of %v and %v is %t, and the other way round %t", ref, a, b, ab, ba)
				}
			}
		}
	}
}

func TestP1702Examples(t *testing.T) {
	b := example(t)
	chooses(t, b, 11, api.Band{Lo: 11, Hi: 20}, clear.Price{Price: 11, Volume: 2, Odds: 2}, true)
	chooses(t, b, 11, api.Band{Lo: 13, Hi: 20}, clear.Price{}, false)
	frees(t, b, 11, clear.Price{Price: 10, Volume: 4, Odds: 1}, true)
	b = filled(t, buy(1, 10, 3), sell(2, 9, 2))
	frees(t, b, 8, clear.Price{Price: 9, Volume: 2, Odds: 1}, true)
	chooses(t, b, 8, api.Band{Lo: 1, Hi: 100}, clear.Price{Price: 9, Volume: 2, Odds: 1}, true)
}

func TestP1702ChooseTable(t *testing.T) {
	type ask struct {
		ref, lo, hi int64
		want        clear.Price
	}
	for _, x := range []struct {
		orders []api.Order
		asks   []ask
	}{
		{ // The same Volume and Odds from 8 to 12: the nearest to ref is chosen.
			[]api.Order{buy(1, 12, 3), sell(2, 8, 3)},
			[]ask{
				{10, 1, 20, clear.Price{Price: 10, Volume: 3}}, {8, 1, 20, clear.Price{Price: 8, Volume: 3}}, {12, 1, 20, clear.Price{Price: 12, Volume: 3}}, {7, 1, 20, clear.Price{Price: 8, Volume: 3}}, {13, 1, 20, clear.Price{Price: 12, Volume: 3}},
				{least, 1, 20, clear.Price{Price: 8, Volume: 3}}, {most, 1, 20, clear.Price{Price: 12, Volume: 3}}, {0, 1, 20, clear.Price{Price: 8, Volume: 3}}, {-1, least, most, clear.Price{Price: 8, Volume: 3}}, {most, least, most, clear.Price{Price: 12, Volume: 3}},
				{10, 11, 20, clear.Price{Price: 11, Volume: 3}}, {10, 1, 9, clear.Price{Price: 9, Volume: 3}}, {20, 9, 11, clear.Price{Price: 11, Volume: 3}}, {1, 9, 11, clear.Price{Price: 9, Volume: 3}}, {10, 12, 12, clear.Price{Price: 12, Volume: 3}}, {10, 8, 8, clear.Price{Price: 8, Volume: 3}},
				{10, 13, 20, clear.Price{}}, {10, 1, 7, clear.Price{}}, {10, 11, 9, clear.Price{}}, {10, 0, 0, clear.Price{}}, {10, most, least, clear.Price{}},
			},
		},
		{ // A greater Volume goes before smaller Odds and a nearer price: at 10 it is 5 of 9, at 9 and 11 it is 4 of 4.
			[]api.Order{buy(1, 10, 1), buy(2, 11, 4), sell(3, 10, 5), sell(4, 9, 4)},
			[]ask{{9, 1, 20, clear.Price{Price: 10, Volume: 5, Odds: 4}}, {11, 1, 20, clear.Price{Price: 10, Volume: 5, Odds: 4}}, {9, 1, 9, clear.Price{Price: 9, Volume: 4, Odds: 1}}},
		},
		{ // Smaller Odds go before a nearer price: 3 trade from 8 to 12, and the Odds are 2 up to 10 and 0 above.
			[]api.Order{buy(1, 12, 3), buy(2, 10, 2), sell(3, 8, 3)},
			[]ask{{8, 1, 20, clear.Price{Price: 12, Volume: 3}}, {10, 1, 20, clear.Price{Price: 12, Volume: 3}}, {11, 1, 20, clear.Price{Price: 11, Volume: 3}}, {11, 1, 10, clear.Price{Price: 10, Volume: 3, Odds: 2}}, {9, 1, 10, clear.Price{Price: 9, Volume: 3, Odds: 2}}},
		},
		{ // A price that no order has is not allowed but as the nearest one: 11 would have smaller Odds than 10 and 12.
			[]api.Order{buy(1, 12, 3), buy(2, 10, 1), sell(3, 8, 3), sell(4, 12, 1)},
			[]ask{{8, 1, 20, clear.Price{Price: 8, Volume: 3, Odds: 1}}, {10, 1, 20, clear.Price{Price: 10, Volume: 3, Odds: 1}}, {11, 1, 20, clear.Price{Price: 11, Volume: 3}}, {12, 1, 20, clear.Price{Price: 12, Volume: 3, Odds: 1}}, {9, 11, 20, clear.Price{Price: 11, Volume: 3}}},
		},
		{ // Nothing trades at any price.
			[]api.Order{buy(1, 8, 3), sell(2, 12, 3)},
			[]ask{{10, 1, 20, clear.Price{}}, {8, 1, 20, clear.Price{}}, {12, 1, 20, clear.Price{}}, {10, 8, 8, clear.Price{}}, {10, 12, 12, clear.Price{}}, {0, least, most, clear.Price{}}},
		},
		{ // The ends of what a price can be.
			[]api.Order{buy(1, api.MaxPrice, 1), sell(2, 1, 1)},
			[]ask{{least, least, most, clear.Price{Price: 1, Volume: 1}}, {most, least, most, clear.Price{Price: api.MaxPrice, Volume: 1}}, {0, 0, 0, clear.Price{}}, {0, -5, 1, clear.Price{Price: 1, Volume: 1}}, {7, api.MaxPrice, most, clear.Price{Price: api.MaxPrice, Volume: 1}}, {7, api.MaxPrice + 1, most, clear.Price{}}},
		},
	} {
		b := filled(t, x.orders...)
		for _, a := range x.asks {
			chooses(t, b, a.ref, api.Band{Lo: a.lo, Hi: a.hi}, a.want, a.want != clear.Price{})
		}
	}
}

func TestP1702EverySmallBook(t *testing.T) {
	everyBook(func(list []api.Order) {
		b := filled(t, list...)
		was := orders(b)
		for _, band := range fewBands() {
			for _, ref := range []int64{least, 1, 3, 4, 6, 8, most} {
				want, ok := chosen(list, ref, band)
				chooses(t, b, ref, band, want, ok)
			}
		}
		for _, ref := range []int64{least, 0, 1, 2, 3, 4, 5, 6, 7, 8, 9, api.MaxPrice, most} {
			want, ok := chosen(list, ref, all())
			frees(t, b, ref, want, ok)
		}
		same(t, b, was)
	})
}

func TestP1702WithoutOrders(t *testing.T) {
	for _, b := range noBooks(t) {
		for _, ref := range far() {
			frees(t, b, ref, clear.Price{}, false)
			for _, band := range bandsOf(far()) {
				chooses(t, b, ref, band, clear.Price{}, false)
			}
		}
	}
}

func TestP1702OneSide(t *testing.T) {
	for _, b := range []*book.Book{filled(t, buy(1, 10, 3), buy(2, 12, 2)), filled(t, sell(1, 10, 3), sell(2, 12, 2))} {
		for _, ref := range append(far(), 9, 10, 11, 12, 13) {
			frees(t, b, ref, clear.Price{}, false)
			chooses(t, b, ref, api.Band{Lo: 10, Hi: 12}, clear.Price{}, false)
		}
	}
}

func TestP1702FarReferencesAndBands(t *testing.T) {
	list := []api.Order{buy(1, 1, 1), sell(2, api.MaxPrice, 1), buy(3, api.MaxPrice, 2), sell(4, 1, 2), buy(5, 2, 1), sell(6, api.MaxPrice-1, 1)}
	b := filled(t, list...)
	for _, ref := range far() {
		for _, band := range bandsOf(far()) {
			holds(t, b, list, ref, band)
		}
	}
}

func TestP1702FreeAtTheEnds(t *testing.T) {
	// Something trades at this one price alone.
	for _, price := range []int64{1, 2, api.MaxPrice - 1, api.MaxPrice} {
		b := filled(t, buy(1, price, 3), sell(2, price, 2))
		for _, ref := range far() {
			frees(t, b, ref, clear.Price{Price: price, Volume: 2, Odds: 1}, true)
		}
	}
}

func TestP1702TheBookAsItIs(t *testing.T) {
	b := filled(t, buy(1, 10, 5), sell(2, 9, 5))
	frees(t, b, 9, clear.Price{Price: 9, Volume: 5}, true)
	b.Reduce(1, 2)
	frees(t, b, 9, clear.Price{Price: 9, Volume: 3, Odds: 2}, true)
	b.Add(buy(3, 9, 4))
	frees(t, b, 12, clear.Price{Price: 9, Volume: 5, Odds: 2}, true)
	b.Remove(2)
	frees(t, b, 9, clear.Price{}, false)
}

func TestP1702ThePriceAndTheSideAlone(t *testing.T) {
	list := []api.Order{
		{ID: most, Owner: 7, Side: 0, Price: 12, Qty: 1, Flags: 7, Seq: 9},
		{ID: least, Owner: 7, Side: 1, Price: 10, Qty: 20, Flags: 1, Seq: -9},
		{ID: 0, Owner: -7, Side: 0, Price: 11, Qty: 300, Flags: -1, Seq: least},
		{ID: -1, Owner: math.MaxInt, Side: 1, Price: 11, Qty: 4000, Seq: most},
	}
	b := filled(t, list...)
	was := orders(b)
	frees(t, b, 10, clear.Price{Price: 11, Volume: 301, Odds: 3719}, true)
	chooses(t, b, 10, api.Band{Lo: 1, Hi: 10}, clear.Price{Price: 10, Volume: 20, Odds: 281}, true)
	same(t, b, was)
}

func TestP1702LongBooks(t *testing.T) {
	var d dice
	for n := range 60 {
		b := made(t, 500, 200)
		low, span, qty := int64(1+d.below(1000)), 1+d.below(60), 1<<(n%5*8)
		for id := range int64(300) {
			b.Add(api.Order{ID: id, Owner: d.below(4), Side: d.below(2), Price: low + int64(d.below(span)), Qty: int64(1 + d.below(qty)), Flags: d.below(8), Seq: id})
			switch d.below(4) {
			case 0:
				b.Remove(int64(d.below(int(id) + 1)))
			case 1:
				b.Reduce(int64(d.below(int(id)+1)), int64(1+d.below(qty)))
			}
			if id%20 != 19 {
				continue
			}
			list := orders(b)
			for range 5 {
				ref, lo := low+int64(d.below(span+10)-5), low+int64(d.below(span+10)-5)
				holds(t, b, list, ref, api.Band{Lo: lo, Hi: lo + int64(d.below(span+5)-2)})
			}
			same(t, b, list)
		}
	}
}

func TestP1702FullBooks(t *testing.T) {
	// As many prices as both sides can have, those of one side above, below and between those of the other, and each order as great as it can be.
	for _, x := range []struct{ buys, sells, step int64 }{
		{1, 1, 1}, {1, 2, 2}, {2, 1, 2}, {1, 201, 1}, {201, 1, 1}, {101, 1, 1}, {api.MaxPrice - 199, api.MaxPrice - 199, 1}, {api.MaxPrice - 199, 1, 1}, {1, 1, 1 << 32},
	} {
		b := made(t, 500, 200)
		for n := range int64(200) {
			b.Add(buy(2*n, x.buys+n*x.step, api.MaxQty))
			b.Add(sell(2*n+1, x.sells+n*x.step, api.MaxQty))
		}
		for n := range int64(50) {
			b.Add(buy(1000+n, x.buys+x.step, api.MaxQty))
			b.Add(sell(2000+n, x.sells, api.MaxQty))
		}
		list := orders(b)
		if len(list) != 500 {
			t.Fatalf("for %v the book has %d orders", x, len(list))
		}
		middle := x.buys + 100*x.step
		for _, ref := range []int64{least, 1, x.sells, middle, middle + 1, api.MaxPrice, most} {
			for _, band := range []api.Band{{Lo: least, Hi: most}, {Lo: middle, Hi: middle + 9*x.step}, {Lo: x.sells - 1, Hi: x.sells + 1}} {
				holds(t, b, list, ref, band)
			}
		}
	}
}

func TestP1702TheSameEachTime(t *testing.T) {
	var list []api.Order
	for n := range int64(50) {
		list = append(list, api.Order{ID: n, Side: int(n % 2), Price: 1 + n*37%50, Qty: 1 + n})
	}
	b := filled(t, list...)
	want, ok := chosen(list, 30, all())
	for range 200 {
		frees(t, b, 30, want, ok)
		allows(t, b, 30, api.Band{Lo: 10, Hi: 40}, allowedOf(list, 30, api.Band{Lo: 10, Hi: 40})...)
	}
}

// unbeaten fails the test where a price of a band has a greater Volume than the one that Choose returns; where it returns none, nothing trades at any.
func unbeaten(t *testing.T, b *book.Book, list []api.Order, ref int64, band api.Band, prices []int64) {
	t.Helper()
	p, _ := clear.Choose(b, ref, band)
	for _, price := range prices {
		if q := priceOf(list, price); price >= band.Lo && price <= band.Hi && q.Volume > p.Volume {
			t.Fatalf("with %v, ref %d and the band %v, Choose is %v, though there is %v", list, ref, band, p, q)
		}
	}
}

func TestP1703EverySmallBook(t *testing.T) {
	var prices []int64
	for price := int64(-3); price <= 12; price++ {
		prices = append(prices, price)
	}
	everyBook(func(list []api.Order) {
		b := filled(t, list...)
		for _, band := range fewBands() {
			for _, ref := range []int64{0, 2, 5, 7, 9} {
				unbeaten(t, b, list, ref, band, prices)
			}
		}
	})
}

func TestP1703LongBooks(t *testing.T) {
	var d dice
	for n := range 200 {
		b := made(t, 500, 200)
		span, step := 1+d.below(50), int64(1+d.below(5))
		for id := range int64(1 + d.below(80)) {
			b.Add(api.Order{ID: id, Side: d.below(2), Price: 5 + step*int64(d.below(span)), Qty: int64(1 + d.below(1<<(n%4*10)))})
		}
		list := orders(b)
		top := 10 + int(step)*span
		var prices []int64
		for price := range int64(top + 10) {
			prices = append(prices, price-5)
		}
		for range 20 {
			lo := int64(d.below(top) - 3)
			band := api.Band{Lo: lo, Hi: lo + int64(d.below(top))}
			unbeaten(t, b, list, int64(d.below(top)), band, prices)
			unbeaten(t, b, list, int64(d.below(top)), all(), prices)
		}
	}
}
