package allot_test

import (
	"math"
	"math/big"
	"slices"
	"testing"

	"damper/allot"
	"damper/api"
	"damper/book"
	"damper/curve"
)

// dice gives numbers that look like nothing, the same ones at every run.
type dice uint64

func (d *dice) next() uint64 {
	*d += 0x9e3779b97f4a7c15
	z := uint64(*d)
	z = (z ^ z>>30) * 0xbf58476d1ce4e5b9
	z = (z ^ z>>27) * 0x94d049bb133111eb
	return z ^ z>>31
}

func (d *dice) below(n int) int {
	return int(d.next() % uint64(n))
}

const (
	most  = math.MaxInt64
	least = math.MinInt64
)

func buy(id, price, qty int64) api.Order {
	return api.Order{ID: id, Side: 0, Price: price, Qty: qty}
}

func sell(id, price, qty int64) api.Order {
	return api.Order{ID: id, Side: 1, Price: price, Qty: qty}
}

// made is a book without orders.
func made(t *testing.T, slots, levels int) *book.Book {
	t.Helper()
	b, fault := book.New(slots, levels)
	if fault != api.OK {
		t.Fatalf("New is fault %d", fault)
	}
	return b
}

// filled is a book with some orders, all of which it takes.
func filled(t *testing.T, orders ...api.Order) *book.Book {
	t.Helper()
	n := max(1, len(orders))
	b := made(t, n, min(n, 200))
	for _, o := range orders {
		if fault := b.Add(o); fault != api.OK {
			t.Fatalf("Add of %v is fault %d", o, fault)
		}
	}
	return b
}

// example is the book of the chapter's examples, and examplePairs are its pairs at 10.
func example(t *testing.T) *book.Book {
	t.Helper()
	return filled(t, buy(1, 10, 3), buy(2, 12, 2), sell(3, 9, 4), sell(4, 10, 9))
}

func examplePairs() []allot.Pair {
	return []allot.Pair{{Buy: 2, Sell: 3, Qty: 2}, {Buy: 1, Sell: 3, Qty: 2}, {Buy: 1, Sell: 4, Qty: 1}}
}

// orders are those of a book, of both sides.
func orders(b *book.Book) []api.Order {
	return slices.Concat(slices.Collect(b.Each(0)), slices.Collect(b.Each(1)))
}

// same fails the test where the orders of a book are not these.
func same(t *testing.T, b *book.Book, want ...api.Order) {
	t.Helper()
	if got := orders(b); !slices.Equal(got, want) {
		t.Fatalf("the orders are %v, not %v", got, want)
	}
}

// queue are the orders of a side that would trade at a price, in the order of the side, of a list in which the earlier ones come first.
func queue(list []api.Order, side int, price int64) []api.Order {
	var taken []api.Order
	for _, o := range list {
		if o.Side == side && (side == 0 && o.Price >= price || side == 1 && o.Price <= price) {
			taken = append(taken, o)
		}
	}
	slices.SortStableFunc(taken, func(a, b api.Order) int {
		if side == 0 {
			return int(b.Price - a.Price)
		}
		return int(a.Price - b.Price)
	})
	return taken
}

// pairsOf are the pairs as the units of the orders in their order tell them: the first unit of one side trades with the first one of the other, and so on.
func pairsOf(list []api.Order, price int64) []allot.Pair {
	var pairs []allot.Pair
	var from int64
	for _, buy := range queue(list, 0, price) {
		to := from + buy.Qty
		var first int64
		for _, sell := range queue(list, 1, price) {
			last := first + sell.Qty
			if common := min(to, last) - max(from, first); common > 0 {
				pairs = append(pairs, allot.Pair{Buy: buy.ID, Sell: sell.ID, Qty: common})
			}
			first = last
		}
		from = to
	}
	return pairs
}

// trades fails the test where the pairs at a price are others.
func trades(t *testing.T, b *book.Book, price int64, want ...allot.Pair) {
	t.Helper()
	if got := allot.Pairs(b, price); !slices.Equal(got, want) {
		t.Fatalf("with %v, Pairs at %d is %v, not %v", orders(b), price, got, want)
	}
}

// applies fails the test where Apply has another fault, or leaves another book.
func applies(t *testing.T, b *book.Book, l []allot.Pair, fault api.Fault, left ...api.Order) {
	t.Helper()
	if got := allot.Apply(b, l); got != fault {
		t.Fatalf("Apply of %v is fault %d, not %d", l, got, fault)
	}
	same(t, b, left...)
}

// sumOf is the sum of some quantities as the chapter has it.
func sumOf(quantities ...int64) int64 {
	sum := new(big.Int)
	for _, q := range quantities {
		sum.Add(sum, big.NewInt(q))
		if !sum.IsInt64() {
			return -1
		}
	}
	return sum.Int64()
}

// totalOf and ofOf are Total and Of by the words of the chapter.

func totalOf(l []allot.Pair) int64 {
	var quantities []int64
	for _, p := range l {
		quantities = append(quantities, p.Qty)
	}
	return sumOf(quantities...)
}

func ofOf(l []allot.Pair, id int64) int64 {
	var quantities []int64
	for _, p := range l {
		if p.Buy == id || p.Sell == id {
			quantities = append(quantities, p.Qty)
		}
	}
	return sumOf(quantities...)
}

// adds fails the test where Total, or Of an ID, is another sum.
func adds(t *testing.T, l []allot.Pair, ids ...int64) {
	t.Helper()
	if got, want := allot.Total(l), totalOf(l); got != want {
		t.Fatalf("Total of %v is %d, not %d", l, got, want)
	}
	for _, id := range ids {
		if got, want := allot.Of(l, id), ofOf(l, id); got != want {
			t.Fatalf("Of %v and %d is %d, not %d", l, id, got, want)
		}
	}
}

// far are numbers at and beyond the ends of what a price or a quantity can be.
func far() []int64 {
	return []int64{least, least + 1, -1 << 62, -1 << 40, -2, -1, 0, 1, 2, 1 << 32, 1<<32 + 1, 1<<40 - 1, 1 << 40, 1<<40 + 1, 1 << 62, most - 1, most}
}

// everyBook visits each list of up to four orders of few sides, prices and quantities, with gaps between the prices.
func everyBook(visit func([]api.Order)) {
	var grow func([]api.Order)
	grow = func(list []api.Order) {
		visit(list)
		if len(list) == 4 {
			return
		}
		for side := range 2 {
			for _, price := range []int64{2, 4, 5} {
				for qty := int64(1); qty <= 2; qty++ {
					o := api.Order{ID: int64(len(list)), Side: side, Price: price, Qty: qty}
					grow(append(slices.Clone(list), o))
				}
			}
		}
	}
	grow(nil)
}

// mixed is a long list of orders, of which some have the greatest quantity.
func (d *dice) mixed(n, prices int) []api.Order {
	var list []api.Order
	for id := range n {
		o := api.Order{ID: int64(id), Owner: d.below(3), Side: d.below(2), Price: int64(1 + d.below(prices)), Qty: int64(1 + d.below(9)), Flags: d.below(8), Seq: int64(d.next())}
		if d.below(9) == 0 {
			o.Qty = api.MaxQty - int64(d.below(2))
		}
		list = append(list, o)
	}
	return list
}

// full are 500 orders of the greatest quantity, of 100 prices of each side.
func full() []api.Order {
	var list []api.Order
	for n := range int64(500) {
		list = append(list, api.Order{ID: -n, Side: int(n % 2), Price: 1 + n/2%100, Qty: api.MaxQty})
	}
	return list
}

func TestP1801Examples(t *testing.T) {
	trades(t, example(t), 10, examplePairs()...)
	b := filled(t, buy(1, 10, 3), buy(2, 9, 2), sell(3, 8, 4))
	trades(t, b, 9, allot.Pair{Buy: 1, Sell: 3, Qty: 3}, allot.Pair{Buy: 2, Sell: 3, Qty: 1})
}

func TestP1801Table(t *testing.T) {
	pair := func(buy, sell, qty int64) allot.Pair { return allot.Pair{Buy: buy, Sell: sell, Qty: qty} }
	for _, x := range []struct {
		why    string
		orders []api.Order
		price  int64
		want   []allot.Pair
	}{
		{"a Buy below the price is not taken", []api.Order{buy(1, 9, 5), sell(2, 9, 5)}, 10, nil},
		{"a Sell above the price is not taken", []api.Order{buy(1, 11, 5), sell(2, 11, 5)}, 10, nil},
		{"both at the price are taken", []api.Order{buy(1, 10, 5), sell(2, 10, 5)}, 10, []allot.Pair{pair(1, 2, 5)}},
		{"both beyond it are taken", []api.Order{buy(1, 11, 5), sell(2, 9, 5)}, 10, []allot.Pair{pair(1, 2, 5)}},
		{"a crossed book does not trade at a price that is too low", []api.Order{buy(1, 11, 5), sell(2, 9, 5)}, 8, nil},
		{"nor at one that is too high", []api.Order{buy(1, 11, 5), sell(2, 9, 5)}, 12, nil},
		{"Buys alone", []api.Order{buy(1, 10, 5), buy(2, 11, 5)}, 10, nil},
		{"Sells alone", []api.Order{sell(1, 10, 5), sell(2, 9, 5)}, 10, nil},
		{"the earlier one first at one price", []api.Order{buy(2, 10, 1), buy(1, 10, 1), sell(3, 10, 1)}, 10, []allot.Pair{pair(2, 3, 1)}},
		{"the earlier Sell first at one price", []api.Order{sell(2, 10, 1), sell(1, 10, 1), buy(3, 10, 1)}, 10, []allot.Pair{pair(3, 2, 1)}},
		{"the better Buy first", []api.Order{buy(1, 10, 1), buy(2, 11, 1), sell(3, 10, 1)}, 10, []allot.Pair{pair(2, 3, 1)}},
		{"the better Sell first", []api.Order{sell(1, 10, 1), sell(2, 9, 1), buy(3, 10, 1)}, 10, []allot.Pair{pair(3, 2, 1)}},
		{"orders that end together are both followed", []api.Order{buy(1, 11, 2), buy(2, 10, 3), sell(3, 9, 2), sell(4, 10, 3)}, 10, []allot.Pair{pair(1, 3, 2), pair(2, 4, 3)}},
		{"one Buy and many Sells", []api.Order{buy(1, 10, 9), sell(2, 8, 1), sell(3, 8, 2), sell(4, 9, 3), sell(5, 10, 4)}, 10, []allot.Pair{pair(1, 2, 1), pair(1, 3, 2), pair(1, 4, 3), pair(1, 5, 3)}},
		{"one Sell and many Buys", []api.Order{sell(1, 10, 9), buy(2, 12, 1), buy(3, 12, 2), buy(4, 11, 3), buy(5, 10, 4)}, 10, []allot.Pair{pair(2, 1, 1), pair(3, 1, 2), pair(4, 1, 3), pair(5, 1, 3)}},
		{"one owner trades with itself", []api.Order{{ID: 1, Owner: 7, Price: 10, Qty: 2}, {ID: 2, Owner: 7, Side: 1, Price: 10, Qty: 2, Flags: 7}}, 10, []allot.Pair{pair(1, 2, 2)}},
		{"IDs are any numbers", []api.Order{buy(least, 10, 2), sell(most, 10, 1), sell(0, 10, 1)}, 10, []allot.Pair{pair(least, most, 1), pair(least, 0, 1)}},
		{"a Seq does not matter", []api.Order{{ID: 1, Price: 10, Qty: 1, Seq: 9}, {ID: 2, Price: 10, Qty: 1, Seq: 1}, {ID: 3, Side: 1, Price: 10, Qty: 1}}, 10, []allot.Pair{pair(1, 3, 1)}},
		{"at the least price", []api.Order{buy(1, 1, 2), sell(2, 1, 3)}, 1, []allot.Pair{pair(1, 2, 2)}},
		{"at the greatest price", []api.Order{buy(1, api.MaxPrice, 2), sell(2, api.MaxPrice, 3)}, api.MaxPrice, []allot.Pair{pair(1, 2, 2)}},
		{"from end to end", []api.Order{buy(1, api.MaxPrice, api.MaxQty), sell(2, 1, api.MaxQty-1)}, 12, []allot.Pair{pair(1, 2, api.MaxQty-1)}},
	} {
		t.Run(x.why, func(t *testing.T) { trades(t, filled(t, x.orders...), x.price, x.want...) })
	}
}

func TestP1801EverySmallBook(t *testing.T) {
	everyBook(func(list []api.Order) {
		b := filled(t, list...)
		was := orders(b)
		for price := int64(0); price <= 6; price++ {
			trades(t, b, price, pairsOf(list, price)...)
		}
		same(t, b, was...)
	})
}

func TestP1801MixedBooks(t *testing.T) {
	d := dice(1801)
	for range 300 {
		prices := 1 + d.below(40)
		list := d.mixed(d.below(200), prices)
		b := filled(t, list...)
		was := orders(b)
		for price := range int64(prices + 2) {
			trades(t, b, price, pairsOf(list, price)...)
		}
		same(t, b, was...)
	}
}

func TestP1801ABookThatChanges(t *testing.T) {
	// What is gone, and what is taken from an order, is not traded; the order keeps its place.
	d := dice(18011)
	for range 200 {
		list := d.mixed(60, 9)
		b := filled(t, list...)
		for range 40 {
			n := d.below(len(list))
			if by := int64(1 + d.below(int(list[n].Qty))); by < list[n].Qty {
				b.Reduce(list[n].ID, by)
				list[n].Qty -= by
			} else {
				b.Remove(list[n].ID)
				list = slices.Delete(list, n, n+1)
			}
		}
		for price := range int64(11) {
			trades(t, b, price, pairsOf(list, price)...)
		}
	}
}

func TestP1801ABookThatIsFull(t *testing.T) {
	b := filled(t, full()...)
	for price := range int64(102) {
		trades(t, b, price, pairsOf(full(), price)...)
	}
}

func TestP1801PricesThatAreNone(t *testing.T) {
	list := []api.Order{buy(1, 1, 2), sell(2, 1, 3), buy(3, api.MaxPrice, 2), sell(4, api.MaxPrice, 3)}
	b := filled(t, list...)
	for _, price := range far() {
		if price < 1 || price > api.MaxPrice {
			trades(t, b, price)
		} else {
			trades(t, b, price, pairsOf(list, price)...)
		}
	}
}

func TestP1801WithoutOrders(t *testing.T) {
	emptied := example(t)
	emptied.Remove(1)
	emptied.Remove(2)
	emptied.Reduce(3, 4)
	emptied.Reduce(4, 9)
	for _, b := range []*book.Book{nil, {}, made(t, 1, 1), emptied} {
		for _, price := range append(far(), 9, 10, 12) {
			trades(t, b, price)
		}
	}
}

func TestP1801NewMemory(t *testing.T) {
	b := example(t)
	was := orders(b)
	first, second := allot.Pairs(b, 10), allot.Pairs(b, 10)
	for n := range first {
		first[n] = allot.Pair{}
	}
	_ = append(first[:1], allot.Pair{}, allot.Pair{}, allot.Pair{})
	if !slices.Equal(second, examplePairs()) {
		t.Errorf("the second Pairs become %v", second)
	}
	same(t, b, was...)
	// What happens to the book later does not change pairs.
	allot.Apply(b, second)
	if !slices.Equal(second, examplePairs()) {
		t.Errorf("Apply changes the pairs to %v", second)
	}
}

func TestP1802ApplyExample(t *testing.T) {
	b := example(t)
	applies(t, b, examplePairs(), api.OK, sell(4, 10, 8))
	applies(t, b, examplePairs(), api.Unknown, sell(4, 10, 8))
}

func TestP1802ApplyTable(t *testing.T) {
	pair := func(buy, sell, qty int64) allot.Pair { return allot.Pair{Buy: buy, Sell: sell, Qty: qty} }
	for _, x := range []struct {
		why   string
		pairs []allot.Pair
		fault api.Fault
		left  []api.Order
	}{
		{"nothing", nil, api.OK, []api.Order{buy(1, 9, 3), sell(2, 11, 5)}},
		{"no pairs", []allot.Pair{}, api.OK, []api.Order{buy(1, 9, 3), sell(2, 11, 5)}},
		{"a part of both, whatever their prices are", []allot.Pair{pair(1, 2, 2)}, api.OK, []api.Order{buy(1, 9, 1), sell(2, 11, 3)}},
		{"the whole Buy", []allot.Pair{pair(1, 2, 3)}, api.OK, []api.Order{sell(2, 11, 2)}},
		{"twice", []allot.Pair{pair(1, 2, 1), pair(1, 2, 1)}, api.OK, []api.Order{buy(1, 9, 1), sell(2, 11, 3)}},
		{"more than the Buy has", []allot.Pair{pair(1, 2, 4)}, api.Range, []api.Order{buy(1, 9, 3), sell(2, 11, 5)}},
		{"more than it has left", []allot.Pair{pair(1, 2, 2), pair(1, 2, 2)}, api.Range, []api.Order{buy(1, 9, 1), sell(2, 11, 3)}},
		{"a Buy that is gone", []allot.Pair{pair(1, 2, 3), pair(1, 2, 1)}, api.Unknown, []api.Order{sell(2, 11, 2)}},
		{"a Buy that is unknown", []allot.Pair{pair(3, 2, 1)}, api.Unknown, []api.Order{buy(1, 9, 3), sell(2, 11, 5)}},
		{"a Sell that is unknown: the Buy is reduced", []allot.Pair{pair(1, 3, 1)}, api.Unknown, []api.Order{buy(1, 9, 2), sell(2, 11, 5)}},
		{"a Sell that is unknown: the Buy is gone", []allot.Pair{pair(1, 3, 3)}, api.Unknown, []api.Order{sell(2, 11, 5)}},
		{"the fault of the Buy comes first", []allot.Pair{pair(1, 3, 4)}, api.Range, []api.Order{buy(1, 9, 3), sell(2, 11, 5)}},
		{"and the other way round", []allot.Pair{pair(3, 2, 6)}, api.Unknown, []api.Order{buy(1, 9, 3), sell(2, 11, 5)}},
		{"nothing after a fault is done", []allot.Pair{pair(1, 2, 1), pair(1, 3, 1), pair(1, 2, 1), pair(4, 5, 0)}, api.Unknown, []api.Order{buy(1, 9, 1), sell(2, 11, 4)}},
		{"the first fault is the one", []allot.Pair{pair(1, 2, 0), pair(3, 4, 1)}, api.Range, []api.Order{buy(1, 9, 3), sell(2, 11, 5)}},
		{"sides are not looked at: a Sell as Buy", []allot.Pair{pair(2, 1, 2)}, api.OK, []api.Order{buy(1, 9, 1), sell(2, 11, 3)}},
		{"more than a Sell has, as Buy", []allot.Pair{pair(2, 1, 4)}, api.Range, []api.Order{buy(1, 9, 3), sell(2, 11, 1)}},
		{"one order with itself", []allot.Pair{pair(2, 2, 2)}, api.OK, []api.Order{buy(1, 9, 3), sell(2, 11, 1)}},
		{"one order with itself is gone", []allot.Pair{pair(1, 1, 3)}, api.Unknown, []api.Order{sell(2, 11, 5)}},
	} {
		t.Run(x.why, func(t *testing.T) { applies(t, filled(t, buy(1, 9, 3), sell(2, 11, 5)), x.pairs, x.fault, x.left...) })
	}
}

func TestP1802ApplyReducesTheSellBy(t *testing.T) {
	// A Sell that has less than its Buy: the Buy is reduced nevertheless.
	b := filled(t, buy(1, 9, 5), sell(2, 11, 3))
	applies(t, b, []allot.Pair{{Buy: 1, Sell: 2, Qty: 4}}, api.Range, buy(1, 9, 1), sell(2, 11, 3))
}

func TestP1802ApplyOfQuantitiesThatAreNone(t *testing.T) {
	for _, qty := range far() {
		b := filled(t, buy(1, 9, 5), sell(2, 11, 5))
		if qty >= 1 && qty <= 5 {
			applies(t, b, []allot.Pair{{Buy: 1, Sell: 2, Qty: qty}}, api.OK, buy(1, 9, 5-qty), sell(2, 11, 5-qty))
		} else {
			applies(t, b, []allot.Pair{{Buy: 1, Sell: 2, Qty: qty}}, api.Range, buy(1, 9, 5), sell(2, 11, 5))
		}
	}
}

func TestP1802ApplyWithoutOrders(t *testing.T) {
	for _, id := range far() {
		l := []allot.Pair{{Buy: id, Sell: id, Qty: 1}}
		applies(t, nil, l, api.BadArg)
		applies(t, &book.Book{}, l, api.Unknown)
		applies(t, made(t, 1, 1), l, api.Unknown)
	}
	for _, b := range []*book.Book{nil, {}, made(t, 1, 1)} {
		applies(t, b, nil, api.OK)
	}
}

func TestP1802ApplyOfPairs(t *testing.T) {
	// What Pairs gives can be applied, and takes from each order what Of says.
	d := dice(1802)
	for range 300 {
		prices := 1 + d.below(20)
		b := filled(t, d.mixed(d.below(120), prices)...)
		price := int64(d.below(prices + 2))
		l := allot.Pairs(b, price)
		var left []api.Order
		for _, o := range orders(b) {
			o.Qty -= allot.Of(l, o.ID)
			if o.Qty > 0 {
				left = append(left, o)
			}
		}
		applies(t, b, l, api.OK, left...)
		trades(t, b, price)
	}
}

func TestP1802ApplyIsRepeatedReduce(t *testing.T) {
	d := dice(18021)
	faults := map[api.Fault]int{}
	for range 3000 {
		list := d.mixed(6, 5)
		b, other := filled(t, list...), filled(t, list...)
		var l []allot.Pair
		for range d.below(5) {
			l = append(l, allot.Pair{Buy: int64(d.below(7)), Sell: int64(d.below(7)), Qty: int64(d.below(7))})
		}
		want := api.OK
		for n := 0; n < 2*len(l) && want == api.OK; n++ {
			id := l[n/2].Buy
			if n%2 == 1 {
				id = l[n/2].Sell
			}
			_, want = other.Reduce(id, l[n/2].Qty)
		}
		faults[want]++
		applies(t, b, l, want, orders(other)...)
	}
	for _, fault := range []api.Fault{api.OK, api.Unknown, api.Range} {
		if faults[fault] < 100 {
			t.Errorf("the fault %d comes only %d times", fault, faults[fault])
		}
	}
}

func TestP1802SumsExamples(t *testing.T) {
	l := examplePairs()
	if got := allot.Total(l); got != 5 {
		t.Errorf("Total is %d", got)
	}
	for id, want := range []int64{0, 3, 2, 4, 1, 0} {
		if got := allot.Of(l, int64(id)); got != want {
			t.Errorf("Of %d is %d, not %d", id, got, want)
		}
	}
}

func TestP1802SumsOfNothing(t *testing.T) {
	for _, l := range [][]allot.Pair{nil, {}, {{Qty: 0}}, make([]allot.Pair, 3)} {
		for _, id := range far() {
			if total, of := allot.Total(l), allot.Of(l, id); total != 0 || of != 0 {
				t.Errorf("of %v and %d, Total is %d and Of is %d", l, id, total, of)
			}
		}
	}
}

func TestP1802SumsTable(t *testing.T) {
	for _, x := range []struct {
		quantities []int64
		want       int64
	}{
		{[]int64{most}, most}, {[]int64{least}, least}, {[]int64{-1}, -1}, {[]int64{3, -4}, -1}, {[]int64{3, -3}, 0}, {[]int64{-3, -4}, -7},
		{[]int64{most, 1}, -1}, {[]int64{most, 1, -1}, -1}, {[]int64{most, -1, 1}, most}, {[]int64{most, 0}, most}, {[]int64{most - 1, 1}, most}, {[]int64{most, most, most}, -1},
		{[]int64{least, -1}, -1}, {[]int64{least, -1, 1}, -1}, {[]int64{least, 1, -1}, least}, {[]int64{least + 1, -1}, least}, {[]int64{least, least}, -1},
		{[]int64{least, most, 5}, 4}, {[]int64{most, least, -5}, -6}, {[]int64{most, most, least, least}, -1}, {[]int64{1, most, least}, -1}, {[]int64{-1, least, most, 7}, -1},
		{[]int64{1 << 62, 1 << 62}, -1}, {[]int64{1 << 62, 1<<62 - 1}, most}, {[]int64{-1 << 62, -1 << 62}, least}, {[]int64{-1 << 62, -1 << 62, -1}, -1},
	} {
		// The order that counts stands on either side, or on both, and other pairs are no part of its sum.
		for _, p := range []allot.Pair{{Buy: 8}, {Sell: 8}, {Buy: 8, Sell: 8}, {Buy: 8, Sell: -8}, {Buy: 9, Sell: 8}} {
			var alone, among []allot.Pair
			for _, q := range x.quantities {
				p.Qty = q
				alone = append(alone, p)
				among = append(among, allot.Pair{Buy: 7, Sell: 6, Qty: most}, p, allot.Pair{Buy: 6, Sell: 7, Qty: least})
			}
			if got := allot.Total(alone); got != x.want {
				t.Errorf("Total of %v is %d, not %d", alone, got, x.want)
			}
			for _, l := range [][]allot.Pair{alone, among} {
				if got := allot.Of(l, 8); got != x.want {
					t.Errorf("Of %v and 8 is %d, not %d", l, got, x.want)
				}
				if got := allot.Of(l, 5); got != 0 {
					t.Errorf("Of %v and 5 is %d", l, got)
				}
			}
		}
	}
}

func TestP1802SumsOfAnything(t *testing.T) {
	d := dice(18022)
	numbers := append(far(), 5, 6, -5, 1<<61, -1<<61)
	for range 20000 {
		var l []allot.Pair
		for range d.below(8) {
			l = append(l, allot.Pair{Buy: int64(d.below(4)), Sell: int64(d.below(4)), Qty: numbers[d.below(len(numbers))]})
		}
		adds(t, l, 0, 1, 2, 3, 4)
	}
}

func TestP1802SumsOfEachID(t *testing.T) {
	l := []allot.Pair{}
	for n, id := range far() {
		l = append(l, allot.Pair{Buy: id, Sell: id / 2, Qty: int64(n + 1)})
	}
	adds(t, l, far()...)
}

func TestP1802ArgumentsAreLeftAsTheyAre(t *testing.T) {
	whole := append(examplePairs(), allot.Pair{Buy: 7, Sell: 8, Qty: 9}, allot.Pair{Buy: 5, Sell: 6, Qty: most})
	was := slices.Clone(whole)
	l := whole[:3]
	allot.Apply(example(t), l)
	if total, of := allot.Total(l), allot.Of(l, 7); total != 5 || of != 0 {
		t.Errorf("what is beyond the length counts: Total is %d, and Of 7 is %d", total, of)
	}
	if !slices.Equal(whole, was) {
		t.Errorf("the pairs are changed to %v", whole)
	}
}

// consequences fails the test where the pairs of a book at a price break P1803.
func consequences(t *testing.T, b *book.Book, price int64) {
	t.Helper()
	l := allot.Pairs(b, price)
	at := curve.Of(b).At(price)
	total := allot.Total(l)
	if total != curve.Volume(at) {
		t.Fatalf("with %v, the total at %d is %d, and the volume %d", orders(b), price, total, curve.Volume(at))
	}
	for side, other := range []int64{at.Supply, at.Demand} {
		open := false
		var better int64
		for o := range b.Each(side) {
			traded := allot.Of(l, o.ID)
			if open && traded != 0 {
				t.Fatalf("with %v, the order %v trades at %d, and one before it has not traded completely", orders(b), o, price)
			}
			open = open || traded < o.Qty
			if book.Better(side, o.Price, price) {
				better += o.Qty
				if better <= other && traded != o.Qty {
					t.Fatalf("with %v, the order %v trades only %d at %d", orders(b), o, traded, price)
				}
			}
			if book.Better(side, price, o.Price) && traded != 0 {
				t.Fatalf("with %v, the order %v trades at %d", orders(b), o, price)
			}
		}
	}
}

func TestP1803(t *testing.T) {
	everyBook(func(list []api.Order) {
		b := filled(t, list...)
		for price := int64(1); price <= 6; price++ {
			consequences(t, b, price)
		}
	})
	d := dice(1803)
	for range 100 {
		prices := 1 + d.below(40)
		b := filled(t, d.mixed(d.below(200), prices)...)
		for price := int64(1); price <= int64(prices); price++ {
			consequences(t, b, price)
		}
	}
	b := filled(t, full()...)
	for price := int64(1); price <= 101; price++ {
		consequences(t, b, price)
	}
}
