package match_test

import (
	"cmp"
	"math"
	"slices"
	"testing"

	"damper/api"
	"damper/book"
	"damper/match"
	"damper/sweep"
)

// dice gives numbers that look like nothing, the same ones at every run.
type dice uint64

func (d *dice) next() uint64 {
	*d += 0x9e3779b97f4a7c15
	z := uint64(*d)
	z = (z ^ z>>30) * 0xbf58476d1ce4e5b9
	z = (z ^ z>>27) * 0x94d049bb133111eb
	return z ^ z>>31
}

func (d *dice) below(n int) int {
	return int(d.next() % uint64(n))
}

// pick is one of some numbers.
func (d *dice) pick(numbers ...int64) int64 {
	return numbers[d.below(len(numbers))]
}

// buy and sell are orders of a side; those that rest have the owner 0 where none is told.

func buy(id int64, price, qty int64) api.Order {
	return api.Order{ID: id, Side: 0, Price: price, Qty: qty}
}

func sell(id int64, price, qty int64) api.Order {
	return api.Order{ID: id, Side: 1, Price: price, Qty: qty}
}

func of(owner int, o api.Order) api.Order {
	o.Owner = owner
	return o
}

func reprice(o api.Order) api.Order {
	o.Flags |= 4
	return o
}

// onSide is o for Buy; for Sell it is what lies at the other side of the price 10: what holds for the one has to hold for the other.
func onSide(side int, o api.Order) api.Order {
	if side == 1 {
		o.Side = 1 - o.Side
		o.Price = 20 - o.Price
	}
	return o
}

// onSideBand is the band that lies at the other side likewise.
func onSideBand(side int, b api.Band) api.Band {
	if side == 1 {
		return api.Band{Lo: 20 - b.Hi, Hi: 20 - b.Lo}
	}
	return b
}

// all is a band that contains each price, around one around the price 10.
var (
	all    = api.Band{Lo: 1, Hi: api.MaxPrice}
	around = api.Band{Lo: 8, Hi: 12}
)

// noNumbers are numbers that are neither a side nor a type, also when they are cut to fewer bits.
func noNumbers() []int {
	return []int{math.MinInt, math.MinInt + 1, -1 << 32, -256, -2, -1, 6, 7, 255, 256, 257, 1 << 16, 1 << 32, 1<<32 + 1, math.MaxInt - 1, math.MaxInt}
}

// shelf has what a book has, by the words of its chapter: its orders as they were added.
type shelf struct {
	slots, levels int
	orders        []api.Order
}

// wide is a shelf with room for more.
func wide(orders ...api.Order) shelf {
	return shelf{9, 9, orders}
}

// book is a book with the same orders, all of which it takes.
func (s shelf) book(t *testing.T) *book.Book {
	t.Helper()
	b, fault := book.New(s.slots, s.levels)
	if fault != api.OK {
		t.Fatalf("New is fault %d", fault)
	}
	for _, o := range s.orders {
		if fault := b.Add(o); fault != api.OK {
			t.Fatalf("Add of %v is fault %d", o, fault)
		}
	}
	return b
}

// side are the orders of a side in their order.
func (s shelf) side(side int) []api.Order {
	var list []api.Order
	for _, o := range s.orders {
		if o.Side == side {
			list = append(list, o)
		}
	}
	slices.SortStableFunc(list, func(a, b api.Order) int {
		if side == 0 {
			a, b = b, a
		}
		return cmp.Compare(a.Price, b.Price)
	})
	return list
}

// meets tells whether an order of a side at a price would trade with the best one of the other side.
func (s shelf) meets(side int, price int64) bool {
	others := s.side(1 - side)
	switch {
	case len(others) == 0:
		return false
	case side == 0:
		return others[0].Price <= price
	}
	return others[0].Price >= price
}

// room tells whether one more order of a side has room at a price.
func (s shelf) room(side int, price int64) bool {
	prices := map[int64]int{}
	for _, o := range s.side(side) {
		prices[o.Price]++
	}
	return len(s.orders) < s.slots && (prices[price] > 0 || len(prices) < s.levels)
}

// has tells whether there is an order with an ID.
func (s shelf) has(id int64) bool {
	return slices.ContainsFunc(s.orders, func(o api.Order) bool { return o.ID == id })
}

// crossed tells whether the sides would trade with each other.
func (s shelf) crossed() bool {
	buys := s.side(0)
	return len(buys) > 0 && s.meets(0, buys[0].Price)
}

// after is what is left when the Fills have been executed.
func (s shelf) after(fills []sweep.Fill) shelf {
	s.orders = slices.Clone(s.orders)
	for _, f := range fills {
		n := slices.IndexFunc(s.orders, func(o api.Order) bool { return o.ID == f.ID })
		s.orders[n].Qty -= f.Qty
		if f.Gone || s.orders[n].Qty == 0 {
			s.orders = slices.Delete(s.orders, n, n+1)
		}
	}
	return s
}

// is fails the test where a book has other orders.
func (s shelf) is(t *testing.T, b *book.Book) {
	t.Helper()
	for side := range 2 {
		if got, want := slices.Collect(b.Each(side)), s.side(side); !slices.Equal(got, want) {
			t.Fatalf("the orders of the side %d are %v, not %v", side, got, want)
		}
	}
	if n := b.Len(); n != len(s.orders) {
		t.Fatalf("Len is %d, not %d", n, len(s.orders))
	}
}

// planned is the plan of an entry for a book.
func planned(b *book.Book, e match.Entry) sweep.Plan {
	taker := sweep.Taker{Side: e.O.Side, Owner: e.O.Owner, Limit: e.O.Price, Qty: e.O.Qty, Band: e.Band, Self: e.Self}
	if e.Type == 2 {
		taker.Limit = 0
	}
	return sweep.Make(b, taker)
}

// edge is the edge by the words of the chapter, and whether it is beyond the band.
func edge(e match.Entry) (int64, bool) {
	price := e.O.Price
	switch {
	case e.O.Side == 0 && price > e.Band.Hi && e.O.Flags&4 != 0:
		return e.Band.Hi, false
	case e.O.Side == 1 && price < e.Band.Lo && e.O.Flags&4 != 0:
		return e.Band.Lo, false
	}
	return price, e.O.Side == 0 && price > e.Band.Hi || e.O.Side == 1 && price < e.Band.Lo
}

// wouldRest is whether an entry would rest, by the words of the chapter.
func (s shelf) wouldRest(e match.Entry, p sweep.Plan) bool {
	price, beyond := edge(e)
	return p.Left != 0 && p.Stop != 3 && (e.Type == 1 || e.Type == 5) && price >= 1 && price <= 1<<40 && !beyond && !s.after(p.Fills).meets(e.O.Side, price)
}

// fault is that of Check, by the words of the chapter.
func (s shelf) fault(e match.Entry, p sweep.Plan) api.Fault {
	o := e.O
	switch {
	case o.Side != 0 && o.Side != 1, e.Type < 1, e.Type > 5:
		return 1
	case o.Qty < 1, o.Qty > 1<<32, e.Type == 2 && o.Price != 0, e.Type != 2 && (o.Price < 1 || o.Price > 1<<40):
		return 9
	case s.has(o.ID):
		return 6
	case e.Type == 5 && s.meets(o.Side, o.Price):
		return 12
	case e.Type == 4 && p.Left != 0:
		return 13
	}
	if price, _ := edge(e); s.wouldRest(e, p) && !s.room(o.Side, price) {
		return 7
	}
	return 0
}

// result is that of Enter, by the words of the chapter, and what the book has afterwards.
func (s shelf) result(e match.Entry, p sweep.Plan) (match.Result, shelf) {
	if fault := s.fault(e, p); fault != 0 {
		return match.Result{Fault: fault}, s
	}
	r := match.Result{Fills: p.Fills}
	after := s.after(p.Fills)
	switch {
	case s.wouldRest(e, p):
		r.Rest = e.O
		r.Rest.Price, _ = edge(e)
		r.Rest.Qty = p.Left
		after.orders = append(after.orders, r.Rest)
	case p.Left == 0:
	case p.Stop == 3:
		r.Gone, r.Why = p.Left, 4
	case p.Stop == 2 || e.Type == 1 || e.Type == 5:
		r.Gone, r.Why = p.Left, 3
	default:
		r.Gone, r.Why = p.Left, 2
	}
	return r, after
}

func same(a, b match.Result) bool {
	return slices.Equal(a.Fills, b.Fills) && a.Fault == b.Fault && a.Rest == b.Rest && a.Gone == b.Gone && a.Why == b.Why
}

// kept fails the test where a result is not what the section "Consequences" says of it.
func kept(t *testing.T, e match.Entry, r match.Result) {
	t.Helper()
	if r.Fault != 0 {
		if !same(r, match.Result{Fault: r.Fault}) {
			t.Fatalf("beside its fault, the result of %v is %v", e, r)
		}
		return
	}
	sum := r.Rest.Qty + r.Gone
	for _, f := range r.Fills {
		if !f.Gone {
			sum += f.Qty
		}
	}
	if sum != e.O.Qty || r.Gone < 0 || (r.Gone == 0) != (r.Why == 0) || r.Gone != 0 && r.Rest != (api.Order{}) {
		t.Fatalf("the result of %v is %v", e, r)
	}
}

// entersBook fails the test where Check or Enter do anything else with an entry and a book than the chapter says; s is what the book has.
func (s shelf) entersBook(t *testing.T, b *book.Book, e match.Entry) (match.Result, shelf) {
	t.Helper()
	want, after := s.result(e, planned(b, e))
	if fault := match.Check(b, e); fault != want.Fault {
		t.Fatalf("with %v, Check of %v is fault %d, not %d", s, e, fault, want.Fault)
	}
	s.is(t, b)
	got := match.Enter(b, e)
	if !same(got, want) {
		t.Fatalf("with %v, Enter of %v is %v, not %v", s, e, got, want)
	}
	after.is(t, b)
	kept(t, e, got)
	if !s.crossed() && b.Crossed() {
		t.Fatalf("with %v, %v crosses the book", s, e)
	}
	return got, after
}

// enters is entersBook with a book of its own.
func (s shelf) enters(t *testing.T, e match.Entry) (match.Result, shelf) {
	t.Helper()
	return s.entersBook(t, s.book(t), e)
}

// gives fails the test where Enter answers another result.
func (s shelf) gives(t *testing.T, e match.Entry, want match.Result) {
	t.Helper()
	if got, _ := s.enters(t, e); !same(got, want) {
		t.Errorf("with %v, Enter of %v is %v, not %v", s.orders, e, got, want)
	}
}

// faulty fails the test where Check answers another fault.
func (s shelf) faulty(t *testing.T, e match.Entry, want api.Fault) {
	t.Helper()
	if got, _ := s.enters(t, e); got.Fault != want {
		t.Errorf("with %v, the fault of %v is %d, not %d", s.orders, e, got.Fault, want)
	}
}

// refused fails the test where Check or Enter with a book that may be nil answer anything but a fault.
func refused(t *testing.T, b *book.Book, e match.Entry, want api.Fault) {
	t.Helper()
	if fault := match.Check(b, e); fault != want {
		t.Errorf("Check of %v is fault %d, not %d", e, fault, want)
	}
	if r := match.Enter(b, e); !same(r, match.Result{Fault: want}) {
		t.Errorf("Enter of %v is %v, not fault %d alone", e, r, want)
	}
}

func TestP1501Examples(t *testing.T) {
	s := wide(sell(1, 10, 5))
	s.faulty(t, match.Entry{O: buy(2, 10, 6), Type: api.All, Band: all}, api.NoFill)
	s.faulty(t, match.Entry{O: buy(2, 10, 6), Type: api.Post, Band: all}, api.Crossing)
}

func TestP1501NilBook(t *testing.T) {
	for kind := -1; kind <= 7; kind++ {
		for side := -1; side <= 2; side++ {
			for _, qty := range []int64{math.MinInt64, -1, 0, 1, math.MaxInt64} {
				refused(t, nil, match.Entry{O: api.Order{Side: side, Price: 1, Qty: qty}, Type: kind, Band: all}, api.BadArg)
				refused(t, nil, match.Entry{O: api.Order{Side: side, Qty: qty}, Type: kind}, api.BadArg)
			}
		}
	}
}

func TestP1501BookThatNewDidNotMake(t *testing.T) {
	for side := range 2 {
		for kind := 1; kind <= 5; kind++ {
			o := api.Order{ID: 1, Side: side, Price: 10, Qty: 3}
			want := match.Result{Gone: 3, Why: api.ByType}
			switch kind {
			case api.Limit, api.Post:
				want = match.Result{Fault: api.Full}
			case api.All:
				want = match.Result{Fault: api.NoFill}
			case api.Market:
				o.Price = 0
			}
			e := match.Entry{O: o, Type: kind, Band: all}
			if fault := match.Check(&book.Book{}, e); fault != want.Fault {
				t.Errorf("Check of %v is fault %d", e, fault)
			}
			if got := match.Enter(&book.Book{}, e); !same(got, want) {
				t.Errorf("Enter of %v is %v", e, got)
			}
		}
	}
}

func TestP1501NoSideAndNoType(t *testing.T) {
	s := wide(sell(1, 10, 5), buy(2, 9, 5))
	for kind := 1; kind <= 5; kind++ {
		for _, side := range append(noNumbers(), 2, 3) {
			for _, price := range []int64{0, 9, 10, 11} {
				s.faulty(t, match.Entry{O: api.Order{ID: 3, Side: side, Price: price, Qty: 1}, Type: kind, Band: all}, api.BadArg)
				refused(t, &book.Book{}, match.Entry{O: api.Order{ID: 3, Side: side, Price: price, Qty: 1}, Type: kind, Band: all, Self: 1}, api.BadArg)
			}
		}
	}
	for side := range 2 {
		for _, kind := range append(noNumbers(), 0) {
			for _, price := range []int64{0, 9, 10, 11} {
				s.faulty(t, match.Entry{O: api.Order{ID: 3, Side: side, Price: price, Qty: 1}, Type: kind, Band: all}, api.BadArg)
			}
		}
	}
}

func TestP1501Qty(t *testing.T) {
	for side := range 2 {
		// As much as any order can trade, for those that have to trade whole.
		s := wide(api.Order{ID: 1, Side: 1 - side, Price: 10, Qty: api.MaxQty})
		for kind := 1; kind <= 5; kind++ {
			price := int64(10)
			switch kind {
			case api.Market:
				price = 0
			case api.Post:
				price += int64(2*side - 1)
			}
			for _, qty := range []int64{math.MinInt64, math.MinInt64 + 1, -1 << 32, -1, 0, api.MaxQty + 1, 1 << 33, 1 << 40, math.MaxInt64} {
				s.faulty(t, match.Entry{O: api.Order{ID: 2, Side: side, Price: price, Qty: qty}, Type: kind, Band: all}, api.Range)
			}
			for _, qty := range []int64{1, 2, 3, 1 << 31, 1<<31 + 1, api.MaxQty - 1, api.MaxQty} {
				s.faulty(t, match.Entry{O: api.Order{ID: 2, Side: side, Price: price, Qty: qty}, Type: kind, Band: all}, api.OK)
			}
		}
	}
}

func TestP1501Price(t *testing.T) {
	bands := []api.Band{all, around, {Lo: math.MinInt64, Hi: math.MaxInt64}, {Lo: math.MaxInt64, Hi: math.MinInt64}, {}}
	for side := range 2 {
		for _, band := range bands {
			for kind := 1; kind <= 5; kind++ {
				wrong := []int64{math.MinInt64, math.MinInt64 + 1, -1 << 40, -1, 0, api.MaxPrice + 1, 1 << 41, 1 << 62, math.MaxInt64}
				right := []int64{1, 2, 7, 8, 10, 12, 13, 1<<32 + 1, api.MaxPrice - 1, api.MaxPrice}
				if kind == api.Market {
					wrong = append(slices.Delete(wrong, 4, 5), right...)
					right = []int64{0}
				}
				for flags := range 8 {
					for _, price := range wrong {
						wide().faulty(t, match.Entry{O: api.Order{ID: 1, Side: side, Price: price, Qty: 1, Flags: flags}, Type: kind, Band: band}, api.Range)
					}
					want := api.OK
					if kind == api.All {
						want = api.NoFill
					}
					for _, price := range right {
						wide().faulty(t, match.Entry{O: api.Order{ID: 1, Side: side, Price: price, Qty: 1, Flags: flags}, Type: kind, Band: band}, want)
					}
				}
			}
		}
	}
}

func TestP1501Twice(t *testing.T) {
	for _, id := range []int64{math.MinInt64, -1, 0, 1, 2, 1 << 32, math.MaxInt64} {
		for side := range 2 {
			s := wide(api.Order{ID: id, Side: side, Price: 10, Qty: 5}, api.Order{ID: id ^ 1, Side: 1 - side, Price: 10 + int64(1-2*side), Qty: 5})
			for kind := 1; kind <= 5; kind++ {
				for mine := range 2 {
					price := int64(10)
					if kind == api.Market {
						price = 0
					}
					for owner := range 2 {
						s.faulty(t, match.Entry{O: api.Order{ID: id, Owner: owner, Side: mine, Price: price, Qty: 1}, Type: kind, Band: all}, api.Twice)
						s.faulty(t, match.Entry{O: api.Order{ID: id ^ 1, Owner: owner, Side: mine, Price: price, Qty: 1}, Type: kind, Band: all}, api.Twice)
					}
				}
			}
		}
	}
}

func TestP1501NotTwiceWhenItIsGone(t *testing.T) {
	s := wide(sell(1, 10, 5))
	b := s.book(t)
	e := match.Entry{O: buy(2, 10, 5), Type: api.Limit, Band: all}
	_, s = s.entersBook(t, b, e)
	// Neither the one that came nor the one that rested is there any more; then the first one rests.
	for _, want := range []api.Fault{api.OK, api.Twice, api.Twice} {
		var r match.Result
		if r, s = s.entersBook(t, b, e); r.Fault != want {
			t.Errorf("the fault is %d, not %d", r.Fault, want)
		}
	}
	e.O = buy(1, 10, 5)
	s.entersBook(t, b, e)
}

func TestP1501Crossing(t *testing.T) {
	for side := range 2 {
		s := wide(onSide(side, sell(1, 12, 1)), onSide(side, sell(2, 11, 1)), onSide(side, buy(3, 9, 4)))
		for price := int64(1); price <= 19; price++ {
			for self := range 4 {
				for owner := range 2 {
					for _, band := range []api.Band{all, around, {Lo: 10, Hi: 10}, {Lo: 14, Hi: 16}, {Lo: 3, Hi: 5}, {}} {
						o := of(owner, onSide(side, buy(4, price, 2)))
						e := match.Entry{O: o, Type: api.Post, Band: onSideBand(side, band), Self: self}
						want := api.OK
						if price >= 11 {
							want = api.Crossing
						}
						s.faulty(t, e, want)
						// Its Price counts, not its edge, though it would rest at that.
						e.O = reprice(o)
						s.faulty(t, e, want)
						// No other type has this fault.
						for _, kind := range []int{api.Limit, api.Now, api.All} {
							e.Type = kind
							if got := match.Check(s.book(t), e); got == api.Crossing {
								t.Errorf("the fault of %v is Crossing", e)
							}
						}
					}
				}
			}
		}
	}
}

func TestP1501CrossingWithoutTheOtherSide(t *testing.T) {
	for side := range 2 {
		for _, s := range []shelf{wide(), wide(onSide(side, buy(1, 10, 5))), wide(onSide(side, buy(1, 12, 5)))} {
			for price := int64(1); price <= 19; price++ {
				s.faulty(t, match.Entry{O: onSide(side, buy(2, price, 1)), Type: api.Post, Band: all}, api.OK)
			}
		}
	}
}

func TestP1501NoFillByQty(t *testing.T) {
	for side := range 2 {
		s := wide(onSide(side, sell(1, 10, 3)), onSide(side, sell(2, 10, 1)), onSide(side, sell(3, 11, 2)), onSide(side, sell(4, 13, 9)), onSide(side, buy(5, 9, 9)))
		for _, c := range []struct{ price, most int64 }{{1, 0}, {9, 0}, {10, 4}, {11, 6}, {12, 6}, {13, 6}, {19, 6}} {
			for qty := int64(1); qty <= 16; qty++ {
				for self := range 4 {
					e := match.Entry{O: of(7, onSide(side, buy(6, c.price, qty))), Type: api.All, Band: onSideBand(side, around), Self: self}
					want := api.OK
					if qty > c.most {
						want = api.NoFill
					}
					s.faulty(t, e, want)
					// No other type has this fault.
					for _, kind := range []int{api.Limit, api.Now, api.Post} {
						e.Type = kind
						if got := match.Check(s.book(t), e); got == api.NoFill {
							t.Errorf("the fault of %v is NoFill", e)
						}
					}
				}
			}
		}
		for qty := int64(1); qty <= 16; qty++ {
			o := onSide(side, buy(6, 10, qty))
			o.Price = 0
			s.faulty(t, match.Entry{O: o, Type: api.Market, Band: onSideBand(side, around)}, api.OK)
		}
	}
}

func TestP1501NoFillByOwner(t *testing.T) {
	for side := range 2 {
		s := wide(onSide(side, sell(1, 10, 3)), of(7, onSide(side, sell(2, 10, 1))), onSide(side, sell(3, 11, 2)))
		// How much trades with each Self.
		for self, most := range []int64{6, 3, 5, 3, 5} {
			for qty := int64(1); qty <= 7; qty++ {
				want := api.OK
				if qty > most {
					want = api.NoFill
				}
				s.faulty(t, match.Entry{O: of(7, onSide(side, buy(6, 11, qty))), Type: api.All, Band: all, Self: self}, want)
			}
		}
	}
	// An own order that goes is no fault by itself.
	s := wide(of(7, sell(1, 10, 3)), sell(2, 10, 3))
	s.gives(t, match.Entry{O: of(7, buy(3, 10, 2)), Type: api.All, Band: all, Self: 2}, match.Result{Fills: []sweep.Fill{{ID: 1, Price: 10, Qty: 3, Gone: true}, {ID: 2, Price: 10, Qty: 2}}})
}

func TestP1501FullOfOrders(t *testing.T) {
	for side := range 2 {
		for _, kind := range []int{api.Limit, api.Post} {
			s := shelf{2, 9, []api.Order{onSide(side, buy(1, 9, 1)), onSide(side, sell(2, 11, 2))}}
			// No room at a price that is there, nor at another one.
			for price := int64(1); price <= 10; price++ {
				s.faulty(t, match.Entry{O: onSide(side, buy(3, price, 1)), Type: kind, Band: all}, api.Full)
				s.faulty(t, match.Entry{O: reprice(onSide(side, buy(3, price, 1))), Type: kind, Band: onSideBand(side, api.Band{Lo: 1, Hi: 5})}, api.Full)
			}
			s.slots = 3
			for price := int64(1); price <= 10; price++ {
				s.faulty(t, match.Entry{O: onSide(side, buy(3, price, 1)), Type: kind, Band: all}, api.OK)
			}
		}
	}
}

func TestP1501FullOfPrices(t *testing.T) {
	for side := range 2 {
		for _, kind := range []int{api.Limit, api.Post} {
			s := shelf{9, 2, []api.Order{onSide(side, buy(1, 9, 1)), onSide(side, buy(2, 7, 2)), onSide(side, sell(3, 11, 2))}}
			for price := int64(1); price <= 10; price++ {
				want := api.Full
				if price == 9 || price == 7 {
					want = api.OK
				}
				s.faulty(t, match.Entry{O: onSide(side, buy(4, price, 1)), Type: kind, Band: all}, want)
			}
			// The edge counts, not the Price.
			for hi, want := range map[int64]api.Fault{6: api.Full, 7: api.OK, 8: api.Full, 9: api.OK} {
				e := match.Entry{O: reprice(onSide(side, buy(4, 10, 1))), Type: kind, Band: onSideBand(side, api.Band{Lo: 1, Hi: hi})}
				s.faulty(t, e, want)
				// Where it is beyond the band, and would not rest, there is no fault.
				e.O.Flags = 3
				s.faulty(t, e, api.OK)
			}
			// The prices of the other side do not count.
			s.faulty(t, match.Entry{O: onSide(side, sell(4, 12, 1)), Type: kind, Band: all}, api.OK)
		}
	}
}

func TestP1501FullForTheBookAsItIs(t *testing.T) {
	for side := range 2 {
		// The plan would make room, whether its orders trade or are removed.
		s := shelf{2, 9, []api.Order{of(7, onSide(side, sell(1, 10, 1))), of(7, onSide(side, sell(2, 10, 1)))}}
		for self := range 3 {
			for owner := 6; owner <= 7; owner++ {
				want := api.Full
				if self == 1 && owner == 7 {
					want = api.OK
				}
				s.faulty(t, match.Entry{O: of(owner, onSide(side, buy(3, 10, 3))), Type: api.Limit, Band: all, Self: self}, want)
			}
		}
		s.faulty(t, match.Entry{O: of(7, onSide(side, buy(3, 10, 3))), Type: api.Limit, Band: all, Self: 3}, api.OK)
	}
}

func TestP1501FullOnlyForWhatWouldRest(t *testing.T) {
	for side := range 2 {
		s := shelf{3, 2, []api.Order{of(7, onSide(side, sell(1, 10, 2))), onSide(side, sell(2, 12, 2)), onSide(side, buy(3, 6, 1))}}
		in := func(owner int, price, qty int64) api.Order {
			return of(owner, onSide(side, buy(4, price, qty)))
		}
		market := in(0, 10, 9)
		market.Price = 0
		for _, c := range []struct {
			e    match.Entry
			want api.Fault
		}{
			{match.Entry{O: in(0, 10, 2), Type: api.Limit, Band: all}, api.OK},
			{match.Entry{O: in(0, 10, 3), Type: api.Limit, Band: all}, api.Full},
			{match.Entry{O: in(0, 10, 3), Type: api.Now, Band: all}, api.OK},
			{match.Entry{O: market, Type: api.Market, Band: all}, api.OK},
			{match.Entry{O: in(0, 10, 2), Type: api.All, Band: all}, api.OK},
			{match.Entry{O: in(0, 9, 3), Type: api.Post, Band: all}, api.Full},
			// It meets an order of its own owner.
			{match.Entry{O: in(7, 10, 1), Type: api.Limit, Band: all, Self: 1}, api.OK},
			{match.Entry{O: in(7, 10, 1), Type: api.Limit, Band: all, Self: 3}, api.OK},
			{match.Entry{O: in(7, 10, 1), Type: api.Limit, Band: all, Self: 2}, api.Full},
			// It is beyond the band, or is moved to its end.
			{match.Entry{O: in(0, 11, 3), Type: api.Limit, Band: onSideBand(side, api.Band{Lo: 1, Hi: 10})}, api.OK},
			{match.Entry{O: reprice(in(0, 11, 3)), Type: api.Limit, Band: onSideBand(side, api.Band{Lo: 1, Hi: 10})}, api.Full},
			// The next order is outside the band, but would trade at the edge.
			{match.Entry{O: in(0, 11, 3), Type: api.Limit, Band: onSideBand(side, api.Band{Lo: 11, Hi: 13})}, api.OK},
		} {
			s.faulty(t, c.e, c.want)
		}
	}
}

func TestP1501WhichFaultComesFirst(t *testing.T) {
	// A Buy 1, a Sell 2 and no room for another order.
	s := shelf{2, 1, []api.Order{buy(1, 9, 1), sell(2, 13, 2)}}
	narrow := api.Band{Lo: 8, Hi: 12}
	for _, c := range []struct {
		e    match.Entry
		want api.Fault
	}{
		// No side or no type, though out of the range, twice there, and more.
		{match.Entry{O: api.Order{ID: 1, Side: 2, Price: 14, Qty: 1}, Type: api.Post, Band: narrow}, api.BadArg},
		{match.Entry{O: api.Order{ID: 1, Side: 2, Price: 0, Qty: 0}, Type: api.All, Band: narrow}, api.BadArg},
		{match.Entry{O: buy(1, 0, 1), Type: 0, Band: narrow}, api.BadArg},
		{match.Entry{O: buy(1, 14, 0), Type: 6, Band: narrow}, api.BadArg},
		// Out of the range, though twice there, and more.
		{match.Entry{O: buy(1, 14, 0), Type: api.Post, Band: narrow}, api.Range},
		{match.Entry{O: buy(1, api.MaxPrice+1, 1), Type: api.Post, Band: narrow}, api.Range},
		{match.Entry{O: buy(1, 9, api.MaxQty+1), Type: api.All, Band: narrow}, api.Range},
		{match.Entry{O: buy(1, 0, 1), Type: api.Limit, Band: narrow}, api.Range},
		{match.Entry{O: buy(1, 9, 1), Type: api.Market, Band: narrow}, api.Range},
		{match.Entry{O: buy(3, 14, 0), Type: api.Post, Band: narrow}, api.Range},
		{match.Entry{O: buy(3, 9, api.MaxQty+1), Type: api.All, Band: narrow}, api.Range},
		{match.Entry{O: buy(3, 9, api.MaxQty+1), Type: api.Limit, Band: narrow}, api.Range},
		{match.Entry{O: sell(3, api.MaxPrice+1, 1), Type: api.Limit, Band: narrow}, api.Range},
		// Twice there, though crossing, not filled, or without room.
		{match.Entry{O: buy(1, 14, 1), Type: api.Post, Band: narrow}, api.Twice},
		{match.Entry{O: buy(2, 13, 1), Type: api.Post, Band: all}, api.Twice},
		{match.Entry{O: sell(1, 9, 1), Type: api.Post, Band: all}, api.Twice},
		{match.Entry{O: buy(1, 9, 1), Type: api.All, Band: narrow}, api.Twice},
		{match.Entry{O: buy(2, 14, 3), Type: api.All, Band: all}, api.Twice},
		{match.Entry{O: buy(1, 9, 1), Type: api.Limit, Band: narrow}, api.Twice},
		{match.Entry{O: buy(2, 10, 1), Type: api.Post, Band: narrow}, api.Twice},
		// Crossing, though without room where it would rest.
		{match.Entry{O: reprice(buy(3, 14, 1)), Type: api.Post, Band: narrow}, api.Crossing},
		{match.Entry{O: reprice(sell(3, 9, 1)), Type: api.Post, Band: api.Band{Lo: 10, Hi: 12}}, api.Crossing},
		// What has to trade whole never rests, so that it needs no room.
		{match.Entry{O: buy(3, 9, 1), Type: api.All, Band: narrow}, api.NoFill},
		{match.Entry{O: buy(3, 13, 3), Type: api.All, Band: all}, api.NoFill},
		{match.Entry{O: reprice(buy(3, 14, 1)), Type: api.Limit, Band: narrow}, api.Full},
	} {
		s.faulty(t, c.e, c.want)
	}
}

func TestP1502Examples(t *testing.T) {
	s := wide(sell(1, 10, 5))
	b := s.book(t)
	in := func(kind int, o api.Order) match.Result {
		t.Helper()
		var r match.Result
		r, s = s.entersBook(t, b, match.Entry{O: o, Type: kind, Band: around})
		return r
	}
	if got, want := in(api.Now, buy(4, 11, 7)), (match.Result{Fills: []sweep.Fill{{ID: 1, Price: 10, Qty: 5}}, Gone: 2, Why: api.ByType}); !same(got, want) {
		t.Errorf("Enter is %v, not %v", got, want)
	}
	if got, want := in(api.Limit, reprice(buy(5, 15, 3))), (match.Result{Rest: reprice(buy(5, 12, 3))}); !same(got, want) {
		t.Errorf("Enter is %v, not %v", got, want)
	}
	if got, want := in(api.Limit, buy(6, 15, 3)), (match.Result{Gone: 3, Why: api.ByBand}); !same(got, want) {
		t.Errorf("Enter is %v, not %v", got, want)
	}
}

func TestP1502Edge(t *testing.T) {
	const least, most = math.MinInt64, math.MaxInt64
	for _, c := range []struct {
		price     int64
		band      api.Band
		buy, sell int64 // the edge with Reprice
	}{
		{10, around, 10, 10}, {8, around, 8, 8}, {12, around, 12, 12}, {7, around, 7, 8}, {13, around, 12, 13}, {1, around, 1, 8}, {1 << 40, around, 12, 1 << 40},
		{0, around, 0, 8}, {-1, around, -1, 8}, {least, around, least, 8}, {most, around, 12, most}, {1<<40 + 1, around, 12, 1<<40 + 1},
		{10, api.Band{}, 0, 10}, {0, api.Band{}, 0, 0}, {-1, api.Band{}, -1, 0}, {1, api.Band{}, 0, 1},
		{10, api.Band{Lo: 12, Hi: 8}, 8, 12}, {8, api.Band{Lo: 12, Hi: 8}, 8, 12}, {7, api.Band{Lo: 12, Hi: 8}, 7, 12}, {13, api.Band{Lo: 12, Hi: 8}, 8, 13},
		{10, api.Band{Lo: least, Hi: most}, 10, 10}, {10, api.Band{Lo: most, Hi: least}, least, most}, {least, api.Band{Lo: least, Hi: least}, least, least}, {most, api.Band{Lo: most, Hi: most}, most, most},
		{most, api.Band{Lo: least, Hi: least}, least, most}, {least, api.Band{Lo: most, Hi: most}, least, most}, {5, api.Band{Lo: -3, Hi: -2}, -2, 5},
	} {
		for kind := -1; kind <= 6; kind++ {
			for _, flags := range []int{4, 5, 6, 7, 12, -1, -4, math.MaxInt, 1<<32 + 4, 0, 1, 2, 3, 8, 11, -5, math.MinInt, 1 << 32, 1<<34 + 3} {
				e := match.Entry{O: api.Order{ID: 3, Owner: 4, Price: c.price, Qty: 5, Flags: flags, Seq: 6}, Type: kind, Band: c.band, Self: kind}
				want := []int64{c.buy, c.sell}
				if flags&4 == 0 {
					want = []int64{c.price, c.price}
				}
				for side := range 2 {
					e.O.Side = side
					if got := match.Edge(e); got != want[side] {
						t.Errorf("Edge of %v is %d, not %d", e, got, want[side])
					}
				}
				for _, side := range append(noNumbers(), 2, 3) {
					e.O.Side = side
					if got := match.Edge(e); got != c.price {
						t.Errorf("Edge of %v is %d, not %d", e, got, c.price)
					}
				}
			}
		}
	}
}

func TestP1502Why(t *testing.T) {
	for side := range 2 {
		// 3 trade, then there is an order of the owner 7, and one outside the band.
		s := wide(onSide(side, sell(1, 10, 3)), of(7, onSide(side, sell(2, 11, 2))), onSide(side, sell(3, 14, 2)))
		first := sweep.Fill{ID: 1, Price: onSide(side, buy(0, 10, 0)).Price, Qty: 3}
		second := sweep.Fill{ID: 2, Price: onSide(side, buy(0, 11, 0)).Price, Qty: 2}
		removed := second
		removed.Gone = true
		for _, c := range []struct {
			kind  int
			price int64
			self  int
			gone  int64
			why   int
			fills []sweep.Fill
		}{
			{api.Now, 11, 0, 4, api.ByType, []sweep.Fill{first, second}},
			{api.Now, 13, 0, 4, api.ByType, []sweep.Fill{first, second}},
			{api.Now, 14, 0, 4, api.ByBand, []sweep.Fill{first, second}},
			{api.Now, 10, 1, 6, api.ByType, []sweep.Fill{first}},
			{api.Now, 11, 1, 6, api.BySelf, []sweep.Fill{first}},
			{api.Now, 14, 1, 6, api.BySelf, []sweep.Fill{first}},
			{api.Now, 14, 3, 6, api.BySelf, []sweep.Fill{first, removed}},
			{api.Now, 13, 2, 6, api.ByType, []sweep.Fill{first, removed}},
			{api.Now, 14, 2, 6, api.ByBand, []sweep.Fill{first, removed}},
			{api.Now, 9, 2, 9, api.ByType, nil},
			{api.Limit, 11, 1, 6, api.BySelf, []sweep.Fill{first}},
			{api.Limit, 14, 1, 6, api.BySelf, []sweep.Fill{first}},
			{api.Limit, 13, 3, 6, api.BySelf, []sweep.Fill{first, removed}},
			{api.Limit, 13, 0, 4, api.ByBand, []sweep.Fill{first, second}},
			{api.Limit, 14, 0, 4, api.ByBand, []sweep.Fill{first, second}},
			{api.Limit, 13, 2, 6, api.ByBand, []sweep.Fill{first, removed}},
			{api.Market, 0, 0, 4, api.ByBand, []sweep.Fill{first, second}},
			{api.Market, 0, 1, 6, api.BySelf, []sweep.Fill{first}},
			{api.Market, 0, 2, 6, api.ByBand, []sweep.Fill{first, removed}},
			{api.Market, 0, 3, 6, api.BySelf, []sweep.Fill{first, removed}},
		} {
			o := of(7, onSide(side, buy(4, c.price, 9)))
			if c.kind == api.Market {
				o.Price = 0
			}
			e := match.Entry{O: o, Type: c.kind, Band: onSideBand(side, around), Self: c.self}
			s.gives(t, e, match.Result{Fills: c.fills, Gone: c.gone, Why: c.why})
		}
		// As many as there are, whatever comes behind them.
		for kind := 1; kind <= 4; kind++ {
			for self := range 4 {
				o := of(7, onSide(side, buy(4, 13, 3)))
				if kind == api.Market {
					o.Price = 0
				}
				s.gives(t, match.Entry{O: o, Type: kind, Band: onSideBand(side, around), Self: self}, match.Result{Fills: []sweep.Fill{first}})
			}
		}
		// A book without orders: what a Market order asks for is gone by its type.
		o := onSide(side, buy(4, 10, 9))
		o.Price = 0
		wide().gives(t, match.Entry{O: o, Type: api.Market, Band: around}, match.Result{Gone: 9, Why: api.ByType})
		wide().gives(t, match.Entry{O: onSide(side, buy(4, 13, 9)), Type: api.Post, Band: around}, match.Result{Gone: 9, Why: api.ByBand})
		wide().gives(t, match.Entry{O: onSide(side, buy(4, 13, 9)), Type: api.Now, Band: around}, match.Result{Gone: 9, Why: api.ByType})
	}
}

func TestP1502RestsAsItCame(t *testing.T) {
	for side := range 2 {
		s := wide(onSide(side, buy(1, 10, 1)), onSide(side, buy(2, 10, 1)), onSide(side, buy(3, 11, 1)), onSide(side, buy(4, 9, 1)), onSide(side, sell(5, 12, 2)))
		for _, kind := range []int{api.Limit, api.Post} {
			for _, flags := range []int{0, 1, 2, 3, 4, 7, 8, -1, math.MinInt, math.MaxInt} {
				for _, number := range []int64{math.MinInt64, -1, 0, 6, math.MaxInt64} {
					o := onSide(side, api.Order{ID: number, Owner: int(number), Side: 0, Price: 10, Qty: 7, Flags: flags, Seq: number})
					for self := range 4 {
						// The last one of its price, with every number that it came with.
						s.gives(t, match.Entry{O: o, Type: kind, Band: all, Self: self}, match.Result{Rest: o})
					}
				}
			}
		}
		o := onSide(side, api.Order{ID: 6, Owner: 7, Price: 15, Qty: 7, Flags: 7, Seq: -8})
		rest := onSide(side, api.Order{ID: 6, Owner: 7, Price: 12, Qty: 5, Flags: 7, Seq: -8})
		fill := sweep.Fill{ID: 5, Price: rest.Price, Qty: 2}
		s.gives(t, match.Entry{O: o, Type: api.Limit, Band: onSideBand(side, around)}, match.Result{Fills: []sweep.Fill{fill}, Rest: rest})
	}
}

func TestP1502PostRestsAtItsEdge(t *testing.T) {
	for side := range 2 {
		s := wide(onSide(side, sell(1, 16, 5)))
		for price := int64(1); price <= 15; price++ {
			for _, band := range []api.Band{all, around, {Lo: 10, Hi: 10}, {Lo: 13, Hi: 18}} {
				o := onSide(side, buy(2, price, 3))
				want := match.Result{Rest: o}
				if price > band.Hi {
					want = match.Result{Gone: 3, Why: api.ByBand}
				}
				s.gives(t, match.Entry{O: o, Type: api.Post, Band: onSideBand(side, band)}, want)
				rest := reprice(onSide(side, buy(2, min(price, band.Hi), 3)))
				s.gives(t, match.Entry{O: reprice(o), Type: api.Post, Band: onSideBand(side, band)}, match.Result{Rest: rest})
			}
		}
	}
}

func TestP1502RestsOnTheFarSideOfTheBand(t *testing.T) {
	// A price that is outside the band where nobody asks for better ones is not beyond it.
	for side := range 2 {
		for price := int64(1); price < 8; price++ {
			for _, kind := range []int{api.Limit, api.Post} {
				o := onSide(side, buy(2, price, 3))
				wide().gives(t, match.Entry{O: o, Type: kind, Band: around}, match.Result{Rest: o})
				wide().gives(t, match.Entry{O: reprice(o), Type: kind, Band: around}, match.Result{Rest: reprice(o)})
			}
		}
	}
}

func TestP1502NextOrderIsOutsideTheBand(t *testing.T) {
	for side := range 2 {
		// Too far from the band for a trade, where a taker is glad of it.
		s := wide(onSide(side, sell(1, 5, 2)), onSide(side, sell(2, 10, 2)))
		for price := int64(1); price <= 19; price++ {
			o := onSide(side, buy(3, price, 3))
			for _, o := range []api.Order{o, reprice(o)} {
				rest, beyond := edge(match.Entry{O: o, Band: around})
				want := match.Result{Rest: o}
				want.Rest.Price = rest
				if beyond || price >= 5 {
					want = match.Result{Gone: 3, Why: api.ByBand}
				}
				s.gives(t, match.Entry{O: o, Type: api.Limit, Band: around}, want)
			}
			if price >= 5 {
				s.gives(t, match.Entry{O: o, Type: api.Now, Band: around}, match.Result{Gone: 3, Why: api.ByBand})
			}
		}
		// Behind what trades, and worse than the edge: it stays in nobody's way.
		s = wide(onSide(side, sell(1, 10, 2)), onSide(side, sell(2, 13, 2)), onSide(side, sell(3, 14, 2)))
		fill := sweep.Fill{ID: 1, Price: 10, Qty: 2}
		rest := reprice(onSide(side, buy(4, 12, 1)))
		s.gives(t, match.Entry{O: reprice(onSide(side, buy(4, 15, 3))), Type: api.Limit, Band: around}, match.Result{Fills: []sweep.Fill{fill}, Rest: rest})
		s.gives(t, match.Entry{O: onSide(side, buy(4, 15, 3)), Type: api.Limit, Band: around}, match.Result{Fills: []sweep.Fill{fill}, Gone: 1, Why: api.ByBand})
		// Where the band has no prices, it may be outside and worse than the edge, or not.
		none := onSideBand(side, api.Band{Lo: 12, Hi: 8})
		for price, rests := range map[int64]bool{7: false, 8: false, 9: true, 10: true, 13: true} {
			s = wide(onSide(side, sell(1, price, 2)))
			want := match.Result{Gone: 3, Why: api.ByBand}
			if rests {
				want = match.Result{Rest: reprice(onSide(side, buy(4, 8, 3)))}
			}
			s.gives(t, match.Entry{O: reprice(onSide(side, buy(4, 15, 3))), Type: api.Limit, Band: none}, want)
		}
	}
}

func TestP1502EdgeAtTheEndsOfPrices(t *testing.T) {
	const most = int64(api.MaxPrice)
	gone := match.Result{Gone: 3, Why: api.ByBand}
	for _, kind := range []int{api.Limit, api.Post} {
		for _, hi := range []int64{math.MinInt64, math.MinInt64 + 1, -most, -1, 0, 1, 2, most - 1, most, most + 1, math.MaxInt64} {
			for _, price := range []int64{1, 2, 3, most - 1, most} {
				want := match.Result{Rest: reprice(buy(1, min(price, hi), 3))}
				if hi < 1 {
					want = gone
				}
				wide().gives(t, match.Entry{O: reprice(buy(1, price, 3)), Type: kind, Band: api.Band{Lo: math.MinInt64, Hi: hi}}, want)
				want = match.Result{Rest: buy(1, price, 3)}
				if price > hi {
					want = gone
				}
				wide().gives(t, match.Entry{O: buy(1, price, 3), Type: kind, Band: api.Band{Lo: math.MaxInt64, Hi: hi}}, want)
			}
		}
		for _, lo := range []int64{math.MinInt64, -1, 0, 1, 2, most - 1, most, most + 1, most + 2, math.MaxInt64 - 1, math.MaxInt64} {
			for _, price := range []int64{1, 2, 3, most - 1, most} {
				want := match.Result{Rest: reprice(sell(1, max(price, lo), 3))}
				if lo > most {
					want = gone
				}
				wide().gives(t, match.Entry{O: reprice(sell(1, price, 3)), Type: kind, Band: api.Band{Lo: lo, Hi: math.MaxInt64}}, want)
				want = match.Result{Rest: sell(1, price, 3)}
				if price < lo {
					want = gone
				}
				wide().gives(t, match.Entry{O: sell(1, price, 3), Type: kind, Band: api.Band{Lo: lo, Hi: math.MinInt64}}, want)
			}
		}
	}
}

func TestP1502ABookThatIsFull(t *testing.T) {
	for side := range 2 {
		s := shelf{500, 200, nil}
		var fills []sweep.Fill
		for n := range int64(500) {
			o := api.Order{ID: n, Side: 1 - side, Price: 1<<39 - n%200, Qty: api.MaxQty}
			s.orders = append(s.orders, o)
		}
		for _, o := range s.side(1 - side) {
			fills = append(fills, sweep.Fill{ID: o.ID, Price: o.Price, Qty: api.MaxQty})
		}
		o := api.Order{ID: 500, Side: side, Price: 1 << 39, Qty: api.MaxQty}
		s.gives(t, match.Entry{O: o, Type: api.Limit, Band: all}, match.Result{Fills: fills[:1]})
		s.gives(t, match.Entry{O: o, Type: api.All, Band: all}, match.Result{Fills: fills[:1]})
		// All of them go, and what comes would rest then; but the book as it is has no room.
		for n := range s.orders {
			s.orders[n].Qty = 1
			fills[n].Qty = 1
		}
		o.Price -= int64(side) * 199
		s.faulty(t, match.Entry{O: o, Type: api.Limit, Band: all}, api.Full)
		s.gives(t, match.Entry{O: o, Type: api.Now, Band: all}, match.Result{Fills: fills, Gone: api.MaxQty - 500, Why: api.ByType})
		o.Qty = 500
		s.gives(t, match.Entry{O: o, Type: api.Limit, Band: all}, match.Result{Fills: fills})
		// With one less there is room.
		s.orders, fills = slices.Clone(s.orders[1:]), fills[1:]
		o.Qty = api.MaxQty
		r, after := s.enters(t, match.Entry{O: o, Type: api.Limit, Band: all})
		o.Qty -= 499
		if len(r.Fills) != 499 || r.Rest != o || len(after.orders) != 1 {
			t.Errorf("%d trade, and %v rests", len(r.Fills), r.Rest)
		}
	}
}

func TestP1502ResultsAreTheirOwn(t *testing.T) {
	e := match.Entry{O: buy(4, 12, 9), Type: api.Limit, Band: all}
	one := wide(sell(1, 10, 3), sell(2, 11, 5)).book(t)
	other := wide(sell(1, 10, 3), sell(2, 11, 5)).book(t)
	first, second := match.Enter(one, e), match.Enter(other, e)
	want := slices.Clone(second.Fills)
	whole := first.Fills[:cap(first.Fills)]
	for n := range whole {
		whole[n] = sweep.Fill{ID: 99, Price: 99, Qty: 99}
	}
	wide(e.O).after([]sweep.Fill{{ID: 4, Qty: 8}}).is(t, one)
	// What the book does later is not seen in a result.
	match.Enter(other, match.Entry{O: sell(5, 12, 1), Type: api.Now, Band: all})
	match.Enter(other, match.Entry{O: sell(6, 13, 2), Type: api.Limit, Band: all})
	if !slices.Equal(second.Fills, want) {
		t.Errorf("the Fills become %v", second.Fills)
	}
	wide(sell(6, 13, 2)).is(t, other)
}

// everyShelf calls a function with each shelf of one or two orders that a taker of a side may meet, behind one of its own side; some have no room for what comes.
func everyShelf(side int, visit func(s shelf)) {
	var kinds []api.Order
	for price := int64(2); price <= 4; price++ {
		for qty := int64(1); qty <= 2; qty++ {
			for owner := range 2 {
				kinds = append(kinds, api.Order{ID: 1, Owner: owner, Side: 1 - side, Price: price, Qty: qty})
			}
		}
	}
	first := api.Order{ID: 9, Side: side, Price: int64(1 + 4*side), Qty: 1}
	for n, one := range kinds {
		visit(shelf{2 + n%2, 1, []api.Order{first, one}})
		visit(shelf{3, 2, []api.Order{first, one}})
		for m, two := range kinds {
			two.ID = 2
			visit(shelf{3 + (n+m)%2, 2, []api.Order{first, one, two}})
			if one.Price == two.Price {
				visit(shelf{4, 1, []api.Order{first, one, two}})
			}
		}
	}
}

// everyEntry calls a function with the entries of a side that differ for such shelves.
func everyEntry(side int, visit func(e match.Entry)) {
	bands := []api.Band{{Lo: 1, Hi: 9}, {Lo: 1, Hi: 3}, {Lo: 3, Hi: 9}, {Lo: 3, Hi: 3}, {Lo: 4, Hi: 2}}
	for _, band := range bands {
		for kind := 1; kind <= 5; kind++ {
			lo, hi := int64(1+side), int64(4+side)
			if kind == api.Market {
				lo, hi = 0, 0
			}
			for price := lo; price <= hi; price++ {
				for qty := int64(1); qty <= 5; qty += 2 {
					for n := range 8 {
						o := api.Order{ID: 3, Side: side, Price: price, Qty: qty, Flags: n & 4}
						visit(match.Entry{O: o, Type: kind, Band: band, Self: n & 3})
					}
				}
			}
		}
	}
}

func TestP1502EverySmallBook(t *testing.T) {
	for side := range 2 {
		everyShelf(side, func(s shelf) {
			b := s.book(t)
			everyEntry(side, func(e match.Entry) {
				if r, _ := s.entersBook(t, b, e); len(r.Fills) > 0 || r.Rest.Qty > 0 {
					b = s.book(t)
				}
			})
		})
	}
}

// entry is one of any kind, with now and then a number that is wrong.
func (d *dice) entry(ids int64, owners, prices int) match.Entry {
	e := match.Entry{Type: 1 + d.below(5), Self: d.below(5)}
	e.O = api.Order{ID: int64(d.next() % uint64(ids)), Owner: d.below(owners), Side: d.below(2), Price: int64(1 + d.below(prices)), Qty: int64(1 + d.below(9)), Flags: d.below(8), Seq: int64(d.next())}
	if d.below(3) == 0 {
		e.O.Qty *= 8
	}
	if e.Type == api.Market {
		e.O.Price = 0
	}
	e.Band = api.Band{Lo: int64(d.below(prices / 2)), Hi: int64(prices/2 + d.below(prices))}
	switch d.below(60) {
	case 0:
		e.O.Side = int(d.pick(-1, 2, math.MaxInt64))
	case 1:
		e.Type = int(d.pick(-1, 0, 6))
	case 2:
		e.O.Qty = d.pick(-1, 0, 1<<32+1)
	case 3:
		e.O.Price = d.pick(-1, 0, 1, 1<<40+1)
	case 4:
		e.Band = api.Band{Lo: e.Band.Hi, Hi: e.Band.Lo}
	case 5:
		e.Band = api.Band{Lo: 1<<40 + 1, Hi: 0}
	}
	return e
}

func TestP1503LongBooks(t *testing.T) {
	var d dice
	faults, whys := [16]int{}, [8]int{}
	rested := 0
	for round := range 60 {
		s := shelf{slots: 1 + d.below(20), levels: 1 + d.below(6)}
		entries := 300
		if round%6 == 0 {
			s.slots, s.levels, entries = 500, 200, 900
		}
		b := s.book(t)
		owners, prices := 1+d.below(6), 4+d.below(60)
		for range entries {
			var r match.Result
			r, s = s.entersBook(t, b, d.entry(900, owners, prices))
			if s.crossed() || b.Crossed() {
				t.Fatalf("the book is crossed: %v", s)
			}
			faults[r.Fault]++
			whys[r.Why]++
			if r.Rest.Qty > 0 {
				rested++
			}
		}
	}
	for _, fault := range []api.Fault{api.OK, api.BadArg, api.Range, api.Twice, api.Crossing, api.NoFill, api.Full} {
		if faults[fault] < 100 {
			t.Errorf("the fault %d comes %d times", fault, faults[fault])
		}
	}
	for _, why := range []int{api.ByType, api.ByBand, api.BySelf} {
		if whys[why] < 100 {
			t.Errorf("Why is %d %d times", why, whys[why])
		}
	}
	if rested < 100 {
		t.Errorf("an order rests %d times", rested)
	}
}

func TestP1503ABookThatIsCrossed(t *testing.T) {
	// What is crossed ahead stays as the words say; what comes rests only where it does not cross anything.
	for side := range 2 {
		s := wide(onSide(side, buy(1, 14, 2)), onSide(side, sell(2, 9, 2)), onSide(side, sell(3, 13, 2)))
		for price := int64(1); price <= 19; price++ {
			for qty := int64(1); qty <= 5; qty++ {
				for kind := 1; kind <= 5; kind++ {
					for _, flags := range []int{0, 4} {
						for mine := range 2 {
							o := api.Order{ID: 4, Side: mine, Price: price, Qty: qty, Flags: flags}
							if kind == api.Market {
								o.Price = 0
							}
							for _, band := range []api.Band{all, around, {Lo: 10, Hi: 14}} {
								s.enters(t, match.Entry{O: o, Type: kind, Band: band})
							}
						}
					}
				}
			}
		}
	}
}

func TestP1503Example(t *testing.T) {
	wide(sell(1, 10, 5)).gives(t, match.Entry{O: buy(2, 10, 8), Type: api.Limit, Band: all}, match.Result{Fills: []sweep.Fill{{ID: 1, Price: 10, Qty: 5}}, Rest: buy(2, 10, 3)})
}
