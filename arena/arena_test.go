package arena_test

import (
	"math"
	"slices"
	"testing"

	"damper/api"
	"damper/arena"
)

// dice gives numbers that look like nothing, the same ones at every run.
type dice uint64

func (d *dice) next() uint64 {
	*d += 0x9e3779b97f4a7c15
	z := uint64(*d)
	z = (z ^ z>>30) * 0xbf58476d1ce4e5b9
	z = (z ^ z>>27) * 0x94d049bb133111eb
	return z ^ z>>31
}

func (d *dice) below(n int) int {
	return int(d.next() % uint64(n))
}

// order is one with any values in all its fields, most of which no order of a book has.
func (d *dice) order() api.Order {
	return api.Order{
		ID:    int64(d.next()),
		Owner: int(d.next()),
		Side:  int(d.next()),
		Price: int64(d.next()),
		Qty:   int64(d.next()),
		Flags: int(d.next()),
		Seq:   int64(d.next()),
	}
}

// model is what the chapter says of an arena: of each slot whether it is taken, its order, and when it was dropped the last time, from 1 on.
type model struct {
	slots []place
	drops int
}

type place struct {
	taken   bool
	order   api.Order
	dropped int
}

func newModel(slots int) *model {
	return &model{slots: make([]place, slots)}
}

// take returns the number of the slot; -1 if none is free.
func (m *model) take(o api.Order) int {
	best := -1
	for n, p := range m.slots {
		if !p.taken && (best < 0 || p.dropped > m.slots[best].dropped) {
			best = n
		}
	}
	if best >= 0 {
		m.slots[best].taken = true
		m.slots[best].order = o
	}
	return best
}

func (m *model) has(slot int) bool {
	return slot >= 0 && slot < len(m.slots) && m.slots[slot].taken
}

func (m *model) drop(slot int) bool {
	if !m.has(slot) {
		return false
	}
	m.drops++
	m.slots[slot] = place{dropped: m.drops}
	return true
}

func (m *model) set(slot int, o api.Order) bool {
	if !m.has(slot) {
		return false
	}
	m.slots[slot].order = o
	return true
}

func (m *model) used() int {
	n := 0
	for _, p := range m.slots {
		if p.taken {
			n++
		}
	}
	return n
}

// held is a slot and its order.
type held struct {
	slot  int
	order api.Order
}

func (m *model) each() []held {
	var out []held
	for n, p := range m.slots {
		if p.taken {
			out = append(out, held{n, p.order})
		}
	}
	return out
}

// collected are the slots that an arena yields.
func collected(a *arena.Arena) []held {
	var out []held
	for n, o := range a.Each() {
		out = append(out, held{n, o})
	}
	return out
}

// made is an arena with so many slots.
func made(t *testing.T, slots int) *arena.Arena {
	t.Helper()
	a, fault := arena.New(slots)
	if fault != api.OK || a == nil {
		t.Fatalf("New(%d) is %v and %d", slots, a, fault)
	}
	return a
}

// full is an arena with so many slots, all of which are taken, the one of number n by an order whose ID is 100 + n.
func full(t *testing.T, slots int) *arena.Arena {
	t.Helper()
	a := made(t, slots)
	for n := range slots {
		takes(t, a, api.Order{ID: 100 + int64(n)}, n)
	}
	return a
}

// takes fails the test where Take returns another slot than the wanted one; -1 stands for Full.
func takes(t *testing.T, a *arena.Arena, o api.Order, want int) {
	t.Helper()
	slot, fault := a.Take(o)
	number, told := want, api.OK
	if want < 0 {
		number, told = 0, api.Full
	}
	if slot != number || fault != told {
		t.Fatalf("Take is %d and fault %d, not %d and %d", slot, fault, number, told)
	}
}

// drops fails the test where Drop answers something else.
func drops(t *testing.T, a *arena.Arena, slot int, want bool) {
	t.Helper()
	if got := a.Drop(slot); got != want {
		t.Fatalf("Drop(%d) is %t, not %t", slot, got, want)
	}
}

// beyond are numbers that are no slot of an arena with so many.
func beyond(slots int) []int {
	return []int{math.MinInt, math.MinInt + 1, -1 << 32, -slots - 1, -slots, -2, -1, slots, slots + 1, 2 * slots, 1 << 8 << 8, 1 << 32, 1<<32 + 1, math.MaxInt - 1, math.MaxInt}
}

// same fails the test where an arena tells anything else than its model.
func same(t *testing.T, a *arena.Arena, m *model) {
	t.Helper()
	if used, room := a.Used(), a.Room(); used != m.used() || room != len(m.slots)-m.used() {
		t.Fatalf("Used is %d and Room is %d, not %d and %d", used, room, m.used(), len(m.slots)-m.used())
	}
	for n, p := range m.slots {
		if o, ok := a.Get(n); o != p.order || ok != p.taken {
			t.Fatalf("Get(%d) is %v and %t, not %v and %t", n, o, ok, p.order, p.taken)
		}
	}
	for _, n := range beyond(len(m.slots)) {
		if o, ok := a.Get(n); o != (api.Order{}) || ok {
			t.Fatalf("Get(%d) is %v and %t in an arena with %d slots", n, o, ok, len(m.slots))
		}
	}
	if got, want := collected(a), m.each(); !slices.Equal(got, want) {
		t.Fatalf("Each yields %v, not %v", got, want)
	}
}

// sizes are numbers of slots, with both ends.
func sizes() []int {
	return []int{1, 2, 3, 4, 7, 8, 9, 63, 64, 65, 255, 256, 257, 499, 500}
}

func TestP901Examples(t *testing.T) {
	a := made(t, 2)
	takes(t, a, api.Order{ID: 7}, 0)
	takes(t, a, api.Order{ID: 8}, 1)
	takes(t, a, api.Order{ID: 9}, -1)
	drops(t, a, 1, true)
	drops(t, a, 1, false)

	b := made(t, 2)
	takes(t, b, api.Order{}, 0)
	takes(t, b, api.Order{}, 1)
	drops(t, b, 0, true)
	takes(t, b, api.Order{}, 0)
}

func TestP901NewInAndOutOfItsRange(t *testing.T) {
	for slots := -600; slots <= 1200; slots++ {
		a, fault := arena.New(slots)
		switch {
		case slots < 1 || slots > api.MaxSlots:
			if a != nil || fault != api.Range {
				t.Errorf("New(%d) is fault %d, and an arena: %t", slots, fault, a != nil)
			}
		case a == nil || fault != api.OK || a.Used() != 0 || a.Room() != slots || len(collected(a)) > 0:
			t.Errorf("New(%d) is fault %d, and not an arena with all of its slots free", slots, fault)
		}
	}
	for _, slots := range []int{math.MinInt, math.MinInt + 1, -1 << 32, 1<<32 + 1, 1 << 32, math.MaxInt - 1, math.MaxInt} {
		if a, fault := arena.New(slots); a != nil || fault != api.Range {
			t.Errorf("New(%d) is fault %d, and an arena: %t", slots, fault, a != nil)
		}
	}
}

func TestP901NewSlotsAreFree(t *testing.T) {
	for _, slots := range sizes() {
		a := made(t, slots)
		same(t, a, newModel(slots))
		for n := range slots {
			drops(t, a, n, false)
		}
		same(t, a, newModel(slots))
	}
}

func TestP901TakeGoesUpThroughTheSlotsThatWereNeverDropped(t *testing.T) {
	for slots := 1; slots <= api.MaxSlots; slots++ {
		a := full(t, slots)
		takes(t, a, api.Order{}, -1)
		takes(t, a, api.Order{ID: 1}, -1)
	}
}

func TestP901TakeReturnsTheSlotThatWasDroppedLast(t *testing.T) {
	a := full(t, 5)
	for _, n := range []int{3, 0, 4, 1} {
		drops(t, a, n, true)
	}
	for _, n := range []int{1, 4, 0, 3, -1} {
		takes(t, a, api.Order{}, n)
	}
}

func TestP901TakeReturnsDroppedSlotsAheadOfOthers(t *testing.T) {
	a := made(t, 6)
	for n := range 4 {
		takes(t, a, api.Order{}, n)
	}
	drops(t, a, 2, true)
	drops(t, a, 0, true)
	for _, n := range []int{0, 2, 4} {
		takes(t, a, api.Order{}, n)
	}
	drops(t, a, 3, true)
	for _, n := range []int{3, 5, -1} {
		takes(t, a, api.Order{}, n)
	}
}

func TestP901ASlotThatWasDroppedBeforeIsDroppedLastAgain(t *testing.T) {
	a := full(t, 3)
	drops(t, a, 1, true)
	takes(t, a, api.Order{}, 1)
	drops(t, a, 2, true)
	drops(t, a, 1, true)
	drops(t, a, 0, true)
	for _, n := range []int{0, 1, 2, -1} {
		takes(t, a, api.Order{}, n)
	}
}

func TestP901FullChangesNothing(t *testing.T) {
	d := dice(901)
	for _, slots := range sizes() {
		a, m := made(t, slots), newModel(slots)
		for range slots {
			o := d.order()
			takes(t, a, o, m.take(o))
		}
		for range 3 {
			takes(t, a, d.order(), -1)
		}
		same(t, a, m)
		drops(t, a, slots/2, m.drop(slots/2))
		o := d.order()
		takes(t, a, o, m.take(o))
		takes(t, a, d.order(), -1)
		same(t, a, m)
	}
}

func TestP901DropOfWhatIsNoTakenSlot(t *testing.T) {
	for _, slots := range []int{1, 2, 5, 499, 500} {
		a, m := made(t, slots), newModel(slots)
		for n := range (slots + 1) / 2 {
			o := api.Order{ID: int64(n)}
			takes(t, a, o, m.take(o))
		}
		for _, n := range beyond(slots) {
			drops(t, a, n, false)
		}
		for n := (slots + 1) / 2; n < slots; n++ {
			drops(t, a, n, false)
		}
		same(t, a, m)
		// Nothing of it is in the order in which slots are taken.
		for range slots/2 + 1 {
			takes(t, a, api.Order{}, m.take(api.Order{}))
		}
		same(t, a, m)
	}
}

func TestP901DropAgainDoesNotMakeItTheLastOne(t *testing.T) {
	a := full(t, 3)
	drops(t, a, 0, true)
	drops(t, a, 2, true)
	drops(t, a, 0, false)
	for _, n := range []int{2, 0, -1} {
		takes(t, a, api.Order{}, n)
	}
}

func TestP902GetAndSet(t *testing.T) {
	d := dice(902)
	for _, slots := range sizes() {
		a, m := made(t, slots), newModel(slots)
		for range (slots + 1) / 2 {
			o := d.order()
			takes(t, a, o, m.take(o))
		}
		for n := -3; n < slots+3; n++ {
			o := d.order()
			if got, want := a.Set(n, o), m.set(n, o); got != want {
				t.Fatalf("Set(%d) is %t, not %t", n, got, want)
			}
		}
		same(t, a, m)
		for _, n := range beyond(slots) {
			if a.Set(n, d.order()) {
				t.Fatalf("Set(%d) is true in an arena with %d slots", n, slots)
			}
		}
		same(t, a, m)
	}
}

func TestP902ADroppedSlotHasNoOrder(t *testing.T) {
	a := full(t, 3)
	drops(t, a, 1, true)
	if o, ok := a.Get(1); o != (api.Order{}) || ok {
		t.Errorf("Get of a dropped slot is %v and %t", o, ok)
	}
	if a.Set(1, api.Order{ID: 5}) {
		t.Error("Set of a dropped slot is true")
	}
	if o, ok := a.Get(1); o != (api.Order{}) || ok {
		t.Errorf("Get of a dropped slot is %v and %t after Set", o, ok)
	}
	takes(t, a, api.Order{Seq: 4}, 1)
	if o, ok := a.Get(1); o != (api.Order{Seq: 4}) || !ok {
		t.Errorf("Get of a slot that was taken again is %v and %t", o, ok)
	}
}

func TestP902AnOrderWithoutValuesIsAnOrder(t *testing.T) {
	a := made(t, 2)
	takes(t, a, api.Order{}, 0)
	if o, ok := a.Get(0); o != (api.Order{}) || !ok {
		t.Errorf("Get is %v and %t", o, ok)
	}
	if !a.Set(0, api.Order{}) {
		t.Error("Set is false")
	}
	if got, want := collected(a), []held{{}}; !slices.Equal(got, want) {
		t.Errorf("Each yields %v, not %v", got, want)
	}
	if a.Used() != 1 || a.Room() != 1 {
		t.Errorf("Used is %d and Room is %d", a.Used(), a.Room())
	}
}

func TestP902EveryFieldIsKept(t *testing.T) {
	for _, o := range []api.Order{
		{ID: math.MinInt64}, {ID: math.MaxInt64}, {Owner: math.MinInt}, {Owner: math.MaxInt}, {Side: math.MinInt}, {Side: math.MaxInt}, {Price: math.MinInt64}, {Price: math.MaxInt64},
		{Qty: math.MinInt64}, {Qty: math.MaxInt64}, {Flags: math.MinInt}, {Flags: math.MaxInt}, {Seq: math.MinInt64}, {Seq: math.MaxInt64}, {ID: 1, Owner: 2, Side: 3, Price: 4, Qty: 5, Flags: 6, Seq: 7},
	} {
		a := made(t, 3)
		takes(t, a, o, 0)
		takes(t, a, api.Order{}, 1)
		if !a.Set(1, o) {
			t.Fatal("Set(1) is false")
		}
		if got, want := collected(a), []held{{0, o}, {1, o}}; !slices.Equal(got, want) {
			t.Errorf("Each yields %v, not %v", got, want)
		}
	}
}

func TestP902EachGoesUpWhateverTheOrderOfTaking(t *testing.T) {
	a := full(t, 5)
	for _, n := range []int{0, 2, 4, 1} {
		drops(t, a, n, true)
	}
	for _, n := range []int{1, 4, 2} {
		takes(t, a, api.Order{ID: 200 + int64(n)}, n)
	}
	want := []held{{1, api.Order{ID: 201}}, {2, api.Order{ID: 202}}, {3, api.Order{ID: 103}}, {4, api.Order{ID: 204}}}
	if got := collected(a); !slices.Equal(got, want) {
		t.Errorf("Each yields %v, not %v", got, want)
	}
}

func TestP902EachStopsWithItsConsumer(t *testing.T) {
	for _, slots := range []int{1, 2, 9, 500} {
		a := full(t, slots)
		if slots > 4 {
			drops(t, a, 3, true)
			drops(t, a, slots-1, true)
		}
		want := collected(a)
		for stop := range want {
			var got []held
			// A consumer that counts itself: a range would turn a call too many into a panic.
			a.Each()(func(slot int, o api.Order) bool {
				got = append(got, held{slot, o})
				return len(got) <= stop
			})
			if !slices.Equal(got, want[:stop+1]) {
				t.Fatalf("of %d slots, stopped at %d, %v are yielded, not %v", slots, stop, got, want[:stop+1])
			}
		}
	}
}

func TestP902EachIsRangedOverAgain(t *testing.T) {
	a := full(t, 4)
	drops(t, a, 2, true)
	each, want := a.Each(), []held{{0, api.Order{ID: 100}}, {1, api.Order{ID: 101}}, {3, api.Order{ID: 103}}}
	for range 2 {
		var outer []held
		for n, o := range each {
			outer = append(outer, held{n, o})
			var inner []held
			for n, o := range each {
				inner = append(inner, held{n, o})
			}
			if !slices.Equal(inner, want) {
				t.Errorf("inside, %v are yielded, not %v", inner, want)
			}
		}
		if !slices.Equal(outer, want) {
			t.Errorf("%v are yielded, not %v", outer, want)
		}
	}
}

func TestP902EachChangesNothing(t *testing.T) {
	a, m := made(t, 6), newModel(6)
	for n := range 5 {
		takes(t, a, api.Order{ID: int64(n)}, m.take(api.Order{ID: int64(n)}))
	}
	for _, n := range []int{3, 1} {
		drops(t, a, n, m.drop(n))
	}
	for n, o := range a.Each() {
		// The order that is yielded is the consumer's own.
		o.ID += 1000
		if n == 2 {
			break
		}
	}
	same(t, a, m)
	for range 4 {
		takes(t, a, api.Order{}, m.take(api.Order{}))
	}
}

func TestP902EachWhoseConsumerDropsWhatIsYielded(t *testing.T) {
	a := full(t, 7)
	want := collected(a)
	var got []held
	for n, o := range a.Each() {
		got = append(got, held{n, o})
		drops(t, a, n, true)
	}
	if !slices.Equal(got, want) {
		t.Errorf("%v are yielded, not %v", got, want)
	}
	if a.Used() != 0 || a.Room() != 7 {
		t.Errorf("Used is %d and Room is %d", a.Used(), a.Room())
	}
	for n := 6; n >= 0; n-- {
		takes(t, a, api.Order{}, n)
	}
}

func TestP902EachYieldsWhatASlotHasWhenItsTurnComes(t *testing.T) {
	a := full(t, 5)
	each := a.Each()
	drops(t, a, 4, true)
	var got []held
	for n, o := range each {
		got = append(got, held{n, o})
		switch n {
		case 0:
			drops(t, a, 1, true)
			takes(t, a, api.Order{ID: 9}, 1)
			takes(t, a, api.Order{ID: 10}, 4)
		case 1:
			drops(t, a, 2, true)
			if !a.Set(0, api.Order{ID: 11}) || !a.Set(3, api.Order{ID: 12}) {
				t.Fatal("Set of a taken slot is false")
			}
		}
	}
	want := []held{{0, api.Order{ID: 100}}, {1, api.Order{ID: 9}}, {3, api.Order{ID: 12}}, {4, api.Order{ID: 10}}}
	if !slices.Equal(got, want) {
		t.Errorf("%v are yielded, not %v", got, want)
	}
}

func TestP902UsedAndRoom(t *testing.T) {
	for _, slots := range sizes() {
		a := made(t, slots)
		counts := func(used int) {
			t.Helper()
			if a.Used() != used || a.Room() != slots-used {
				t.Fatalf("Used is %d and Room is %d, not %d and %d", a.Used(), a.Room(), used, slots-used)
			}
		}
		for n := range slots {
			counts(n)
			takes(t, a, api.Order{}, n)
		}
		counts(slots)
		takes(t, a, api.Order{}, -1)
		counts(slots)
		for n := range slots {
			drops(t, a, n, true)
			counts(slots - n - 1)
			drops(t, a, n, false)
			a.Set(n, api.Order{})
			counts(slots - n - 1)
		}
	}
}

// tried does something to an arena and its model, and fails the test where they answer differently: 0 is Take, -1 to -slots Set, and 1 to slots Drop.
func tried(t *testing.T, a *arena.Arena, m *model, what int, o api.Order) {
	t.Helper()
	switch {
	case what == 0:
		takes(t, a, o, m.take(o))
	case what > 0:
		drops(t, a, what-1, m.drop(what-1))
	default:
		if got, want := a.Set(-what-1, o), m.set(-what-1, o); got != want {
			t.Fatalf("Set(%d) is %t, not %t", -what-1, got, want)
		}
	}
}

func TestP903EverySequenceOfTakesAndDrops(t *testing.T) {
	for slots, length := range map[int]int{1: 10, 2: 9, 3: 8, 4: 6} {
		sequences := 1
		for range length {
			sequences *= slots + 1
		}
		for s := range sequences {
			a, m, o := made(t, slots), newModel(slots), api.Order{}
			for range length {
				o.ID++
				tried(t, a, m, s%(slots+1), o)
				s /= slots + 1
			}
			same(t, a, m)
		}
	}
}

func TestP903EverySequenceWithSets(t *testing.T) {
	const slots, length, kinds = 2, 6, 5
	sequences := 1
	for range length {
		sequences *= kinds
	}
	for s := range sequences {
		a, m, o := made(t, slots), newModel(slots), api.Order{}
		for range length {
			o.ID++
			tried(t, a, m, s%kinds-slots, o)
			s /= kinds
			same(t, a, m)
		}
	}
}

func TestP903LongSequences(t *testing.T) {
	d := dice(903)
	for _, slots := range sizes() {
		// More takes than drops, as many, and fewer.
		for _, takes := range []int{1, 2, 3} {
			a, m := made(t, slots), newModel(slots)
			for step := range 3000 {
				what := 1 + d.below(slots+1) // a slot, or the number behind the last one
				switch n := d.below(6); {
				case n < takes:
					what = 0
				case n == 5:
					what = -what
				}
				tried(t, a, m, what, d.order())
				if step%50 == 0 {
					same(t, a, m)
				}
			}
			same(t, a, m)
		}
	}
}

func TestP903NoSlotIsTakenTwice(t *testing.T) {
	d := dice(904)
	a := made(t, api.MaxSlots)
	holders := map[int]int64{}
	for id := range int64(20000) {
		if d.below(5) < 2 {
			slot := d.below(api.MaxSlots)
			_, held := holders[slot]
			drops(t, a, slot, held)
			delete(holders, slot)
			continue
		}
		slot, fault := a.Take(api.Order{ID: id})
		if fault != api.OK {
			if len(holders) != api.MaxSlots {
				t.Fatalf("fault %d with %d slots taken", fault, len(holders))
			}
			continue
		}
		if other, held := holders[slot]; held || slot < 0 || slot >= api.MaxSlots {
			t.Fatalf("the slot %d is taken by %d, and by %d already", slot, id, other)
		}
		holders[slot] = id
	}
	if a.Used() != len(holders) {
		t.Errorf("Used is %d, not %d", a.Used(), len(holders))
	}
	for slot, id := range holders {
		if o, ok := a.Get(slot); o.ID != id || !ok {
			t.Errorf("the slot %d has %d and %t, not %d", slot, o.ID, ok, id)
		}
	}
}

func TestP903ArenasShareNothing(t *testing.T) {
	a, b := made(t, 3), made(t, 3)
	m, k := newModel(3), newModel(3)
	d := dice(905)
	for range 2000 {
		tried(t, a, m, d.below(7)-3, d.order())
		same(t, b, k)
		tried(t, b, k, d.below(7)-3, d.order())
		same(t, a, m)
	}
}

// closed fails the test where an arena without slots answers as if it had some.
func closed(t *testing.T, a *arena.Arena, want api.Fault) {
	t.Helper()
	if slot, fault := a.Take(api.Order{ID: 1}); slot != 0 || fault != want {
		t.Errorf("Take is %d and fault %d, not 0 and %d", slot, fault, want)
	}
	for _, n := range append(beyond(api.MaxSlots), 0, 1, 2, 499) {
		if a.Drop(n) {
			t.Errorf("Drop(%d) is true", n)
		}
		if o, ok := a.Get(n); o != (api.Order{}) || ok {
			t.Errorf("Get(%d) is %v and %t", n, o, ok)
		}
		if a.Set(n, api.Order{ID: 1}) {
			t.Errorf("Set(%d) is true", n)
		}
	}
	if a.Used() != 0 || a.Room() != 0 {
		t.Errorf("Used is %d and Room is %d", a.Used(), a.Room())
	}
	each := a.Each()
	for range 2 {
		for n, o := range each {
			t.Errorf("%d and %v are yielded", n, o)
		}
	}
}

func TestP901NilArena(t *testing.T) {
	closed(t, nil, api.BadArg)
}

func TestP901ArenaThatNewDidNotMake(t *testing.T) {
	closed(t, new(arena.Arena), api.Full)
}
