package index_test

import (
	"cmp"
	"math"
	"slices"
	"testing"

	"damper/api"
	"damper/index"
)

// dice gives numbers that look like nothing, the same ones at every run.
type dice uint64

func (d *dice) next() uint64 {
	*d += 0x9e3779b97f4a7c15
	z := uint64(*d)
	z = (z ^ z>>30) * 0xbf58476d1ce4e5b9
	z = (z ^ z>>27) * 0x94d049bb133111eb
	return z ^ z>>31
}

func (d *dice) below(n int) int {
	return int(d.next() % uint64(n))
}

// held is an ID and its slot.
type held struct {
	id   int64
	slot int
}

// entry is a key and its slot.
type entry struct {
	sym int
	held
}

// model is what the chapter says of an index: its keys, in the order in which they came.
type model struct {
	list []entry
}

// at returns where in the list a key is, -1 if it is not there.
func (m *model) at(sym int, id int64) int {
	return slices.IndexFunc(m.list, func(e entry) bool { return e.sym == sym && e.id == id })
}

func (m *model) put(sym int, id int64, slot int) bool {
	if m.at(sym, id) >= 0 {
		return false
	}
	m.list = append(m.list, entry{sym, held{id, slot}})
	return true
}

func (m *model) get(sym int, id int64) (int, bool) {
	n := m.at(sym, id)
	if n < 0 {
		return 0, false
	}
	return m.list[n].slot, true
}

func (m *model) drop(sym int, id int64) bool {
	n := m.at(sym, id)
	if n < 0 {
		return false
	}
	m.list = slices.Concat(m.list[:n], m.list[n+1:])
	return true
}

// each are the IDs of a symbol in ascending order, with their slots.
func (m *model) each(sym int) []held {
	var list []held
	for _, e := range m.list {
		if e.sym == sym {
			list = append(list, e.held)
		}
	}
	slices.SortFunc(list, func(a, b held) int { return cmp.Compare(a.id, b.id) })
	return list
}

func (m *model) clear(sym int) int {
	var kept []entry
	for _, e := range m.list {
		if e.sym != sym {
			kept = append(kept, e)
		}
	}
	n := len(m.list) - len(kept)
	m.list = kept
	return n
}

// pair is an index and the model of it.
type pair struct {
	x *index.Index
	m *model
}

// made is an index without keys, and its model.
func made(t *testing.T) pair {
	t.Helper()
	x := index.New()
	if x == nil {
		t.Fatal("New is nil")
	}
	return pair{x, &model{}}
}

// filled is an index with some IDs of one symbol: the first one has the slot 0, the second one 1.
func filled(t *testing.T, sym int, ids ...int64) pair {
	t.Helper()
	p := made(t)
	for slot, id := range ids {
		p.put(t, sym, id, slot)
	}
	return p
}

// The methods of a pair fail the test where the index answers something else than the model.

func (p pair) put(t *testing.T, sym int, id int64, slot int) {
	t.Helper()
	got := p.x.Put(index.Key{Sym: sym, ID: id}, slot)
	if want := p.m.put(sym, id, slot); got != want {
		t.Fatalf("Put({%d, %d}, %d) is %t, not %t", sym, id, slot, got, want)
	}
}

func (p pair) get(t *testing.T, sym int, id int64) {
	t.Helper()
	got, ok := p.x.Get(index.Key{Sym: sym, ID: id})
	if want, there := p.m.get(sym, id); got != want || ok != there {
		t.Fatalf("Get({%d, %d}) is %d and %t, not %d and %t", sym, id, got, ok, want, there)
	}
}

func (p pair) drop(t *testing.T, sym int, id int64) {
	t.Helper()
	got := p.x.Drop(index.Key{Sym: sym, ID: id})
	if want := p.m.drop(sym, id); got != want {
		t.Fatalf("Drop({%d, %d}) is %t, not %t", sym, id, got, want)
	}
}

func (p pair) clear(t *testing.T, sym int) {
	t.Helper()
	got := p.x.Clear(sym)
	if want := p.m.clear(sym); got != want {
		t.Fatalf("Clear(%d) is %d, not %d", sym, got, want)
	}
}

// same looks at what is told of the symbols of the keys and of those beside them, and of the IDs of the keys in each of these symbols.
func (p pair) same(t *testing.T) {
	t.Helper()
	syms := []int{math.MinInt, -1, 0, 1, math.MaxInt}
	ids := []int64{math.MinInt64, -1, 0, 1, math.MaxInt64}
	for _, e := range p.m.list {
		// Beyond the ends these wrap round, which gives symbols and IDs as well.
		syms = append(syms, e.sym-1, e.sym, e.sym+1)
		ids = append(ids, e.id)
	}
	slices.Sort(syms)
	slices.Sort(ids)
	for _, sym := range slices.Compact(syms) {
		want := p.m.each(sym)
		if got := p.x.Len(sym); got != len(want) {
			t.Fatalf("Len(%d) is %d, not %d", sym, got, len(want))
		}
		yields(t, p.x, sym, want...)
		for _, id := range slices.Compact(ids) {
			p.get(t, sym, id)
		}
	}
}

// collected is what Each yields.
func collected(x *index.Index, sym int) []held {
	var list []held
	for id, slot := range x.Each(sym) {
		list = append(list, held{id, slot})
	}
	return list
}

// yields fails the test where Each yields something else.
func yields(t *testing.T, x *index.Index, sym int, want ...held) {
	t.Helper()
	if got := collected(x, sym); !slices.Equal(got, want) {
		t.Fatalf("Each(%d) yields %v, not %v", sym, got, want)
	}
}

// named are the IDs alone.
func named(list []held) []int64 {
	var ids []int64
	for _, h := range list {
		ids = append(ids, h.id)
	}
	return ids
}

// someSyms are symbols: those of a venue, those behind and ahead of them, and the ends of what there is.
func someSyms() []int {
	syms := []int{math.MinInt, math.MinInt + 1, -1 << 32, -9, -1}
	for sym := range api.MaxSyms + 2 {
		syms = append(syms, sym)
	}
	return append(syms, 255, 256, 1<<16, 1<<31, 1<<32-1, 1<<32, 1<<32+1, math.MaxInt-1, math.MaxInt)
}

// someIDs are IDs in ascending order, with the ends of what there is.
func someIDs() []int64 {
	return []int64{math.MinInt64, math.MinInt64 + 1, -1 << 32, -256, -10, -9, -2, -1, 0, 1, 2, 9, 10, 11, 99, 100, 255, 256, 1<<31 - 1, 1 << 31, 1<<32 - 1, 1 << 32, 1<<32 + 1, 1<<53 + 1, 1 << 62, math.MaxInt64 - 1, math.MaxInt64}
}

// someSlots are slots; the chapter knows no number that is none.
func someSlots() []int {
	return []int{math.MinInt, -2, -1, 0, 1, 2, api.MaxSlots - 1, api.MaxSlots, 1 << 32, math.MaxInt}
}

func TestP1201Examples(t *testing.T) {
	x := index.New()
	for n, want := range []bool{true, false} {
		if got := x.Put(index.Key{Sym: 1, ID: 9}, 4); got != want {
			t.Errorf("Put number %d is %t", n, got)
		}
	}
	x = index.New()
	x.Put(index.Key{Sym: 2, ID: 3}, 7)
	if slot, ok := x.Get(index.Key{Sym: 2, ID: 3}); slot != 7 || !ok {
		t.Errorf("Get is %d and %t", slot, ok)
	}
	x = index.New()
	x.Put(index.Key{Sym: 0, ID: 5}, 3)
	if slot, ok := x.Get(index.Key{Sym: 1, ID: 5}); slot != 0 || ok {
		t.Errorf("Get of another symbol is %d and %t", slot, ok)
	}
}

func TestP1201NewHasNoKeys(t *testing.T) {
	for range 3 {
		p := made(t)
		p.same(t)
		for _, sym := range someSyms() {
			for _, id := range someIDs() {
				p.get(t, sym, id)
				p.drop(t, sym, id)
			}
			p.clear(t, sym)
		}
		p.same(t)
		// The next one has nothing of this one.
		p.put(t, 0, 0, 0)
		p.put(t, 3, 4, 5)
	}
}

func TestP1201EverySlotIsKept(t *testing.T) {
	p := made(t)
	for n, slot := range someSlots() {
		p.put(t, 1, int64(n), slot)
		p.get(t, 1, int64(n))
	}
	// One slot may be that of several keys.
	for n, slot := range someSlots() {
		p.put(t, 1, int64(100+n), slot)
		p.put(t, 2, int64(n), slot)
	}
	p.same(t)
}

func TestP1201PutKeepsTheSlotThatAKeyHas(t *testing.T) {
	for _, first := range someSlots() {
		for _, second := range someSlots() {
			p := made(t)
			p.put(t, 4, 6, first)
			p.put(t, 4, 6, second)
			p.same(t)
			// A key that was there takes a slot again.
			p.drop(t, 4, 6)
			p.same(t)
			p.put(t, 4, 6, second)
			p.put(t, 4, 6, first)
			p.same(t)
		}
	}
}

func TestP1201DropRemovesOnce(t *testing.T) {
	for _, sym := range someSyms() {
		p := made(t)
		for n, id := range someIDs() {
			p.put(t, sym, id, n)
		}
		for _, id := range someIDs() {
			p.drop(t, sym, id)
			p.get(t, sym, id)
			p.drop(t, sym, id)
			p.same(t)
		}
	}
}

func TestP1201DropOfWhatIsNotThere(t *testing.T) {
	p := filled(t, 3, 5, 7)
	for _, k := range []index.Key{{}, {Sym: 3}, {Sym: 3, ID: 6}, {Sym: 3, ID: -5}, {Sym: 2, ID: 5}, {Sym: 4, ID: 7}, {Sym: -3, ID: 5}, {Sym: 5, ID: 3}, {Sym: 7, ID: 3}, {ID: 5}} {
		p.get(t, k.Sym, k.ID)
		p.drop(t, k.Sym, k.ID)
		p.same(t)
	}
}

func TestP1202Example(t *testing.T) {
	x := index.New()
	x.Put(index.Key{Sym: 1, ID: 9}, 4)
	x.Put(index.Key{Sym: 1, ID: 3}, 6)
	yields(t, x, 1, held{3, 6}, held{9, 4})
}

func TestP1202LenCounts(t *testing.T) {
	p := made(t)
	counts := func(sym, want int) {
		t.Helper()
		if got := p.x.Len(sym); got != want {
			t.Errorf("Len(%d) is %d, not %d", sym, got, want)
		}
	}
	counts(1, 0)
	for n := range 20 {
		p.put(t, 1, int64(n), 0)
		counts(1, n+1)
		counts(2, n)
		p.put(t, 1, int64(n), 1)
		counts(1, n+1)
		p.put(t, 2, int64(n), 0)
		counts(1, n+1)
		counts(2, n+1)
	}
	for n := range 20 {
		p.drop(t, 1, int64(n))
		counts(1, 19-n)
		p.drop(t, 1, int64(n))
		counts(1, 19-n)
		counts(2, 20)
	}
	counts(0, 0)
	counts(3, 0)
}

func TestP1202EachGoesUpWhateverTheOrderOfPuts(t *testing.T) {
	want := someIDs()
	d := dice(1202)
	for _, sym := range []int{math.MinInt, -1, 0, 1, 7, math.MaxInt} {
		for range 20 {
			p := made(t)
			ids := slices.Clone(want)
			for n := len(ids); n > 0; n-- {
				i := d.below(n)
				p.put(t, sym, ids[i], d.below(9))
				ids = slices.Delete(ids, i, i+1)
			}
			if got := named(collected(p.x, sym)); !slices.Equal(got, want) {
				t.Errorf("Each(%d) yields %v, not %v", sym, got, want)
			}
			p.same(t)
		}
	}
}

func TestP1202EachStopsWithItsConsumer(t *testing.T) {
	for _, length := range []int{1, 2, 9, api.MaxSlots} {
		p := made(t)
		var want []held
		for n := range length {
			p.put(t, 2, int64(n), length-n)
			p.put(t, 1, int64(n), -1)
			want = append(want, held{int64(n), length - n})
		}
		for stop := range length {
			var got []held
			// A consumer that counts itself: a range would turn a call too many into a panic.
			p.x.Each(2)(func(id int64, slot int) bool {
				got = append(got, held{id, slot})
				return len(got) <= stop
			})
			if !slices.Equal(got, want[:stop+1]) {
				t.Fatalf("of %d keys, stopped at %d, %v are yielded", length, stop, got)
			}
		}
		p.same(t)
	}
}

func TestP1202EachIsRangedOverAgain(t *testing.T) {
	p := filled(t, 6, 5, 4, 3)
	each := p.x.Each(6)
	ids := func() []int64 {
		var ids []int64
		for id := range each {
			ids = append(ids, id)
		}
		return ids
	}
	for range 2 {
		var outer []int64
		for id := range each {
			outer = append(outer, id)
			if inner := ids(); !slices.Equal(inner, []int64{3, 4, 5}) {
				t.Errorf("inside, %v are yielded", inner)
			}
		}
		if !slices.Equal(outer, []int64{3, 4, 5}) {
			t.Errorf("%v are yielded", outer)
		}
	}
	p.drop(t, 6, 4)
	if got := ids(); !slices.Equal(got, []int64{3, 5}) {
		t.Errorf("%v are yielded after a key is gone", got)
	}
	p.put(t, 6, 1, 0)
	if got := ids(); !slices.Equal(got, []int64{1, 3, 5}) {
		t.Errorf("%v are yielded after a key has come", got)
	}
	p.clear(t, 6)
	if got := ids(); len(got) > 0 {
		t.Errorf("%v are yielded after Clear", got)
	}
}

func TestP1202EachWhoseConsumerDropsAndPuts(t *testing.T) {
	// Each key that is yielded goes.
	p := filled(t, 0, 8, 2, 4, 6)
	var got []int64
	for id := range p.x.Each(0) {
		got = append(got, id)
		p.drop(t, 0, id)
		p.same(t)
	}
	if !slices.Equal(got, []int64{2, 4, 6, 8}) {
		t.Errorf("%v are yielded", got)
	}

	// A range ends, however many keys come behind it and ahead of it.
	p = filled(t, 0, 1000)
	got = nil
	for id := range p.x.Each(0) {
		got = append(got, id)
		for n := range int64(50) {
			p.put(t, 0, 1001+n, 1)
			p.put(t, 0, 999-n, 1)
			p.put(t, 1, 1000+n, 1)
		}
	}
	if !slices.Equal(got, []int64{1000}) {
		t.Errorf("%v are yielded", got)
	}
	p.same(t)

	// Nothing comes behind the first one that clears.
	p = filled(t, 0, 3, 2, 1)
	got = nil
	for id := range p.x.Each(0) {
		got = append(got, id)
		p.clear(t, 0)
	}
	if !slices.Equal(got, []int64{1}) {
		t.Errorf("%v are yielded", got)
	}
	p.same(t)
}

func TestP1202EachYieldsTheSlotOfThen(t *testing.T) {
	p := filled(t, 0, 1, 2, 3, 4, 5)
	var got []held
	for id, slot := range p.x.Each(0) {
		got = append(got, held{id, slot})
		switch id {
		case 1:
			p.drop(t, 0, 2)
			p.drop(t, 0, 3)
			p.put(t, 0, 3, 30)
		case 3:
			p.drop(t, 0, 1)
			p.put(t, 0, 1, 10)
			p.drop(t, 0, 5)
			p.put(t, 1, 5, 50)
		}
	}
	if want := []held{{1, 0}, {3, 30}, {4, 3}}; !slices.Equal(got, want) {
		t.Errorf("%v are yielded, not %v", got, want)
	}
	p.same(t)
}

func TestP1202ClearRemovesASymbolAlone(t *testing.T) {
	for _, sym := range someSyms() {
		p := made(t)
		for _, other := range someSyms() {
			for n, id := range []int64{math.MinInt64, -1, 0, 1, int64(other), math.MaxInt64} {
				p.put(t, other, id, n)
			}
		}
		p.same(t)
		p.clear(t, sym)
		p.same(t)
		p.clear(t, sym)
		p.same(t)
		// And its keys may come again.
		p.put(t, sym, 1, 77)
		p.same(t)
		p.clear(t, sym)
		p.same(t)
	}
}

func TestP1203SymbolsAndIDsDoNotAffectEachOther(t *testing.T) {
	// Each symbol with each ID, a few of them so that sums, products and mixtures of the two are the same.
	p, slot := made(t), 0
	for _, sym := range someSyms() {
		for _, id := range someIDs() {
			p.put(t, sym, id, slot)
			slot++
		}
	}
	p.same(t)
	d := dice(1203)
	for _, id := range someIDs() {
		sym := someSyms()[d.below(len(someSyms()))]
		p.drop(t, sym, id)
		p.get(t, sym, id)
		for _, other := range someSyms() {
			p.get(t, other, id)
		}
		for _, other := range someIDs() {
			p.get(t, sym, other)
		}
	}
	p.same(t)
}

func TestP1203SymbolAndIDAreNotExchanged(t *testing.T) {
	p := made(t)
	p.put(t, 1, 2, 12)
	p.get(t, 2, 1)
	p.drop(t, 2, 1)
	p.put(t, 2, 1, 21)
	p.same(t)
	p.clear(t, 1)
	p.same(t)
}

// tried does one of the things that change an index of two symbols with so many IDs, each of which has a number, from 0 on.
func (p pair) tried(t *testing.T, what, ids int) {
	t.Helper()
	if what < 2 {
		p.clear(t, what)
		return
	}
	what -= 2
	sym, id := what%2, int64(what/2%ids)
	switch what / 2 / ids {
	case 0:
		p.put(t, sym, id, 5)
	case 1:
		p.put(t, sym, id, 6)
	default:
		p.drop(t, sym, id)
	}
}

// kinds is the number of things that tried can do.
func kinds(ids int) int {
	return 2 + 2*3*ids
}

func TestP1203EverySequence(t *testing.T) {
	for _, size := range []struct{ ids, length int }{{1, 5}, {2, 4}, {4, 3}} {
		sequences := 1
		for range size.length {
			sequences *= kinds(size.ids)
		}
		for s := range sequences {
			p := made(t)
			for range size.length {
				p.tried(t, s%kinds(size.ids), size.ids)
				s /= kinds(size.ids)
			}
			p.same(t)
		}
	}
}

func TestP1203LongSequences(t *testing.T) {
	d := dice(1204)
	for _, size := range []struct{ syms, ids int }{{1, 3}, {2, 40}, {8, 9}, {8, 60}, {1, 200}} {
		// More Puts than Drops, as many, and fewer.
		for _, puts := range []int{20, 32, 44} {
			p := made(t)
			for step := range 2000 {
				sym, id := d.below(size.syms), int64(d.below(size.ids)-size.ids/2)
				switch n := d.below(64); {
				case n < puts:
					p.put(t, sym, id, d.below(api.MaxSlots))
				case n == 63 && d.below(4) == 0:
					p.clear(t, sym)
				default:
					p.drop(t, sym, id)
				}
				p.get(t, d.below(size.syms), int64(d.below(size.ids)-size.ids/2))
				if step%500 == 0 {
					p.same(t)
				}
			}
			p.same(t)
		}
	}
}

func TestP1203AllOrdersOfAVenue(t *testing.T) {
	x := index.New()
	for sym := range api.MaxSyms {
		for n := range api.MaxSlots {
			// From the greatest ID down.
			if !x.Put(index.Key{Sym: sym, ID: int64(api.MaxSlots - n)}, n) {
				t.Fatalf("Put number %d of symbol %d is false", n, sym)
			}
		}
	}
	for sym := range api.MaxSyms {
		if n := x.Len(sym); n != api.MaxSlots {
			t.Errorf("Len(%d) is %d", sym, n)
		}
		next := int64(1)
		for id, slot := range x.Each(sym) {
			if id != next || slot != api.MaxSlots-int(id) {
				t.Fatalf("Each(%d) yields %d with %d, where %d is due", sym, id, slot, next)
			}
			next++
		}
		if next != api.MaxSlots+1 {
			t.Errorf("Each(%d) ends ahead of %d", sym, next)
		}
	}
	for sym := range api.MaxSyms {
		for n, want := range []int{api.MaxSlots, 0} {
			if got := x.Clear(sym); got != want {
				t.Errorf("Clear(%d) number %d is %d, not %d", sym, n, got, want)
			}
		}
	}
}

func TestP1203IndexesShareNothing(t *testing.T) {
	d := dice(1205)
	a, b := made(t), made(t)
	for range 500 {
		a.tried(t, d.below(kinds(3)), 3)
		b.same(t)
		b.tried(t, d.below(kinds(3)), 3)
		a.same(t)
	}
}

// refuses fails the test where a method answers as if there were a key.
func refuses(t *testing.T, x *index.Index) {
	t.Helper()
	for _, sym := range someSyms() {
		for _, id := range someIDs() {
			k := index.Key{Sym: sym, ID: id}
			if slot, ok := x.Get(k); slot != 0 || ok {
				t.Errorf("Get(%v) is %d and %t", k, slot, ok)
			}
			if x.Drop(k) {
				t.Errorf("Drop(%v) is true", k)
			}
		}
		if n := x.Len(sym); n != 0 {
			t.Errorf("Len(%d) is %d", sym, n)
		}
		each := x.Each(sym)
		for range 2 {
			for id, slot := range each {
				t.Errorf("Each(%d) yields %d with %d", sym, id, slot)
			}
		}
		if n := x.Clear(sym); n != 0 {
			t.Errorf("Clear(%d) is %d", sym, n)
		}
	}
}

func TestP1201P1202NilIndex(t *testing.T) {
	var x *index.Index
	for range 2 {
		refuses(t, x)
		for _, slot := range someSlots() {
			if x.Put(index.Key{Sym: 1, ID: 1}, slot) {
				t.Errorf("Put of slot %d is true", slot)
			}
		}
	}
}

func TestP1201P1202IndexThatNewDidNotMake(t *testing.T) {
	p := pair{new(index.Index), &model{}}
	refuses(t, p.x)
	p.same(t)
	d := dice(1206)
	for range 200 {
		p.tried(t, d.below(kinds(3)), 3)
		p.same(t)
	}
}
