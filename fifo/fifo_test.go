package fifo_test

import (
	"math"
	"slices"
	"testing"

	"damper/api"
	"damper/fifo"
)

// dice gives numbers that look like nothing, the same ones at every run.
type dice uint64

func (d *dice) below(n int) int {
	*d += 0x9e3779b97f4a7c15
	z := uint64(*d)
	z = (z ^ z>>30) * 0xbf58476d1ce4e5b9
	z = (z ^ z>>27) * 0x94d049bb133111eb
	return int((z ^ z>>31) % uint64(n))
}

// model is what the chapter says of queues: the nodes of each of them, in their order.
type model struct {
	nodes  int
	queues [][]int
}

func newModel(nodes, queues int) *model {
	return &model{nodes, make([][]int, queues)}
}

// of returns the queue of a node, and whether it is in one.
func (m *model) of(node int) (int, bool) {
	for i, nodes := range m.queues {
		if slices.Contains(nodes, node) {
			return i, true
		}
	}
	return 0, false
}

func (m *model) has(i int) bool {
	return i >= 0 && i < len(m.queues)
}

func (m *model) push(i, node int) bool {
	if _, in := m.of(node); in || !m.has(i) || node < 0 || node >= m.nodes {
		return false
	}
	m.queues[i] = append(m.queues[i], node)
	return true
}

func (m *model) front(i int) (int, bool) {
	if !m.has(i) || len(m.queues[i]) == 0 {
		return 0, false
	}
	return m.queues[i][0], true
}

func (m *model) pop(i int) (int, bool) {
	node, ok := m.front(i)
	if ok {
		m.queues[i] = m.queues[i][1:]
	}
	return node, ok
}

func (m *model) remove(node int) (int, bool) {
	i, ok := m.of(node)
	if ok {
		at := slices.Index(m.queues[i], node)
		m.queues[i] = slices.Concat(m.queues[i][:at], m.queues[i][at+1:])
	}
	return i, ok
}

// pair is queues and the model of them.
type pair struct {
	q *fifo.Queues
	m *model
}

// made are queues without nodes, and their model.
func made(t *testing.T, nodes, queues int) pair {
	t.Helper()
	q, fault := fifo.New(nodes, queues)
	if fault != api.OK || q == nil {
		t.Fatalf("New(%d, %d) is fault %d, and queues: %t", nodes, queues, fault, q != nil)
	}
	return pair{q, newModel(nodes, queues)}
}

// pushed are queues with some nodes in queue i, in their order.
func pushed(t *testing.T, nodes, queues, i int, list ...int) pair {
	t.Helper()
	p := made(t, nodes, queues)
	for _, node := range list {
		p.push(t, i, node)
	}
	return p
}

// The methods of a pair fail the test where the queues answer something else than the model.

func (p pair) push(t *testing.T, i, node int) {
	t.Helper()
	if got, want := p.q.Push(i, node), p.m.push(i, node); got != want {
		t.Fatalf("Push(%d, %d) is %t, not %t", i, node, got, want)
	}
}

// asked fails the test where a method finds something else for a number than the model does.
func asked(t *testing.T, name string, n int, method, model func(int) (int, bool)) {
	t.Helper()
	got, ok := method(n)
	if want, there := model(n); got != want || ok != there {
		t.Fatalf("%s(%d) is %d and %t, not %d and %t", name, n, got, ok, want, there)
	}
}

func (p pair) pop(t *testing.T, i int) {
	t.Helper()
	asked(t, "Pop", i, p.q.Pop, p.m.pop)
}

func (p pair) front(t *testing.T, i int) {
	t.Helper()
	asked(t, "Front", i, p.q.Front, p.m.front)
}

func (p pair) remove(t *testing.T, node int) {
	t.Helper()
	asked(t, "Remove", node, p.q.Remove, p.m.remove)
}

func (p pair) of(t *testing.T, node int) {
	t.Helper()
	asked(t, "Of", node, p.q.Of, p.m.of)
}

// same looks at everything that changes nothing, at the numbers of nodes and queues and at the first ones beyond.
func (p pair) same(t *testing.T) {
	t.Helper()
	for node := -2; node < p.m.nodes+2; node++ {
		p.of(t, node)
	}
	for i := -2; i < len(p.m.queues)+2; i++ {
		p.front(t, i)
		var want []int
		if p.m.has(i) {
			want = p.m.queues[i]
		}
		if got := p.q.Len(i); got != len(want) {
			t.Fatalf("Len(%d) is %d, not %d", i, got, len(want))
		}
		yields(t, p.q, i, want...)
	}
}

// collected are the nodes that Each yields.
func collected(q *fifo.Queues, i int) []int {
	return slices.Collect(q.Each(i))
}

// yields fails the test where Each yields something else.
func yields(t *testing.T, q *fifo.Queues, i int, want ...int) {
	t.Helper()
	if got := collected(q, i); !slices.Equal(got, want) {
		t.Fatalf("Each(%d) yields %v, not %v", i, got, want)
	}
}

// beyond are numbers that are none of so many nodes or queues.
func beyond(count int) []int {
	return []int{math.MinInt, math.MinInt + 1, -1 << 32, -count - 1, -count, -2, -1, count, count + 1, 2*count + 1, 1 << 16, 1 << 32, 1<<32 + 1, math.MaxInt - 1, math.MaxInt}
}

// upTo are the numbers from 0 on, so many of them.
func upTo(count int) []int {
	list := make([]int, count)
	for n := range list {
		list[n] = n
	}
	return list
}

func TestP1001Examples(t *testing.T) {
	p := made(t, 9, 2)
	q := p.q
	if !q.Push(0, 3) || !q.Push(0, 4) || q.Push(1, 4) {
		t.Error("Push(0, 3), Push(0, 4), Push(1, 4) are not true, true and false")
	}
	if !q.Push(0, 5) {
		t.Error("Push(0, 5) is false")
	}
	if i, ok := q.Remove(4); i != 0 || !ok {
		t.Errorf("Remove(4) is %d and %t", i, ok)
	}
	yields(t, q, 0, 3, 5)
	if node, ok := q.Pop(0); node != 3 || !ok {
		t.Errorf("Pop(0) is %d and %t", node, ok)
	}

	q = made(t, 9, 2).q
	if !q.Push(0, 5) || !q.Push(0, 2) {
		t.Error("Push(0, 5) or Push(0, 2) is false")
	}
	q.Remove(5)
	if node, ok := q.Pop(0); node != 2 || !ok {
		t.Errorf("Pop(0) is %d and %t", node, ok)
	}
}

func TestP1001NewInAndOutOfItsRange(t *testing.T) {
	const most, mostQueues = 500, 400
	tried := func(nodes, queues int) {
		t.Helper()
		q, fault := fifo.New(nodes, queues)
		if nodes < 1 || nodes > most || queues < 1 || queues > mostQueues {
			if q != nil || fault != api.Range {
				t.Errorf("New(%d, %d) is fault %d, and queues: %t", nodes, queues, fault, q != nil)
			}
			return
		}
		if q == nil || fault != api.OK {
			t.Fatalf("New(%d, %d) is fault %d, and queues: %t", nodes, queues, fault, q != nil)
		}
		// The last node and the last queue are there, and none behind them.
		if q.Push(queues, 0) || q.Push(0, nodes) || !q.Push(queues-1, nodes-1) {
			t.Errorf("New(%d, %d) has other nodes or queues", nodes, queues)
		}
	}
	for n := -50; n <= 1100; n++ {
		for _, other := range []int{-1, 0, 1, 2, 399, 400, 401, 499, 500, 501} {
			tried(n, other)
			tried(other, n)
		}
	}
	for _, n := range []int{math.MinInt, math.MinInt + 1, -1 << 32, -500, -400, 1 << 32, 1<<32 + 1, math.MaxInt - 1, math.MaxInt} {
		for _, other := range []int{n, -1, 0, 1, 400, 500} {
			tried(n, other)
			tried(other, n)
		}
	}
}

func TestP1001NewQueuesAreEmpty(t *testing.T) {
	for _, nodes := range []int{1, 2, 63, 64, 65, 499, 500} {
		for _, queues := range []int{1, 2, 63, 64, 65, 399, 400} {
			p := made(t, nodes, queues)
			p.same(t)
			for i := range queues {
				p.pop(t, i)
			}
			for node := range nodes {
				p.remove(t, node)
			}
			p.same(t)
		}
	}
}

func TestP1001PushAppends(t *testing.T) {
	for _, list := range [][]int{{0}, {6}, {0, 1}, {1, 0}, {2, 0, 1}, {0, 6, 3}, {6, 5, 4, 3, 2, 1, 0}, {3, 1, 4, 0, 5, 2, 6}} {
		for i := range 3 {
			p := made(t, 7, 3)
			for _, node := range list {
				p.push(t, i, node)
				p.same(t)
			}
			if got := collected(p.q, i); !slices.Equal(got, list) {
				t.Errorf("Each(%d) yields %v, not %v", i, got, list)
			}
		}
	}
}

func TestP1001PushOfANodeThatIsInAQueue(t *testing.T) {
	for _, list := range [][]int{{2}, {2, 0}, {0, 2}, {0, 2, 1}} {
		for i := range 3 {
			p := pushed(t, 4, 3, 1, list...)
			if p.q.Push(i, 2) {
				t.Errorf("Push(%d, 2) is true with %v in queue 1", i, list)
			}
			p.same(t)
		}
	}
}

func TestP1001PushOfWhatWasPoppedOrRemoved(t *testing.T) {
	p := pushed(t, 4, 2, 0, 3, 1, 2)
	p.pop(t, 0)
	p.push(t, 0, 3)
	yields(t, p.q, 0, 1, 2, 3)
	p.remove(t, 2)
	p.push(t, 1, 2)
	yields(t, p.q, 0, 1, 3)
	yields(t, p.q, 1, 2)
	p.pop(t, 1)
	p.push(t, 0, 2)
	yields(t, p.q, 0, 1, 3, 2)
	p.same(t)
}

func TestP1001FrontAndPop(t *testing.T) {
	p := pushed(t, 6, 3, 1, 4, 0, 5)
	for _, want := range []int{4, 0, 5} {
		for range 2 {
			if node, ok := p.q.Front(1); node != want || !ok {
				t.Errorf("Front(1) is %d and %t, not %d", node, ok, want)
			}
		}
		p.same(t)
		p.pop(t, 1)
		p.same(t)
		// What was popped is in no queue any more.
		if i, ok := p.q.Of(want); i != 0 || ok {
			t.Errorf("Of(%d) is %d and %t", want, i, ok)
		}
	}
	for range 2 {
		if node, ok := p.q.Front(1); node != 0 || ok {
			t.Errorf("Front(1) is %d and %t in an empty queue", node, ok)
		}
		if node, ok := p.q.Pop(1); node != 0 || ok {
			t.Errorf("Pop(1) is %d and %t in an empty queue", node, ok)
		}
	}
	p.push(t, 1, 5)
	p.push(t, 1, 4)
	yields(t, p.q, 1, 5, 4)
}

func TestP1001EveryNodeAndEveryQueue(t *testing.T) {
	p := made(t, api.MaxSlots, 2*api.MaxLevels)
	// A node in each queue, then the rest of them behind the first hundred.
	for node := range api.MaxSlots {
		p.push(t, node%(2*api.MaxLevels), node)
	}
	for node := range api.MaxSlots {
		p.push(t, (node+1)%(2*api.MaxLevels), node)
		p.of(t, node)
	}
	p.same(t)
	for i := range 2 * api.MaxLevels {
		p.pop(t, i)
	}
	p.same(t)

	p = pushed(t, api.MaxSlots, 2*api.MaxLevels, 399, upTo(api.MaxSlots)...)
	yields(t, p.q, 399, upTo(api.MaxSlots)...)
	if got := p.q.Len(399); got != api.MaxSlots {
		t.Errorf("Len(399) is %d", got)
	}
	for range api.MaxSlots + 1 {
		p.pop(t, 399)
	}
	p.same(t)
}

func TestP1002RemoveAtEachPlace(t *testing.T) {
	for length := range 6 {
		for node := range length {
			p := pushed(t, 7, 2, 1, upTo(length)...)
			p.push(t, 0, 6)
			if i, ok := p.q.Remove(node); i != 1 || !ok {
				t.Errorf("Remove(%d) is %d and %t", node, i, ok)
			}
			p.m.remove(node)
			p.same(t)
			if i, ok := p.q.Remove(node); i != 0 || ok {
				t.Errorf("Remove(%d) again is %d and %t", node, i, ok)
			}
			p.same(t)
			p.push(t, 1, 5)
			p.push(t, 1, node)
			p.same(t)
			for range length + 2 {
				p.pop(t, 1)
			}
			p.same(t)
		}
	}
}

func TestP1002RemoveInEveryOrder(t *testing.T) {
	var orders func(head, left []int)
	orders = func(head, left []int) {
		for n, node := range left {
			orders(append(slices.Clone(head), node), slices.Concat(left[:n], left[n+1:]))
		}
		if len(left) > 0 {
			return
		}
		p := pushed(t, 5, 1, 0, upTo(5)...)
		for _, node := range head {
			p.remove(t, node)
			p.same(t)
		}
	}
	orders(nil, upTo(5))
}

func TestP1002RemoveOfANodeThatIsInNoQueue(t *testing.T) {
	p := pushed(t, 5, 2, 1, 0, 2)
	for _, node := range []int{1, 3, 4} {
		if i, ok := p.q.Remove(node); i != 0 || ok {
			t.Errorf("Remove(%d) is %d and %t", node, i, ok)
		}
		if i, ok := p.q.Of(node); i != 0 || ok {
			t.Errorf("Of(%d) is %d and %t", node, i, ok)
		}
	}
	p.same(t)
}

func TestP1002OfTellsTheQueue(t *testing.T) {
	p := made(t, 6, 5)
	for node := range 5 {
		p.push(t, 4-node, node)
	}
	for node := range 5 {
		if i, ok := p.q.Of(node); i != 4-node || !ok {
			t.Errorf("Of(%d) is %d and %t", node, i, ok)
		}
		if i, ok := p.q.Remove(node); i != 4-node || !ok {
			t.Errorf("Remove(%d) is %d and %t", node, i, ok)
		}
		if i, ok := p.q.Of(node); i != 0 || ok {
			t.Errorf("Of(%d) is %d and %t after Remove", node, i, ok)
		}
	}
}

func TestP1002LenCounts(t *testing.T) {
	p := made(t, 10, 2)
	counts := func(zero, one int) {
		t.Helper()
		if p.q.Len(0) != zero || p.q.Len(1) != one {
			t.Fatalf("Len is %d and %d, not %d and %d", p.q.Len(0), p.q.Len(1), zero, one)
		}
	}
	counts(0, 0)
	for node := range 10 {
		p.push(t, node%2, node)
		counts(node/2+1, (node+1)/2)
		p.push(t, 1-node%2, node)
		counts(node/2+1, (node+1)/2)
	}
	p.remove(t, 4)
	counts(4, 5)
	p.remove(t, 4)
	counts(4, 5)
	for n := range 5 {
		p.pop(t, 1)
		counts(4, 4-n)
	}
	p.pop(t, 1)
	counts(4, 0)
}

func TestP1002EachStopsWithItsConsumer(t *testing.T) {
	for _, length := range []int{1, 2, 9, 500} {
		p := pushed(t, 500, 2, 1, upTo(length)...)
		for stop := range length {
			var got []int
			// A consumer that counts itself: a range would turn a call too many into a panic.
			p.q.Each(1)(func(node int) bool {
				got = append(got, node)
				return len(got) <= stop
			})
			if !slices.Equal(got, upTo(stop+1)) {
				t.Fatalf("of %d nodes, stopped at %d, %v are yielded", length, stop, got)
			}
		}
		if got := collected(p.q, 1); !slices.Equal(got, upTo(length)) {
			t.Fatalf("after stops, %v are yielded", got)
		}
	}
}

func TestP1002EachIsRangedOverAgain(t *testing.T) {
	p := pushed(t, 5, 2, 0, 4, 0, 2)
	each := p.q.Each(0)
	for range 2 {
		var outer []int
		for node := range each {
			outer = append(outer, node)
			if inner := slices.Collect(each); !slices.Equal(inner, []int{4, 0, 2}) {
				t.Errorf("inside, %v are yielded", inner)
			}
		}
		if !slices.Equal(outer, []int{4, 0, 2}) {
			t.Errorf("%v are yielded", outer)
		}
	}
	p.same(t)
}

func TestP1002EachYieldsWhatTheQueueHasWhenRangedOver(t *testing.T) {
	p := made(t, 5, 2)
	each := p.q.Each(1)
	for step, want := range [][]int{{}, {3}, {3, 1}, {1}} {
		switch step {
		case 1, 2:
			p.push(t, 1, 5-2*step)
		case 3:
			p.pop(t, 1)
		}
		if got := slices.Collect(each); !slices.Equal(got, want) {
			t.Errorf("%v are yielded, not %v", got, want)
		}
	}
}

func TestP1002EachWhoseConsumerTakesOutWhatIsYielded(t *testing.T) {
	takes := map[string]func(q *fifo.Queues, node int) bool{
		"Pop": func(q *fifo.Queues, node int) bool {
			got, ok := q.Pop(0)
			return got == node && ok
		},
		"Remove": func(q *fifo.Queues, node int) bool {
			i, ok := q.Remove(node)
			return i == 0 && ok
		},
		"Remove and Push of another queue": func(q *fifo.Queues, node int) bool {
			_, ok := q.Remove(node)
			return ok && q.Push(1, node)
		},
		"Pop and Push again": func(q *fifo.Queues, node int) bool {
			got, ok := q.Pop(0)
			return got == node && ok && q.Push(0, node)
		},
	}
	for name, take := range takes {
		for length := 1; length < 6; length++ {
			p := pushed(t, 6, 2, 0, upTo(length)...)
			var got []int
			for node := range p.q.Each(0) {
				got = append(got, node)
				if !take(p.q, node) {
					t.Fatalf("%s of %d does not do what it should", name, node)
				}
			}
			if !slices.Equal(got, upTo(length)) {
				t.Errorf("%s: %v are yielded, of %d nodes", name, got, length)
			}
		}
	}
}

func TestP1002EachPassesOverWhatIsNotInTheQueueAnyMore(t *testing.T) {
	p := pushed(t, 7, 2, 0, 6, 5, 4, 3, 2, 1)
	var got []int
	for node := range p.q.Each(0) {
		got = append(got, node)
		switch node {
		case 6:
			p.remove(t, 6)
			p.remove(t, 5)
		case 4:
			p.remove(t, 2)
			p.push(t, 1, 2)
			p.remove(t, 1)
		}
	}
	if !slices.Equal(got, []int{6, 4, 3}) {
		t.Errorf("%v are yielded", got)
	}
	p.same(t)
}

// tried does one of the things that change queues, each of which has a number, from 0 on.
func (p pair) tried(t *testing.T, what int) {
	t.Helper()
	nodes, queues := p.m.nodes, len(p.m.queues)
	switch {
	case what < nodes*queues:
		p.push(t, what/nodes, what%nodes)
	case what < nodes*queues+nodes:
		p.remove(t, what-nodes*queues)
	default:
		p.pop(t, what-nodes*queues-nodes)
	}
}

// kinds is the number of things that tried can do.
func (p pair) kinds() int {
	nodes, queues := p.m.nodes, len(p.m.queues)
	return nodes*queues + nodes + queues
}

func TestP1003EverySequence(t *testing.T) {
	for _, size := range []struct{ nodes, queues, length int }{{1, 1, 7}, {1, 2, 6}, {2, 1, 6}, {2, 2, 5}, {3, 1, 5}, {4, 1, 5}, {3, 2, 4}, {1, 3, 4}} {
		kinds := made(t, size.nodes, size.queues).kinds()
		sequences := 1
		for range size.length {
			sequences *= kinds
		}
		for s := range sequences {
			p := made(t, size.nodes, size.queues)
			for range size.length {
				p.tried(t, s%kinds)
				s /= kinds
			}
			p.same(t)
		}
	}
}

func TestP1003LongSequences(t *testing.T) {
	d := dice(1003)
	for _, size := range []struct{ nodes, queues int }{{1, 1}, {2, 2}, {3, 400}, {9, 2}, {64, 3}, {65, 1}, {500, 1}, {500, 7}, {500, 400}} {
		// More pushes than what takes nodes out, as many, and fewer.
		for _, pushes := range []int{1, 2, 3} {
			p := made(t, size.nodes, size.queues)
			for step := range 2000 {
				// The numbers behind the last ones are tried as well.
				i, node := d.below(size.queues+1), d.below(size.nodes+1)
				switch n := d.below(4); {
				case n < pushes:
					p.push(t, i, node)
				case n == 3:
					p.pop(t, i)
				default:
					p.remove(t, node)
				}
				if step%100 == 0 {
					p.same(t)
				}
			}
			p.same(t)
		}
	}
}

func TestP1003NodesArePoppedAsTheyWerePushed(t *testing.T) {
	d := dice(1004)
	q := made(t, api.MaxSlots, 4).q
	// When each node was pushed, while it is in a queue, and for each queue when the one that was popped last was.
	when, last := map[int]int{}, [4]int{}
	for now := 1; now <= 20000; now++ {
		i, node := d.below(4), d.below(api.MaxSlots)
		switch d.below(5) {
		case 0, 1, 2:
			if q.Push(i, node) {
				when[node] = now
			}
		case 3:
			if _, ok := q.Remove(node); ok {
				delete(when, node)
			}
		case 4:
			popped, ok := q.Pop(i)
			if !ok {
				continue
			}
			pushed, in := when[popped]
			if !in || pushed <= last[i] {
				t.Fatalf("%d was popped, which was pushed at %d (%t), after one that was pushed at %d", popped, pushed, in, last[i])
			}
			last[i] = pushed
			delete(when, popped)
		}
	}
	if got := q.Len(0) + q.Len(1) + q.Len(2) + q.Len(3); got != len(when) {
		t.Errorf("%d nodes are in queues, not %d", got, len(when))
	}
}

func TestP1003QueuesShareNothing(t *testing.T) {
	d := dice(1005)
	a, b := made(t, 3, 2), made(t, 3, 2)
	for range 1000 {
		a.tried(t, d.below(a.kinds()))
		b.same(t)
		b.tried(t, d.below(b.kinds()))
		a.same(t)
	}
}

// refuses fails the test where a method answers as if there were something in queue i.
func refuses(t *testing.T, q *fifo.Queues, i int) {
	t.Helper()
	if node, ok := q.Pop(i); node != 0 || ok {
		t.Errorf("Pop(%d) is %d and %t", i, node, ok)
	}
	if node, ok := q.Front(i); node != 0 || ok {
		t.Errorf("Front(%d) is %d and %t", i, node, ok)
	}
	if n := q.Len(i); n != 0 {
		t.Errorf("Len(%d) is %d", i, n)
	}
	each := q.Each(i)
	for range 2 {
		for node := range each {
			t.Errorf("Each(%d) yields %d", i, node)
		}
	}
}

// refusesNode fails the test where a method answers as if the node were in a queue.
func refusesNode(t *testing.T, q *fifo.Queues, node int) {
	t.Helper()
	if i, ok := q.Remove(node); i != 0 || ok {
		t.Errorf("Remove(%d) is %d and %t", node, i, ok)
	}
	if i, ok := q.Of(node); i != 0 || ok {
		t.Errorf("Of(%d) is %d and %t", node, i, ok)
	}
}

func TestP1001P1002NumbersThatAreNoNodeOrQueue(t *testing.T) {
	for _, size := range []struct{ nodes, queues int }{{1, 1}, {3, 2}, {2, 3}, {1, 400}, {500, 1}, {500, 400}} {
		p := made(t, size.nodes, size.queues)
		for range 2 {
			for _, i := range beyond(size.queues) {
				refuses(t, p.q, i)
				p.push(t, i, 0)
			}
			for _, node := range beyond(size.nodes) {
				refusesNode(t, p.q, node)
				p.push(t, 0, node)
			}
			for _, i := range beyond(size.queues) {
				for _, node := range beyond(size.nodes) {
					p.push(t, i, node)
				}
			}
			p.same(t)
			// And once more with nodes in queues.
			for node := range size.nodes {
				p.push(t, node%size.queues, node)
			}
		}
	}
}

func TestP1001P1002QueuesThatNewDidNotMake(t *testing.T) {
	for _, q := range []*fifo.Queues{nil, new(fifo.Queues)} {
		for _, i := range append(beyond(400), 0, 1, 2, 399) {
			refuses(t, q, i)
			for _, node := range append(beyond(500), 0, 1, 2, 499) {
				refusesNode(t, q, node)
				if q.Push(i, node) {
					t.Errorf("Push(%d, %d) is true", i, node)
				}
			}
		}
	}
}
