package session_test

import (
	"fmt"
	"math"
	"math/big"
	"slices"
	"testing"

	"damper/api"
	"damper/session"
)

// dice gives numbers that look like nothing, the same ones at every run.
type dice uint64

func (d *dice) next() uint64 {
	*d += 0x9e3779b97f4a7c15
	z := uint64(*d)
	z = (z ^ z>>30) * 0xbf58476d1ce4e5b9
	z = (z ^ z>>27) * 0x94d049bb133111eb
	return z ^ z>>31
}

func (d *dice) below(n int) int {
	return int(d.next() % uint64(n))
}

// day is the table of the chapter's examples.
func day() []api.Row {
	return []api.Row{{At: 5, Phase: api.Opening}, {At: 10, Phase: api.Continuous}, {At: 12, Phase: api.Continuous}, {At: 20, Phase: api.Closed}}
}

// least and most are the ticks that surround all those of brief tables.
const (
	least = -2
	most  = 8
)

// brief are all tables whose rows begin at the ticks 0 to 5 with one of the phases of the day.
func brief() [][]api.Row {
	out := [][]api.Row{nil}
	for at := range int64(6) {
		for _, t := range slices.Clone(out) {
			for _, p := range []int{api.Closed, api.Opening, api.Continuous} {
				out = append(out, append(slices.Clone(t), api.Row{At: at, Phase: p}))
			}
		}
	}
	return append(out, []api.Row{})
}

// odd are tables with phases that no configuration has, among others.
func odd() [][]api.Row {
	phases := []int{api.Closed, api.Opening, api.Continuous, api.Paused, api.Reopening, api.Halted, 6, -1, -2, math.MinInt, math.MaxInt, 1 << 8, 1<<8 + 2}
	d := dice(801)
	var out [][]api.Row
	for range 2000 {
		var t []api.Row
		for at := range int64(7) {
			if d.below(3) > 0 {
				t = append(t, api.Row{At: at, Phase: phases[d.below(len(phases))]})
			}
		}
		out = append(out, t)
	}
	return out
}

// wide are tables with rows at ticks of all lengths, with up to 40 rows, many of which repeat a phase.
func wide() [][]api.Row {
	d := dice(802)
	out := [][]api.Row{
		{{At: 0, Phase: api.Continuous}},
		{{At: math.MaxInt64, Phase: api.Continuous}},
		{{At: math.MaxInt64 - 1, Phase: api.Continuous}, {At: math.MaxInt64, Phase: api.Closed}},
		{{At: 0, Phase: api.Continuous}, {At: math.MaxInt64, Phase: api.Continuous}},
		{{At: 0, Phase: api.Closed}, {At: math.MaxInt64, Phase: api.Continuous}},
		{{At: 0, Phase: api.Opening}, {At: 1 << 50, Phase: api.Continuous}},
		{{At: 1<<50 - 1, Phase: api.Continuous}, {At: 1 << 50, Phase: api.Closed}},
	}
	for range 400 {
		var begins []int64
		for range d.below(41) {
			begins = append(begins, int64(d.next()>>1>>d.below(63)))
		}
		slices.Sort(begins)
		var t []api.Row
		for _, at := range slices.Compact(begins) {
			t = append(t, api.Row{At: at, Phase: d.below(2) * api.Continuous})
		}
		out = append(out, t)
	}
	return out
}

// around are ticks at the ends of the numbers, around 0, and around each row.
func around(t []api.Row) []int64 {
	out := []int64{math.MinInt64, math.MinInt64 + 1, math.MinInt64 + 2, -1 << 62, -1 << 32, -2, -1, 0, 1, 1 << 32, 1 << 50, 1<<50 + 1, math.MaxInt64 - 1, math.MaxInt64}
	for _, r := range t {
		out = append(out, r.At)
		if r.At > math.MinInt64 {
			out = append(out, r.At-1)
		}
		if r.At < math.MaxInt64 {
			out = append(out, r.At+1)
		}
	}
	return out
}

// at is what the chapter says of At, by all rows.
func at(t []api.Row, tick int64) int {
	phase := api.Closed
	for _, r := range t {
		if r.At <= tick {
			phase = r.Phase
		}
	}
	return phase
}

// next is what the chapter says of Next, by all rows.
func next(t []api.Row, tick int64) (int64, bool) {
	for _, r := range t {
		if r.At > tick {
			return r.At, true
		}
	}
	return 0, false
}

// turns is what the chapter says of Changes.
func turns(t []api.Row) []api.Row {
	var out []api.Row
	phase := api.Closed
	for _, r := range t {
		if r.Phase != phase {
			out = append(out, r)
		}
		phase = r.Phase
	}
	return out
}

// lasts is what the chapter says of Lasts, tick by tick.
func lasts(t []api.Row, from, to int64) bool {
	for tick := from; tick <= to; tick++ {
		if at(t, tick) != api.Continuous {
			return false
		}
	}
	return from <= to
}

// rest is what the chapter says of Rest, tick by tick, for a table whose rows begin ahead of the tick most.
func rest(t []api.Row, tick int64) int64 {
	for n := int64(1); tick+n <= most; n++ {
		if at(t, tick+n) != at(t, tick) {
			return n
		}
	}
	return -1
}

// collected are the changes that are yielded.
func collected(t []api.Row) []api.Row {
	var out []api.Row
	for tick, phase := range session.Changes(t) {
		out = append(out, api.Row{At: tick, Phase: phase})
	}
	return out
}

// atIs fails the test where At returns another phase than the model.
func atIs(t *testing.T, table []api.Row, tick int64) {
	t.Helper()
	if got, want := session.At(table, tick), at(table, tick); got != want {
		t.Errorf("At(%v, %d) is %d, not %d", table, tick, got, want)
	}
}

// nextIs fails the test where Next returns something else than the model.
func nextIs(t *testing.T, table []api.Row, tick int64) {
	t.Helper()
	got, is := session.Next(table, tick)
	if want, there := next(table, tick); got != want || is != there {
		t.Errorf("Next(%v, %d) is %d and %t, not %d and %t", table, tick, got, is, want, there)
	}
}

// changesAre fails the test where Changes yields something else than the model.
func changesAre(t *testing.T, table []api.Row) {
	t.Helper()
	if got, want := collected(table), turns(table); !slices.Equal(got, want) {
		t.Errorf("Changes(%v) yields %v, not %v", table, got, want)
	}
}

func TestP801Examples(t *testing.T) {
	short := []api.Row{{At: 5, Phase: api.Opening}, {At: 10, Phase: api.Continuous}}
	for _, c := range []struct {
		table []api.Row
		tick  int64
		phase int
		next  int64
		is    bool
	}{
		{day(), 4, api.Closed, 5, true},
		{day(), 5, api.Opening, 10, true},
		{day(), 9, api.Opening, 10, true},
		{day(), 10, api.Continuous, 12, true},
		{day(), 12, api.Continuous, 20, true},
		{day(), 19, api.Continuous, 20, true},
		{day(), 20, api.Closed, 0, false},
		{short, 4, api.Closed, 5, true},
		{short, 7, api.Opening, 10, true},
		{short, 10, api.Continuous, 0, false},
		{nil, 0, api.Closed, 0, false},
		{nil, math.MaxInt64, api.Closed, 0, false},
	} {
		if got := session.At(c.table, c.tick); got != c.phase {
			t.Errorf("At(%v, %d) is %d, not %d", c.table, c.tick, got, c.phase)
		}
		if got, is := session.Next(c.table, c.tick); got != c.next || is != c.is {
			t.Errorf("Next(%v, %d) is %d and %t, not %d and %t", c.table, c.tick, got, is, c.next, c.is)
		}
	}
}

func TestP801AtAndNextOfBriefTables(t *testing.T) {
	for _, table := range append(brief(), odd()...) {
		for tick := int64(least); tick <= most; tick++ {
			atIs(t, table, tick)
			nextIs(t, table, tick)
		}
	}
}

func TestP801AtAndNextOfTicksOfAllLengths(t *testing.T) {
	for _, table := range wide() {
		for _, tick := range around(table) {
			atIs(t, table, tick)
			nextIs(t, table, tick)
		}
	}
}

func TestP801NextGoesOverTheRowsInTheirOrder(t *testing.T) {
	for _, table := range append(brief(), wide()...) {
		tick, n := int64(-1), 0
		for {
			after, is := session.Next(table, tick)
			if !is {
				break
			}
			if n == len(table) || after != table[n].At {
				t.Fatalf("Next(%v, %d) is %d, not the At of row %d", table, tick, after, n)
			}
			tick = after
			n++
		}
		if n != len(table) {
			t.Errorf("Next tells of %d rows of %v", n, table)
		}
	}
}

func TestP801LongTable(t *testing.T) {
	var table []api.Row
	for n := range int64(200000) {
		table = append(table, api.Row{At: 3 * n, Phase: int(n % 5)})
	}
	for n := range int64(200000) {
		for tick := 3 * n; tick < 3*n+3; tick++ {
			after, is := session.Next(table, tick)
			want, there := 3*n+3, true
			if n == 199999 {
				want, there = 0, false
			}
			if got := session.At(table, tick); got != int(n%5) || after != want || is != there {
				t.Fatalf("tick %d: phase %d, next %d and %t, not %d, %d and %t", tick, got, after, is, n%5, want, there)
			}
		}
	}
}

func TestP802Examples(t *testing.T) {
	opening, trading := api.Row{At: 5, Phase: api.Opening}, api.Row{At: 10, Phase: api.Continuous}
	for _, c := range []struct{ table, want []api.Row }{
		{day(), []api.Row{opening, trading, {At: 20, Phase: api.Closed}}},
		{[]api.Row{opening, trading}, []api.Row{opening, trading}},
		{nil, nil},
		{[]api.Row{{At: 5, Phase: api.Closed}}, nil},
		{[]api.Row{{At: 0, Phase: api.Closed}, trading, {At: 12, Phase: api.Continuous}}, []api.Row{trading}},
		{[]api.Row{{At: 0, Phase: api.Continuous}, {At: 1, Phase: api.Closed}, {At: 2, Phase: api.Continuous}}, []api.Row{{At: 0, Phase: api.Continuous}, {At: 1, Phase: api.Closed}, {At: 2, Phase: api.Continuous}}},
	} {
		if got := collected(c.table); !slices.Equal(got, c.want) {
			t.Errorf("Changes(%v) yields %v, not %v", c.table, got, c.want)
		}
	}
}

func TestP802ChangesOfMany(t *testing.T) {
	for _, table := range slices.Concat(brief(), odd(), wide()) {
		changesAre(t, table)
	}
}

func TestP802ChangesStopsWithItsConsumer(t *testing.T) {
	for _, table := range append(odd(), day()) {
		want := turns(table)
		for stop := range want {
			var got []api.Row
			// A consumer that counts itself: a range would turn a call too many into a panic.
			session.Changes(table)(func(tick int64, phase int) bool {
				got = append(got, api.Row{At: tick, Phase: phase})
				return len(got) <= stop
			})
			if !slices.Equal(got, want[:stop+1]) {
				t.Errorf("Changes(%v), stopped at change %d, yields %v, not %v", table, stop, got, want[:stop+1])
			}
		}
	}
}

func TestP802ChangesIsRangedOverAgain(t *testing.T) {
	table := day()
	changes, want := session.Changes(table), turns(table)
	for range 2 {
		var outer []api.Row
		for tick, phase := range changes {
			outer = append(outer, api.Row{At: tick, Phase: phase})
			var inner []api.Row
			for tick, phase := range changes {
				inner = append(inner, api.Row{At: tick, Phase: phase})
			}
			if !slices.Equal(inner, want) {
				t.Errorf("inside, %v are yielded, not %v", inner, want)
			}
		}
		if !slices.Equal(outer, want) {
			t.Errorf("%v are yielded, not %v", outer, want)
		}
	}
}

func TestP802ChangesKeepsNothingOfItsArgument(t *testing.T) {
	table := day()
	changes, want := session.Changes(table), turns(table)
	for n := range table {
		table[n] = api.Row{At: 100 + int64(n), Phase: 7 + n}
	}
	var got []api.Row
	for tick, phase := range changes {
		got = append(got, api.Row{At: tick, Phase: phase})
	}
	if !slices.Equal(got, want) {
		t.Errorf("after the table was written into, %v are yielded, not %v", got, want)
	}
}

func TestP803Examples(t *testing.T) {
	for _, c := range []struct {
		from, to int64
		want     bool
	}{
		{10, 19, true}, {10, 20, false}, {9, 19, false}, {10, 10, true}, {12, 12, true}, {19, 19, true}, {11, 13, true},
		{10, 9, false}, {19, 10, false}, {11, 10, false}, {20, 20, false}, {9, 9, false}, {4, 4, false}, {5, 9, false},
		{math.MinInt64, math.MaxInt64, false}, {math.MaxInt64, math.MinInt64, false}, {10, math.MaxInt64, false}, {10, math.MinInt64, false},
	} {
		if got := session.Lasts(day(), c.from, c.to); got != c.want {
			t.Errorf("Lasts from %d to %d is %t, not %t", c.from, c.to, got, c.want)
		}
	}
	for tick, want := range map[int64]int64{0: 5, 4: 1, 5: 5, 9: 1, 10: 10, 11: 9, 12: 8, 19: 1, 20: -1, 21: -1, -1: 6, math.MaxInt64: -1} {
		if got := session.Rest(day(), tick); got != want {
			t.Errorf("Rest of %d is %d, not %d", tick, got, want)
		}
	}
	if got := session.Rest(nil, 3); got != -1 {
		t.Errorf("Rest of no rows is %d, not -1", got)
	}
}

func TestP803LastsOfBriefTables(t *testing.T) {
	for _, table := range append(brief(), odd()...) {
		for from := int64(least); from <= most; from++ {
			for to := int64(least); to <= most; to++ {
				if got, want := session.Lasts(table, from, to), lasts(table, from, to); got != want {
					t.Errorf("Lasts(%v, %d, %d) is %t, not %t", table, from, to, got, want)
				}
			}
		}
	}
}

func TestP803RestOfBriefTables(t *testing.T) {
	for _, table := range append(brief(), odd()...) {
		for tick := int64(least); tick <= most; tick++ {
			if got, want := session.Rest(table, tick), rest(table, tick); got != want {
				t.Errorf("Rest(%v, %d) is %d, not %d", table, tick, got, want)
			}
		}
	}
}

// turn is the first row after a tick at which the phase is another one.
func turn(t []api.Row, tick int64) (api.Row, bool) {
	n := slices.IndexFunc(turns(t), func(r api.Row) bool { return r.At > tick })
	if n < 0 {
		return api.Row{}, false
	}
	return turns(t)[n], true
}

func TestP803LastsOfTicksOfAllLengths(t *testing.T) {
	for _, table := range wide()[:150] {
		ticks := around(table)
		for _, from := range ticks {
			row, is := turn(table, from)
			for _, to := range ticks {
				want := from <= to && at(table, from) == api.Continuous && (!is || to < row.At)
				if got := session.Lasts(table, from, to); got != want {
					t.Errorf("Lasts(%v, %d, %d) is %t, not %t", table, from, to, got, want)
				}
			}
		}
	}
}

func TestP803RestOfTicksOfAllLengths(t *testing.T) {
	for _, table := range wide() {
		for _, tick := range around(table) {
			want := int64(-1)
			if row, is := turn(table, tick); is {
				want = math.MaxInt64
				if ticks := new(big.Int).Sub(big.NewInt(row.At), big.NewInt(tick)); ticks.IsInt64() {
					want = ticks.Int64()
				}
			}
			if got := session.Rest(table, tick); got != want {
				t.Errorf("Rest(%v, %d) is %d, not %d", table, tick, got, want)
			}
		}
	}
}

func TestP803RestThatNoNumberTells(t *testing.T) {
	opening := func(at int64) []api.Row { return []api.Row{{At: at, Phase: api.Opening}} }
	for _, c := range []struct{ at, tick, want int64 }{
		{0, math.MinInt64, math.MaxInt64},
		{0, math.MinInt64 + 1, math.MaxInt64},
		{0, math.MinInt64 + 2, math.MaxInt64 - 1},
		{5, math.MinInt64 + 6, math.MaxInt64},
		{5, math.MinInt64 + 7, math.MaxInt64 - 1},
		{math.MaxInt64, -2, math.MaxInt64},
		{math.MaxInt64, -1, math.MaxInt64},
		{math.MaxInt64, 0, math.MaxInt64},
		{math.MaxInt64, 1, math.MaxInt64 - 1},
		{math.MaxInt64, math.MinInt64, math.MaxInt64},
		{math.MaxInt64, math.MaxInt64 - 1, 1},
		{math.MaxInt64, math.MaxInt64, -1},
	} {
		if got := session.Rest(opening(c.at), c.tick); got != c.want {
			t.Errorf("Rest of %d ahead of a row at %d is %d, not %d", c.tick, c.at, got, c.want)
		}
	}
}

func TestP804ThePhaseIsConstantBetweenTwoChanges(t *testing.T) {
	for _, table := range append(brief(), odd()...) {
		tick, phase := int64(least), api.Closed
		constant := func(end int64) {
			for ; tick < end; tick++ {
				if got := session.At(table, tick); got != phase {
					t.Errorf("At(%v, %d) is %d, not %d", table, tick, got, phase)
				}
			}
		}
		for change, becomes := range session.Changes(table) {
			constant(change)
			if becomes == phase {
				t.Errorf("%v: a change at %d to the phase %d, which there is already", table, change, phase)
			}
			phase = becomes
		}
		constant(most)
	}
}

func TestP804RestReachesFromOneChangeToTheNext(t *testing.T) {
	for _, table := range slices.Concat(brief(), odd(), wide()) {
		var ends []int64
		tick := int64(0)
		for n := session.Rest(table, tick); n != -1; n = session.Rest(table, tick) {
			if n < 1 || session.At(table, tick) != session.At(table, tick+(n-1)) {
				t.Fatalf("Rest(%v, %d) is %d", table, tick, n)
			}
			tick += n
			ends = append(ends, tick)
		}
		var want []int64
		for change := range session.Changes(table) {
			if change > 0 {
				want = append(want, change)
			}
		}
		if !slices.Equal(ends, want) {
			t.Errorf("%v: the rests end at %v, not at the changes %v", table, ends, want)
		}
	}
}

func TestP804LastsIsTrueUpToTheNextChange(t *testing.T) {
	for _, table := range slices.Concat(brief(), odd(), wide()) {
		for change, phase := range session.Changes(table) {
			n := session.Rest(table, change)
			last := int64(math.MaxInt64)
			if n != -1 {
				last = change + n - 1
			}
			if got := session.Lasts(table, change, last); got != (phase == api.Continuous) {
				t.Errorf("Lasts(%v, %d, %d) is %t in the phase %d", table, change, last, got, phase)
			}
			if n != -1 && session.Lasts(table, change, last+1) {
				t.Errorf("Lasts(%v, %d, %d) is true beyond the next change", table, change, last+1)
			}
		}
	}
}

// ask calls all functions with the table, and returns what they answer.
func ask(table []api.Row, ticks []int64) string {
	out := fmt.Sprint(collected(table))
	for n, tick := range ticks {
		to := ticks[(n+1)%len(ticks)]
		after, is := session.Next(table, tick)
		out += fmt.Sprintln(session.At(table, tick), after, is, session.Rest(table, tick), session.Lasts(table, tick, to), session.Lasts(table, to, tick))
	}
	return out
}

func TestWhatIsNoTableIsAnswered(t *testing.T) {
	for _, table := range [][]api.Row{
		{{At: 5, Phase: api.Continuous}, {At: 5, Phase: api.Closed}},
		{{At: 9, Phase: api.Continuous}, {At: 5, Phase: api.Opening}},
		{{At: -5, Phase: api.Continuous}, {At: 5, Phase: api.Closed}},
		{{At: math.MinInt64, Phase: api.Continuous}, {At: math.MaxInt64, Phase: api.Closed}},
		{{At: math.MaxInt64, Phase: api.Continuous}, {At: math.MinInt64, Phase: api.Closed}},
	} {
		ask(table, around(table))
	}
	d := dice(803)
	for range 3000 {
		var table []api.Row
		for range d.below(12) {
			at := int64(d.next()) >> d.below(64)
			table = append(table, api.Row{At: at, Phase: int(int64(d.next()) >> d.below(64))})
			if d.below(4) == 0 {
				table = append(table, api.Row{At: at, Phase: d.below(6)})
			}
		}
		ask(table, around(table))
	}
}

func TestTheTableIsNotChanged(t *testing.T) {
	for _, rows := range append(wide(), day()) {
		table := append(make([]api.Row, 0, len(rows)+2), rows...)
		room := table[:cap(table)]
		for n := range room[len(rows):] {
			room[len(rows)+n] = api.Row{At: -7, Phase: -7}
		}
		given, answers := slices.Clone(room), ask(table, around(table))
		if !slices.Equal(room, given) {
			t.Errorf("%v is changed to %v", given, room)
		}
		if again := ask(rows, around(rows)); again != answers {
			t.Errorf("%v: %s is answered at first, and %s with other room behind the table", rows, answers, again)
		}
	}
}
