package band_test

import (
	"math"
	"math/big"
	"slices"
	"testing"

	"damper/api"
	"damper/band"
	"damper/config"
)

// dice gives numbers that look like nothing, the same ones at every run.
type dice uint64

func (d *dice) next() uint64 {
	*d += 0x9e3779b97f4a7c15
	z := uint64(*d)
	z = (z ^ z>>30) * 0xbf58476d1ce4e5b9
	z = (z ^ z>>27) * 0x94d049bb133111eb
	return z ^ z>>31
}

func (d *dice) below(n int) int {
	return int(d.next() % uint64(n))
}

// upTo is a number from 1 to n, of any length.
func (d *dice) upTo(n int64) int64 {
	return 1 + int64(d.next()>>d.below(64)%uint64(n))
}

const (
	most  = math.MaxInt64
	least = math.MinInt64

	maxPrice = 1 << 40
)

// far are numbers at, around and beyond the ends of every range that the chapter names.
func far() []int64 {
	return []int64{
		least, least + 1, -1<<40 - 1, -1 << 40, -1<<40 + 1, -10000, -2, -1, 0, 1, 2, 3, 5, 7, 9, 10, 11,
		999, 1000, 1001, 9998, 9999, 10000, 10001, 20000, 1 << 39, 1<<40 - 1, 1 << 40, 1<<40 + 1, 1 << 41, 1<<62 + 1, most - 1, most,
	}
}

// farParts are far as numbers of parts.
func farParts() []int {
	var out []int
	for _, n := range far() {
		out = append(out, int(n))
	}
	return out
}

// roundOf is a / b for b above 0, rounded down, or up if up is true.
func roundOf(a, b *big.Int, up bool) *big.Int {
	quotient, rest := new(big.Int).DivMod(a, b, new(big.Int))
	if up && rest.Sign() != 0 {
		quotient.Add(quotient, big.NewInt(1))
	}
	return quotient
}

// edgeOf is an edge of the band around a reference: ref * parts / 10000, on the grid, both rounded to the same side.
func edgeOf(ref, parts, grid int64, up bool) int64 {
	exact := new(big.Int).Mul(big.NewInt(ref), big.NewInt(parts))
	whole := roundOf(exact, big.NewInt(10000), up)
	steps := roundOf(whole, big.NewInt(grid), up)
	return steps.Mul(steps, big.NewInt(grid)).Int64()
}

// aroundOf is the band around a reference by the words of the chapters 20 and 2.
func aroundOf(ref, parts, grid int64) (api.Band, bool) {
	if ref < 1 || ref > maxPrice || parts < 0 || parts > 9999 || grid < 1 || grid > maxPrice {
		return api.Band{}, false
	}
	return api.Band{Lo: edgeOf(ref, 10000-parts, grid, true), Hi: edgeOf(ref, 10000+parts, grid, false)}, true
}

// bothOf is Both by its words.
func bothOf(a, b api.Band) api.Band {
	c := a
	if b.Lo > a.Lo {
		c.Lo = b.Lo
	}
	if b.Hi < a.Hi {
		c.Hi = b.Hi
	}
	return c
}

// twoOf is Both of two bands, if both exist.
func twoOf(a api.Band, there bool, b api.Band, exists bool) (api.Band, bool) {
	if !there || !exists {
		return api.Band{}, false
	}
	return bothOf(a, b), true
}

func staticOf(s api.Symbol, first int64) (api.Band, bool) {
	return aroundOf(first, int64(s.Static), s.Grid)
}

func dynamicOf(s api.Symbol, ref int64) (api.Band, bool) {
	return aroundOf(ref, int64(s.Dynamic), s.Grid)
}

// ofOf is Of by its words.
func ofOf(s api.Symbol, first, ref int64) (api.Band, bool) {
	a, there := staticOf(s, first)
	b, exists := dynamicOf(s, ref)
	return twoOf(a, there, b, exists)
}

// far40 tells whether a number is not from -2^40 to 2^40.
func far40(n int) bool {
	return int64(n) < -1<<40 || int64(n) > 1<<40
}

// collarOf is Collar by its words; the parts are added up with the library's big integers.
func collarOf(s api.Symbol, first, ref int64, round int) (api.Band, bool) {
	if round < 0 || round > 10 || far40(s.Collar) || far40(s.Widen) {
		return api.Band{}, false
	}
	parts := new(big.Int).Mul(big.NewInt(int64(round)), big.NewInt(int64(s.Widen)))
	parts.Add(parts, big.NewInt(int64(s.Collar)))
	if parts.Cmp(big.NewInt(9999)) > 0 {
		parts.SetInt64(9999)
	}
	a, there := staticOf(s, first)
	b, exists := aroundOf(ref, parts.Int64(), s.Grid)
	return twoOf(a, there, b, exists)
}

// sameStatic, and the others like it, fail the test where a call is not as the chapter says.
func sameStatic(t *testing.T, s api.Symbol, first int64) {
	t.Helper()
	want, exists := staticOf(s, first)
	if got, ok := band.Static(s, first); got != want || ok != exists {
		t.Fatalf("Static(%+v, %d) is %v and %v, not %v and %v", s, first, got, ok, want, exists)
	}
}

func sameDynamic(t *testing.T, s api.Symbol, ref int64) {
	t.Helper()
	want, exists := dynamicOf(s, ref)
	if got, ok := band.Dynamic(s, ref); got != want || ok != exists {
		t.Fatalf("Dynamic(%+v, %d) is %v and %v, not %v and %v", s, ref, got, ok, want, exists)
	}
}

func sameOf(t *testing.T, s api.Symbol, first, ref int64) {
	t.Helper()
	want, exists := ofOf(s, first, ref)
	if got, ok := band.Of(s, first, ref); got != want || ok != exists {
		t.Fatalf("Of(%+v, %d, %d) is %v and %v, not %v and %v", s, first, ref, got, ok, want, exists)
	}
}

func sameCollar(t *testing.T, s api.Symbol, first, ref int64, round int) {
	t.Helper()
	want, exists := collarOf(s, first, ref, round)
	if got, ok := band.Collar(s, first, ref, round); got != want || ok != exists {
		t.Fatalf("Collar(%+v, %d, %d, %d) is %v and %v, not %v and %v", s, first, ref, round, got, ok, want, exists)
	}
}

// chapter is the symbol of the chapter's examples.
func chapter() api.Symbol {
	return api.Symbol{Grid: 5, Static: 1000, Dynamic: 500, Collar: 200, Widen: 300}
}

// other is a symbol whose fields besides the named ones are all out of their ranges, so that they would show.
func other(grid int64, static, dynamic, collar, widen int) api.Symbol {
	return api.Symbol{
		Grid: grid, Ref: -1, Static: static, Dynamic: dynamic, Window: -1, Move: -1, Limit: -1, Pause: -1, Ext: -1, MaxExt: -1,
		Collar: collar, Widen: widen, Self: -1, Slots: -1, Levels: -1, Short: -1,
	}
}

// result is what a function returns that may have no band.
type result struct {
	band api.Band
	ok   bool
}

func told(b api.Band, ok bool) result {
	return result{b, ok}
}

// there is a band that exists.
func there(lo, hi int64) result {
	return result{api.Band{Lo: lo, Hi: hi}, true}
}

func none() result {
	return result{}
}

func TestP2001Table(t *testing.T) {
	for _, x := range []struct {
		why       string
		grid, ref int64
		parts     int
		want      result
	}{
		{"on the grid", 5, 1000, 1000, there(900, 1100)},
		{"half of it", 5, 1000, 500, there(950, 1050)},
		{"both edges rounded to the reference", 7, 1000, 500, there(952, 1050)},
		{"twice rounded", 5, 1000, 333, there(970, 1030)},
		{"no parts", 5, 1000, 0, there(1000, 1000)},
		{"no parts, off the grid", 5, 1001, 0, there(1005, 1000)},
		{"few parts, off the grid", 7, 1000, 1, there(1001, 994)},
		{"most parts", 1, 10000, 9999, there(1, 19999)},
		{"too many parts", 1, 10000, 10000, none()},
		{"parts below 0", 1, 10000, -1, none()},
		{"the least reference", 1, 1, 9999, there(1, 1)},
		{"a reference of 2", 1, 2, 5000, there(1, 3)},
		{"the greatest reference", 1, maxPrice, 0, there(maxPrice, maxPrice)},
		{"the greatest reference and parts", 1, maxPrice, 9999, there(109951163, 2198913304389)},
		{"no reference", 1, 0, 500, none()},
		{"a reference below 0", 1, -1000, 500, none()},
		{"a reference beyond", 1, maxPrice + 1, 500, none()},
		{"the greatest grid", maxPrice, maxPrice, 9999, there(maxPrice, maxPrice)},
		{"a grid beyond the reference", 1000, 10, 500, there(1000, 0)},
		{"no grid", 0, 1000, 500, none()},
		{"a grid below 0", -5, 1000, 500, none()},
		{"a grid beyond", maxPrice + 1, 1000, 500, none()},
	} {
		if got := told(band.Static(other(x.grid, x.parts, 700, 200, 300), x.ref)); got != x.want {
			t.Errorf("%s: Static is %v, not %v", x.why, got, x.want)
		}
		if got := told(band.Dynamic(other(x.grid, 700, x.parts, 200, 300), x.ref)); got != x.want {
			t.Errorf("%s: Dynamic is %v, not %v", x.why, got, x.want)
		}
	}
}

func TestP2001LooksAtNothingElse(t *testing.T) {
	// The other fields of a symbol may be anything.
	for _, n := range farParts() {
		if got := told(band.Static(other(5, 1000, n, n, n), 1000)); got != there(900, 1100) {
			t.Errorf("with %d elsewhere, Static is %v", n, got)
		}
		if got := told(band.Dynamic(other(5, n, 500, n, n), 1000)); got != there(950, 1050) {
			t.Errorf("with %d elsewhere, Dynamic is %v", n, got)
		}
	}
}

func TestP2001Small(t *testing.T) {
	for grid := int64(-1); grid <= 12; grid++ {
		for ref := int64(-1); ref <= 50; ref++ {
			for parts := -500; parts <= 10500; parts += 125 {
				sameStatic(t, other(grid, parts, -1, 0, 0), ref)
				sameDynamic(t, other(grid, -1, parts, 0, 0), ref)
			}
		}
	}
}

func TestP2001Far(t *testing.T) {
	for _, grid := range far() {
		for _, ref := range far() {
			for _, parts := range farParts() {
				sameStatic(t, other(grid, parts, -1, 0, 0), ref)
				sameDynamic(t, other(grid, -1, parts, 0, 0), ref)
			}
		}
	}
}

func TestP2001Mixed(t *testing.T) {
	d := dice(2001)
	for range 50000 {
		s := other(d.upTo(maxPrice), d.below(10000), d.below(10000), 0, 0)
		sameStatic(t, s, d.upTo(maxPrice))
		sameDynamic(t, s, d.upTo(maxPrice))
	}
}

func TestP2002Examples(t *testing.T) {
	s := chapter()
	if got := told(band.Of(s, 1000, 1080)); got != there(1030, 1100) {
		t.Errorf("Of is %v", got)
	}
	if got := told(band.Collar(s, 1000, 1000, 1)); got != there(950, 1050) {
		t.Errorf("Collar is %v", got)
	}
	if got := told(band.Collar(s, 1000, 1000, 11)); got != none() {
		t.Errorf("Collar of round 11 is %v", got)
	}
	if got := band.Both(api.Band{Lo: 1030, Hi: 1100}, api.Band{Lo: 950, Hi: 1050}); got != (api.Band{Lo: 1030, Hi: 1050}) {
		t.Errorf("Both is %v", got)
	}
	s.Static = 2000
	if got := told(band.Of(s, 1000, 1000)); got != there(950, 1050) {
		t.Errorf("with Static 2000, Of is %v", got)
	}
}

func TestP2002OfTable(t *testing.T) {
	for _, x := range []struct {
		why        string
		s          api.Symbol
		first, ref int64
		want       result
	}{
		{"the reference is the first one", other(5, 1000, 500, -1, -1), 1000, 1000, there(950, 1050)},
		{"it is at the upper edge", other(5, 1000, 500, -1, -1), 1000, 1100, there(1045, 1100)},
		{"it is at the lower edge", other(5, 1000, 500, -1, -1), 1000, 900, there(900, 945)},
		{"it is beyond the upper edge", other(5, 1000, 500, -1, -1), 1000, 1150, there(1095, 1100)},
		{"it is so far above that there are no prices", other(5, 1000, 500, -1, -1), 1000, 1300, there(1235, 1100)},
		{"it is so far below that there are no prices", other(5, 1000, 500, -1, -1), 1000, 800, there(900, 840)},
		{"Dynamic is greater than Static", other(5, 500, 1000, -1, -1), 1000, 1000, there(950, 1050)},
		{"the static edges are off the grid", other(7, 1000, 1000, -1, -1), 1000, 1050, there(945, 1099)},
		{"no Dynamic", other(5, 1000, 0, -1, -1), 1000, 1080, there(1080, 1080)},
		{"neither", other(5, 0, 0, -1, -1), 1000, 1080, there(1080, 1000)},
		{"the static band does not exist", other(5, 10000, 500, -1, -1), 1000, 1000, none()},
		{"the dynamic band does not exist", other(5, 1000, 10000, -1, -1), 1000, 1000, none()},
		{"Static is below 0", other(5, -1, 500, -1, -1), 1000, 1000, none()},
		{"Dynamic is below 0", other(5, 1000, -1, -1, -1), 1000, 1000, none()},
		{"no first reference", other(5, 1000, 500, -1, -1), 0, 1000, none()},
		{"no rolling reference", other(5, 1000, 500, -1, -1), 1000, 0, none()},
		{"the first reference is beyond", other(1, 1000, 500, -1, -1), maxPrice + 1, maxPrice, none()},
		{"the rolling reference is beyond", other(1, 1000, 500, -1, -1), maxPrice, maxPrice + 1, none()},
		{"no grid", other(0, 1000, 500, -1, -1), 1000, 1000, none()},
	} {
		if got := told(band.Of(x.s, x.first, x.ref)); got != x.want {
			t.Errorf("%s: Of is %v, not %v", x.why, got, x.want)
		}
	}
}

func TestP2002CollarTable(t *testing.T) {
	const huge = 1 << 40
	for _, x := range []struct {
		why           string
		static        int
		collar, widen int
		ref           int64
		round         int
		want          result
	}{
		{"round 0", 9000, 200, 300, 1000, 0, there(980, 1020)},
		{"round 1", 9000, 200, 300, 1000, 1, there(950, 1050)},
		{"round 2", 9000, 200, 300, 1000, 2, there(920, 1080)},
		{"the last round", 9000, 200, 300, 1000, 10, there(680, 1320)},
		{"no such round", 9000, 200, 300, 1000, 11, none()},
		{"nor this one", 9000, 200, 300, 1000, -1, none()},
		{"nor these", 9000, 200, 300, 1000, math.MaxInt, none()},
		{"of either sign", 9000, 200, 300, 1000, math.MinInt, none()},
		{"cut by the static band", 400, 200, 300, 1000, 1, there(960, 1040)},
		{"cut on one side", 400, 200, 300, 1020, 0, there(1000, 1040)},
		{"cut to nothing", 400, 200, 300, 1200, 0, there(1180, 1040)},
		{"no collar at first", 9000, 0, 300, 1000, 0, there(1000, 1000)},
		{"it does not widen", 9000, 200, 0, 1000, 10, there(980, 1020)},
		{"just the most parts", 9999, 9999, 1, 10000, 0, there(5, 19995)},
		{"at most so many", 9999, 9999, 1, 10000, 1, there(5, 19995)},
		{"not so many", 9999, 9998, 1, 10000, 0, there(5, 19995)},
		{"at most so many from one Collar", 9999, 10000, 0, 10000, 0, there(5, 19995)},
		{"a huge one", 9999, huge, huge, 10000, 10, there(5, 19995)},
		{"a Collar that is too great", 9999, huge + 1, 0, 10000, 0, none()},
		{"a Widen that is too great, of a round that has none", 9999, 200, huge + 1, 10000, 0, none()},
		{"a Collar below 0", 9000, -1, 300, 1000, 0, none()},
		{"one that widens to 0", 9000, -300, 300, 1000, 1, there(1000, 1000)},
		{"one that widens above 0", 9000, -100, 300, 1000, 1, there(980, 1020)},
		{"a Widen below 0", 9000, 500, -300, 1000, 1, there(980, 1020)},
		{"one that widens below 0", 9000, 200, -300, 1000, 1, none()},
		{"one that is 0 in the second round", 9000, 600, -300, 1000, 2, there(1000, 1000)},
		{"a huge one below 0", 9000, -huge, -huge, 1000, 10, none()},
		{"a huge one above it", 9000, -huge, huge, 1000, 1, there(1000, 1000)},
		{"a huge one below it", 9000, huge, -huge, 1000, 1, there(1000, 1000)},
		{"a Collar that is too small", 9000, -huge - 1, huge, 1000, 10, none()},
		{"a Widen that is too small", 9000, 200, -huge - 1, 1000, 0, none()},
		{"no reference", 9000, 200, 300, 0, 1, none()},
		{"a reference beyond", 9000, 200, 300, maxPrice + 1, 1, none()},
		{"no static band", 10000, 200, 300, 1000, 1, none()},
	} {
		s := other(5, x.static, -1, x.collar, x.widen)
		first := int64(1000)
		if x.ref == 10000 {
			first = 10000
		}
		if got := told(band.Collar(s, first, x.ref, x.round)); got != x.want {
			t.Errorf("%s: Collar is %v, not %v", x.why, got, x.want)
		}
	}
	for _, first := range []int64{0, -1000, maxPrice + 1} {
		if got := told(band.Collar(chapter(), first, 1000, 1)); got != none() {
			t.Errorf("with the first reference %d, Collar is %v", first, got)
		}
	}
	for _, grid := range []int64{0, -5, maxPrice + 1} {
		if got := told(band.Collar(other(grid, 1000, -1, 200, 300), 1000, 1000, 1)); got != none() {
			t.Errorf("with the grid %d, Collar is %v", grid, got)
		}
	}
}

func TestP2002Small(t *testing.T) {
	for grid := int64(1); grid <= 6; grid++ {
		for first := int64(1); first <= 40; first += 3 {
			for ref := int64(0); ref <= 60; ref++ {
				for parts := 0; parts <= 9999; parts += 1111 {
					sameOf(t, other(grid, parts, 2500, 0, 0), first, ref)
					sameOf(t, other(grid, 2500, parts, 0, 0), first, ref)
					sameCollar(t, other(grid, 6000, -1, parts, 300), first, ref, parts%11)
				}
			}
		}
	}
}

func TestP2002FarReferences(t *testing.T) {
	for _, grid := range far() {
		for _, first := range far() {
			for _, ref := range far() {
				s := other(grid, 3000, 2000, 1500, 777)
				sameOf(t, s, first, ref)
				sameCollar(t, s, first, ref, 3)
			}
		}
	}
}

func TestP2002FarParts(t *testing.T) {
	for _, a := range farParts() {
		for _, b := range farParts() {
			sameOf(t, other(5, a, b, 0, 0), 1000, 1080)
			sameCollar(t, other(5, a, -1, b, 300), 1000, 1080, 1)
			for _, round := range []int{least, -2, -1, 0, 1, 2, 9, 10, 11, 12, most} {
				sameCollar(t, other(5, 9999, -1, a, b), 1000, 1080, round)
			}
		}
	}
}

func TestP2002Mixed(t *testing.T) {
	d := dice(2002)
	for range 50000 {
		s := other(d.upTo(1<<20), d.below(10000), d.below(10000), d.below(11000)-500, d.below(3000)-1000)
		first := d.upTo(maxPrice)
		ref := d.upTo(maxPrice)
		if d.below(2) == 0 {
			ref = max(1, first/2+d.upTo(first))
		}
		sameOf(t, s, first, ref)
		sameCollar(t, s, first, ref, d.below(13)-1)
	}
}

func TestP2002CollarOfAnyWidth(t *testing.T) {
	// Collars and Widens of any length and sign, which meet near the ends of the parts now and then.
	d := dice(20021)
	for range 50000 {
		widen := int(d.upTo(1<<41)) - d.below(2)<<40
		round := d.below(11)
		collar := int(d.upTo(1<<41)) - d.below(2)<<40
		if d.below(2) == 0 {
			collar = d.below(12000) - 1000 - round*widen
		}
		sameCollar(t, other(5, 9999, -1, collar, widen), 1000, 1000, round)
	}
}

func TestP2002Both(t *testing.T) {
	for _, x := range []struct {
		why     string
		a, b, c api.Band
	}{
		{"one in the other", api.Band{Lo: 1, Hi: 9}, api.Band{Lo: 3, Hi: 4}, api.Band{Lo: 3, Hi: 4}},
		{"side by side", api.Band{Lo: 1, Hi: 5}, api.Band{Lo: 5, Hi: 9}, api.Band{Lo: 5, Hi: 5}},
		{"apart", api.Band{Lo: 1, Hi: 4}, api.Band{Lo: 6, Hi: 9}, api.Band{Lo: 6, Hi: 4}},
		{"the same", api.Band{Lo: 3, Hi: 4}, api.Band{Lo: 3, Hi: 4}, api.Band{Lo: 3, Hi: 4}},
		{"one has no prices", api.Band{Lo: 9, Hi: 1}, api.Band{Lo: 3, Hi: 4}, api.Band{Lo: 9, Hi: 1}},
		{"below 0", api.Band{Lo: -9, Hi: -3}, api.Band{Lo: -5, Hi: 2}, api.Band{Lo: -5, Hi: -3}},
		{"with the zero Band", api.Band{}, api.Band{Lo: 3, Hi: 4}, api.Band{Lo: 3, Hi: 0}},
		{"all there is", api.Band{Lo: least, Hi: most}, api.Band{Lo: 3, Hi: 4}, api.Band{Lo: 3, Hi: 4}},
		{"nothing at all", api.Band{Lo: most, Hi: least}, api.Band{Lo: 3, Hi: 4}, api.Band{Lo: most, Hi: least}},
	} {
		if got := band.Both(x.a, x.b); got != x.c {
			t.Errorf("%s: Both is %v, not %v", x.why, got, x.c)
		}
		if got := band.Both(x.b, x.a); got != x.c {
			t.Errorf("%s, the other way round: Both is %v, not %v", x.why, got, x.c)
		}
	}
}

// bands are all bands between some edges, also those without prices.
func bands(edges []int64) []api.Band {
	var out []api.Band
	for _, lo := range edges {
		for _, hi := range edges {
			out = append(out, api.Band{Lo: lo, Hi: hi})
		}
	}
	return out
}

func TestP2002BothOfAnything(t *testing.T) {
	list := bands(far())
	for _, a := range list {
		for _, b := range list {
			if got, want := band.Both(a, b), bothOf(a, b); got != want {
				t.Fatalf("Both(%v, %v) is %v, not %v", a, b, got, want)
			}
		}
	}
}

func TestP2003Examples(t *testing.T) {
	b := api.Band{Lo: 1030, Hi: 1100}
	if band.In(b, 1101) {
		t.Error("1101 is in the band")
	}
	if got, ok := band.Clip(b, 5000); got != 1100 || !ok {
		t.Errorf("Clip is %d and %v", got, ok)
	}
	if !band.Touches(b, 1100, 0) || band.Touches(b, 1099, 0) {
		t.Errorf("Touches is %v and %v", band.Touches(b, 1100, 0), band.Touches(b, 1099, 0))
	}
}

func TestP2003Table(t *testing.T) {
	for _, x := range []struct {
		why   string
		b     api.Band
		price int64
		in    bool
		clip  int64
		ok    bool
	}{
		{"below", api.Band{Lo: 1030, Hi: 1100}, 1029, false, 1030, true},
		{"at the lower edge", api.Band{Lo: 1030, Hi: 1100}, 1030, true, 1030, true},
		{"between", api.Band{Lo: 1030, Hi: 1100}, 1066, true, 1066, true},
		{"at the upper edge", api.Band{Lo: 1030, Hi: 1100}, 1100, true, 1100, true},
		{"above", api.Band{Lo: 1030, Hi: 1100}, 1101, false, 1100, true},
		{"far below", api.Band{Lo: 1030, Hi: 1100}, least, false, 1030, true},
		{"far above", api.Band{Lo: 1030, Hi: 1100}, most, false, 1100, true},
		{"0", api.Band{Lo: 1030, Hi: 1100}, 0, false, 1030, true},
		{"one price", api.Band{Lo: 7, Hi: 7}, 7, true, 7, true},
		{"below one price", api.Band{Lo: 7, Hi: 7}, 6, false, 7, true},
		{"above one price", api.Band{Lo: 7, Hi: 7}, 8, false, 7, true},
		{"no price", api.Band{Lo: 8, Hi: 7}, 7, false, 0, false},
		{"no price again", api.Band{Lo: 8, Hi: 7}, 8, false, 0, false},
		{"no price, between the edges", api.Band{Lo: 9, Hi: 5}, 7, false, 0, false},
		{"the zero Band", api.Band{}, 0, true, 0, true},
		{"beyond the zero Band", api.Band{}, 5, false, 0, true},
		{"a band below 0", api.Band{Lo: -9, Hi: -3}, -5, true, -5, true},
		{"above a band below 0", api.Band{Lo: -9, Hi: -3}, 0, false, -3, true},
		{"all there is", api.Band{Lo: least, Hi: most}, least, true, least, true},
		{"all there is, at its end", api.Band{Lo: least, Hi: most}, most, true, most, true},
		{"nothing at all", api.Band{Lo: most, Hi: least}, 0, false, 0, false},
	} {
		if got := band.In(x.b, x.price); got != x.in {
			t.Errorf("%s: In is %v", x.why, got)
		}
		if got, ok := band.Clip(x.b, x.price); got != x.clip || ok != x.ok {
			t.Errorf("%s: Clip is %d and %v", x.why, got, ok)
		}
	}
}

// apart is how far two numbers are from each other; no int64 may have room for it.
func apart(a, b int64) uint64 {
	if a < b {
		return uint64(b) - uint64(a)
	}
	return uint64(a) - uint64(b)
}

// nearestOf is the price of some prices that is nearest to a price; at least one price is given.
func nearestOf(prices []int64, price int64) int64 {
	return slices.MinFunc(prices, func(a, b int64) int {
		if apart(a, price) < apart(b, price) {
			return -1
		}
		return 1
	})
}

func TestP2003SmallBands(t *testing.T) {
	for _, b := range bands([]int64{-4, -3, -1, 0, 1, 2, 5, 6}) {
		var prices []int64
		for price := b.Lo; price <= b.Hi; price++ {
			prices = append(prices, price)
		}
		for price := int64(-9); price <= 9; price++ {
			if got := band.In(b, price); got != slices.Contains(prices, price) {
				t.Fatalf("In(%v, %d) is %v", b, price, got)
			}
			got, ok := band.Clip(b, price)
			if ok != (len(prices) > 0) || !ok && got != 0 || ok && got != nearestOf(prices, price) {
				t.Fatalf("Clip(%v, %d) is %d and %v", b, price, got, ok)
			}
		}
	}
}

func TestP2003FarBands(t *testing.T) {
	for _, b := range bands(far()) {
		for _, price := range far() {
			in := big.NewInt(price).Cmp(big.NewInt(b.Lo)) >= 0 && big.NewInt(price).Cmp(big.NewInt(b.Hi)) <= 0
			if got := band.In(b, price); got != in {
				t.Fatalf("In(%v, %d) is %v", b, price, got)
			}
			want := int64(0)
			if b.Lo <= b.Hi {
				// A price that is not in the band is nearest to one of the edges.
				want = nearestOf([]int64{b.Lo, b.Hi}, price)
			}
			if in {
				want = price
			}
			if got, ok := band.Clip(b, price); got != want || ok != (b.Lo <= b.Hi) {
				t.Fatalf("Clip(%v, %d) is %d and %v, not %d", b, price, got, ok, want)
			}
		}
	}
}

func TestP2003TouchesTable(t *testing.T) {
	wide := api.Band{Lo: 1030, Hi: 1100}
	for _, x := range []struct {
		why      string
		b        api.Band
		bid, ask int64
		want     bool
	}{
		{"a bid at the upper edge", wide, 1100, 0, true},
		{"a bid below it", wide, 1099, 0, false},
		{"a bid above it", wide, 1101, 0, false},
		{"an ask at the lower edge", wide, 0, 1030, true},
		{"an ask above it", wide, 0, 1031, false},
		{"an ask below it", wide, 0, 1029, false},
		{"a bid at the lower edge", wide, 1030, 0, false},
		{"an ask at the upper edge", wide, 0, 1100, false},
		{"both at the wrong edges", wide, 1030, 1100, false},
		{"both between", wide, 1060, 1065, false},
		{"the bid touches, the ask does not", wide, 1100, 1105, true},
		{"the ask touches, the bid does not", wide, 1025, 1030, true},
		{"both touch", wide, 1100, 1030, true},
		{"neither a bid nor an ask", wide, 0, 0, false},
		{"neither, and the zero Band", api.Band{}, 0, 0, false},
		{"a bid, and the zero Band", api.Band{}, 5, 0, false},
		{"an ask, and the zero Band", api.Band{}, 0, 5, false},
		{"no bid, and the upper edge is 0", api.Band{Lo: 5, Hi: 0}, 0, 6, false},
		{"no ask, and the lower edge is 0", api.Band{Lo: 0, Hi: 5}, 4, 0, false},
		{"no bid, the upper edge is 0, and the ask touches", api.Band{Lo: 5, Hi: 0}, 0, 5, true},
		{"one price", api.Band{Lo: 7, Hi: 7}, 7, 0, true},
		{"one price, by the ask", api.Band{Lo: 7, Hi: 7}, 0, 7, true},
		{"no price, and the bid is Hi", api.Band{Lo: 8, Hi: 7}, 7, 0, true},
		{"no price, and the ask is Lo", api.Band{Lo: 8, Hi: 7}, 0, 8, true},
		{"edges below 0", api.Band{Lo: -9, Hi: -3}, -3, 0, true},
		{"the ends", api.Band{Lo: least, Hi: most}, most, 0, true},
		{"the ends, by the ask", api.Band{Lo: least, Hi: most}, 0, least, true},
	} {
		if got := band.Touches(x.b, x.bid, x.ask); got != x.want {
			t.Errorf("%s: Touches is %v", x.why, got)
		}
	}
}

func TestP2003TouchesAnything(t *testing.T) {
	numbers := []int64{least, -1 << 40, -1, 0, 1, 2, 7, 1<<40 - 1, 1 << 40, 1 << 62, most}
	for _, b := range bands(numbers) {
		for _, bid := range numbers {
			for _, ask := range numbers {
				want := bid == b.Hi
				if bid == 0 {
					want = false
				}
				if ask != 0 && ask == b.Lo {
					want = true
				}
				if got := band.Touches(b, bid, ask); got != want {
					t.Fatalf("Touches(%v, %d, %d) is %v", b, bid, ask, got)
				}
			}
		}
	}
}

// valid is a symbol that config accepts, with a grid of at most some length.
func valid(t *testing.T, d *dice) api.Symbol {
	t.Helper()
	static := d.below(10000)
	s := api.Symbol{
		Grid: d.upTo(1 << d.below(41)), Static: static, Dynamic: d.below(static + 1), Collar: d.below(10000), Widen: d.below(10000),
		Window: 1, Limit: 1, Pause: 1, Ext: 1, Slots: 1, Levels: 1,
	}
	if d.below(2) == 0 {
		s.Collar, s.Widen = d.below(500), d.below(500)
	}
	s.Ref = s.Grid * d.upTo(maxPrice/s.Grid)
	if fault := config.Symbol(s); fault != api.OK {
		t.Fatalf("%+v is fault %d", s, fault)
	}
	return s
}

// contains fails the test where a band does not exist or has not the reference.
func contains(t *testing.T, what string, s api.Symbol, ref int64, b api.Band, ok bool) {
	t.Helper()
	if !ok || !band.In(b, ref) {
		t.Fatalf("%s of %+v and the reference %d is %v and %v", what, s, ref, b, ok)
	}
}

// holdsP2004 fails the test where a consequence does not hold for references on the grid, the rolling one in the static band.
func holdsP2004(t *testing.T, s api.Symbol, first, ref int64) {
	t.Helper()
	b, ok := band.Of(s, first, ref)
	contains(t, "Of", s, ref, b, ok)
	earlier, ok := band.Collar(s, first, ref, 0)
	contains(t, "the collar of round 0", s, ref, earlier, ok)
	for round := 1; round <= api.MaxExt; round++ {
		later, ok := band.Collar(s, first, ref, round)
		contains(t, "a later collar", s, ref, later, ok)
		if later.Lo > earlier.Lo || later.Hi < earlier.Hi {
			t.Fatalf("with %+v, first %d and ref %d, the collar of round %d is %v, after %v", s, first, ref, round, later, earlier)
		}
		earlier = later
	}
}

func TestP2004Small(t *testing.T) {
	for _, static := range []int{0, 1, 1000, 3333, 9999} {
		for _, parts := range []int{0, 1, 499, 1000, 9999} {
			for grid := int64(1); grid <= 5; grid++ {
				s := api.Symbol{Grid: grid, Static: static, Dynamic: min(parts, static), Collar: parts, Widen: (parts * 7) % 1001}
				for first := grid; first <= 60; first += grid {
					inside, ok := band.Static(s, first)
					contains(t, "Static", s, first, inside, ok)
					for ref := inside.Lo; ref <= inside.Hi; ref += grid {
						holdsP2004(t, s, first, ref)
					}
				}
			}
		}
	}
}

func TestP2004Mixed(t *testing.T) {
	d := dice(2004)
	for range 5000 {
		s := valid(t, &d)
		inside, ok := band.Static(s, s.Ref)
		contains(t, "Static", s, s.Ref, inside, ok)
		// A price on the grid of the static band, which may go beyond the greatest one.
		steps := (min(inside.Hi, maxPrice) - inside.Lo) / s.Grid
		for _, n := range []int64{0, steps, d.upTo(steps+1) - 1} {
			holdsP2004(t, s, s.Ref, inside.Lo+n*s.Grid)
		}
	}
}
