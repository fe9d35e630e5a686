package fix_test

import (
	"math"
	"math/big"
	"testing"

	"damper/api"
	"damper/fix"
)

const (
	least = math.MinInt64
	most  = math.MaxInt64
)

// edges are the numbers at which a sign, a product or a bound may go wrong, from below 0 to above.
func edges() []int64 {
	out := []int64{0, least, least + 1}
	for _, n := range []int64{
		1, 2, 3, 5, 7, 10, 9999, 10000, 10001, 1<<31 - 1, 1 << 31, 1<<32 - 1, 1 << 32, 1<<32 + 1, 3037000499, 3037000500,
		1<<40 - 1, 1 << 40, 1<<40 + 1, 1<<50 + 1, 1<<62 - 1, 1 << 62, 1<<62 + 1, most/3 + 1, most - 1, most,
	} {
		out = append(out, n, -n)
	}
	return out
}

// mixed are n numbers of all lengths and both signs that look like nothing, the same ones at every call.
func mixed(n int) []int64 {
	var out []int64
	state := uint64(2027)
	for i := range n {
		state += 0x9e3779b97f4a7c15
		z := (state ^ state>>30) * 0xbf58476d1ce4e5b9
		z = (z ^ z>>27) * 0x94d049bb133111eb
		out = append(out, int64(z^z>>31)>>(i%63))
	}
	return out
}

// positive are the numbers of edges and mixed from 1 to limit.
func positive(limit int64) []int64 {
	var out []int64
	for _, n := range append(edges(), mixed(200)...) {
		if n >= 1 && n <= limit {
			out = append(out, n)
		}
	}
	return out
}

// within is v as an int64 and true, or 0 and false if it is none.
func within(v *big.Int) (int64, bool) {
	if !v.IsInt64() {
		return 0, false
	}
	return v.Int64(), true
}

// rounded is v / d for a v that is not negative, by the library's whole division.
func rounded(v *big.Int, d int64, up bool) *big.Int {
	quotient, rest := new(big.Int).QuoRem(v, big.NewInt(d), new(big.Int))
	if up && rest.Sign() != 0 {
		quotient.Add(quotient, big.NewInt(1))
	}
	return quotient
}

// two is a function of two numbers; its name says which one failed.
type two struct {
	name string
	got  func(a, b int64) (int64, bool)
	want func(z, x, y *big.Int) *big.Int
}

func twos() []two {
	return []two{
		{"Add", fix.Add, (*big.Int).Add},
		{"Sub", fix.Sub, (*big.Int).Sub},
		{"Mul", fix.Mul, (*big.Int).Mul},
	}
}

func TestP201Examples(t *testing.T) {
	for _, c := range []struct {
		name string
		f    func(a, b int64) (int64, bool)
		a, b int64
		want int64
		ok   bool
	}{
		{"Add", fix.Add, 2, 3, 5, true},
		{"Add", fix.Add, -2, -3, -5, true},
		{"Add", fix.Add, 1 << 62, 1 << 62, 0, false},
		{"Add", fix.Add, 1 << 62, 1<<62 - 1, most, true},
		{"Add", fix.Add, -1 << 62, -1 << 62, least, true},
		{"Add", fix.Add, most, 0, most, true},
		{"Add", fix.Add, most, 1, 0, false},
		{"Add", fix.Add, 1, most, 0, false},
		{"Add", fix.Add, least, -1, 0, false},
		{"Add", fix.Add, -1, least, 0, false},
		{"Add", fix.Add, least, least, 0, false},
		{"Add", fix.Add, least, most, -1, true},
		{"Sub", fix.Sub, 2, 3, -1, true},
		{"Sub", fix.Sub, least, 1, 0, false},
		{"Sub", fix.Sub, least, 0, least, true},
		{"Sub", fix.Sub, 0, least, 0, false},
		{"Sub", fix.Sub, -1, least, most, true},
		{"Sub", fix.Sub, least, least, 0, true},
		{"Sub", fix.Sub, most, -1, 0, false},
		{"Sub", fix.Sub, -1, most, least, true},
		{"Sub", fix.Sub, -2, most, 0, false},
		{"Mul", fix.Mul, 6, 7, 42, true},
		{"Mul", fix.Mul, 6, -7, -42, true},
		{"Mul", fix.Mul, -6, -7, 42, true},
		{"Mul", fix.Mul, 0, least, 0, true},
		{"Mul", fix.Mul, -1 << 62, 2, least, true},
		{"Mul", fix.Mul, 2, -1 << 62, least, true},
		{"Mul", fix.Mul, -1 << 62, -2, 0, false},
		{"Mul", fix.Mul, 1 << 62, 2, 0, false},
		{"Mul", fix.Mul, least, 1, least, true},
		{"Mul", fix.Mul, 1, least, least, true},
		{"Mul", fix.Mul, least, -1, 0, false},
		{"Mul", fix.Mul, -1, least, 0, false},
		{"Mul", fix.Mul, least, least, 0, false},
		{"Mul", fix.Mul, most, most, 0, false},
		{"Mul", fix.Mul, most, -1, -most, true},
		{"Mul", fix.Mul, 1 << 32, 1 << 32, 0, false},
		{"Mul", fix.Mul, 3, -(1<<62 - 1), 0, false},
	} {
		if got, ok := c.f(c.a, c.b); got != c.want || ok != c.ok {
			t.Errorf("%s(%d, %d): %d %v, not %d %v", c.name, c.a, c.b, got, ok, c.want, c.ok)
		}
	}
}

func TestP201OfMany(t *testing.T) {
	numbers := append(edges(), mixed(200)...)
	for _, f := range twos() {
		for _, a := range numbers {
			for _, b := range numbers {
				want, fits := within(f.want(new(big.Int), big.NewInt(a), big.NewInt(b)))
				if got, ok := f.got(a, b); got != want || ok != fits {
					t.Fatalf("%s(%d, %d): %d %v, not %d %v", f.name, a, b, got, ok, want, fits)
				}
			}
		}
	}
}

func TestP202Examples(t *testing.T) {
	for _, c := range []struct {
		a, b, d int64
		up      bool
		want    int64
		ok      bool
	}{
		{10, 10, 3, true, 34, true},
		{10, 10, 3, false, 33, true},
		{10, 10, 5, true, 20, true},
		{10, 10, 5, false, 20, true},
		{0, 10, 3, true, 0, true},
		{10, 0, 3, true, 0, true},
		{1, 1, most, true, 1, true},
		{1, 1, most, false, 0, true},
		{most, most, most, true, most, true},
		{most, most, most - 1, false, 0, false},
		{most, 1, 1, true, most, true},
		{most, 2, 2, false, most, true},
		{most, 2, 1, false, 0, false},
		{most, most, 1, true, 0, false},
		{1 << 62, 1 << 62, 1 << 62, false, 1 << 62, true},
		{1 << 62, 2, 1, false, 0, false},
		{1 << 62, 4, 1, false, 0, false},
		// Between the greatest int64 and one more: only rounding down stays within.
		{3, 6148914691236517205, 2, false, most, true},
		{3, 6148914691236517205, 2, true, 0, false},
		{-1, 1, 1, false, 0, false},
		{1, -1, 1, false, 0, false},
		{-1, -1, 1, false, 0, false},
		{0, -1, 1, true, 0, false},
		{-1, 0, 1, true, 0, false},
		{least, 1, 1, true, 0, false},
		{1, 1, 0, false, 0, false},
		{1, 1, -1, true, 0, false},
		{1, 1, least, true, 0, false},
	} {
		if got, ok := fix.MulDiv(c.a, c.b, c.d, c.up); got != c.want || ok != c.ok {
			t.Errorf("MulDiv(%d, %d, %d, %v): %d %v, not %d %v", c.a, c.b, c.d, c.up, got, ok, c.want, c.ok)
		}
	}
}

func TestP202OfMany(t *testing.T) {
	numbers := append(edges(), mixed(40)...)
	for _, a := range numbers {
		for _, b := range numbers {
			product := new(big.Int).Mul(big.NewInt(a), big.NewInt(b))
			for _, d := range numbers {
				for _, up := range []bool{false, true} {
					want, fits := int64(0), false
					if a >= 0 && b >= 0 && d >= 1 {
						want, fits = within(rounded(product, d, up))
					}
					if got, ok := fix.MulDiv(a, b, d, up); got != want || ok != fits {
						t.Fatalf("MulDiv(%d, %d, %d, %v): %d %v, not %d %v", a, b, d, up, got, ok, want, fits)
					}
				}
			}
		}
	}
}

func TestP203Examples(t *testing.T) {
	for _, c := range []struct {
		p, grid, down, up int64
		ok                bool
	}{
		{14, 5, 10, 15, true},
		{11, 5, 10, 15, true},
		{15, 5, 15, 15, true},
		{4, 5, 0, 5, true},
		{0, 5, 0, 0, true},
		{0, most, 0, 0, true},
		{1, most, 0, most, true},
		{most, 1, most, most, true},
		{most, most, most, most, true},
		{most - 1, most, 0, most, true},
		{most, 2, most - 1, 0, false},
		{most, 7, most, most, true},
		{most - 1, 7, most - 7, most, true},
		{most, most - 1, most - 1, 0, false},
		{1<<62 + 1, 1 << 62, 1 << 62, 0, false},
		{-1, 5, 0, 0, false},
		{-5, 5, 0, 0, false},
		{least, 1, 0, 0, false},
		{14, 0, 0, 0, false},
		{0, 0, 0, 0, false},
		{14, -1, 0, 0, false},
		{14, -7, 0, 0, false},
		{least, -1, 0, 0, false},
		{14, least, 0, 0, false},
	} {
		if got := fix.Down(c.p, c.grid); got != c.down {
			t.Errorf("Down(%d, %d): %d, not %d", c.p, c.grid, got, c.down)
		}
		if got, ok := fix.Up(c.p, c.grid); got != c.up || ok != c.ok {
			t.Errorf("Up(%d, %d): %d %v, not %d %v", c.p, c.grid, got, ok, c.up, c.ok)
		}
	}
}

func TestP203OfMany(t *testing.T) {
	numbers := append(edges(), mixed(200)...)
	for _, p := range numbers {
		for _, grid := range numbers {
			down, up, fits := int64(0), int64(0), false
			if p >= 0 && grid >= 1 {
				g := big.NewInt(grid)
				down = new(big.Int).Mul(rounded(big.NewInt(p), grid, false), g).Int64()
				up, fits = within(new(big.Int).Mul(rounded(big.NewInt(p), grid, true), g))
			}
			if got := fix.Down(p, grid); got != down {
				t.Fatalf("Down(%d, %d): %d, not %d", p, grid, got, down)
			}
			if got, ok := fix.Up(p, grid); got != up || ok != fits {
				t.Fatalf("Up(%d, %d): %d %v, not %d %v", p, grid, got, ok, up, fits)
			}
		}
	}
}

func TestP204Examples(t *testing.T) {
	const top = api.MaxPrice
	for _, c := range []struct {
		ref          int64
		bps          int
		grid         int64
		lower, upper int64
		ok           bool
	}{
		{1000, 333, 5, 970, 1030, true},
		{1000, 500, 7, 952, 1050, true},
		{1000, 500, 5, 950, 1050, true},
		{1000, 0, 5, 1000, 1000, true},
		{1001, 0, 5, 1005, 1000, true},
		// The first rounding is seen where the grid lets every number be.
		{1001, 333, 1, 968, 1034, true},
		{999, 1, 1, 999, 999, true},
		{1, 0, 1, 1, 1, true},
		{1, 0, 5, 5, 0, true},
		{1, 9999, 1, 1, 1, true},
		{10000, 9999, 1, 1, 19999, true},
		{10001, 9999, 1, 2, 20000, true},
		{top, 0, 1, top, top, true},
		{top, 0, top, top, top, true},
		{top, 9999, 1, 109951163, 2198913304389, true},
		{top, 9999, top, top, top, true},
		{1, 9999, top, top, 0, true},
		{0, 500, 5, 0, 0, false},
		{-1000, 500, 5, 0, 0, false},
		{least, 500, 5, 0, 0, false},
		{top + 1, 500, 5, 0, 0, false},
		{most, 500, 5, 0, 0, false},
		{1000, -1, 5, 0, 0, false},
		{1000, math.MinInt, 5, 0, 0, false},
		{1000, 10000, 5, 0, 0, false},
		{1000, math.MaxInt, 5, 0, 0, false},
		{1000, 500, 0, 0, 0, false},
		{1000, 500, -5, 0, 0, false},
		{1000, 500, least, 0, 0, false},
		{1000, 500, top + 1, 0, 0, false},
		{1000, 500, most, 0, 0, false},
		// One condition that fails is not mended by others that hold, nor by another that fails.
		{0, 10000, 5, 0, 0, false},
		{1000, 10000, 0, 0, 0, false},
		{0, 10000, 0, 0, 0, false},
	} {
		if got, ok := fix.Lower(c.ref, c.bps, c.grid); got != c.lower || ok != c.ok {
			t.Errorf("Lower(%d, %d, %d): %d %v, not %d %v", c.ref, c.bps, c.grid, got, ok, c.lower, c.ok)
		}
		if got, ok := fix.Upper(c.ref, c.bps, c.grid); got != c.upper || ok != c.ok {
			t.Errorf("Upper(%d, %d, %d): %d %v, not %d %v", c.ref, c.bps, c.grid, got, ok, c.upper, c.ok)
		}
	}
}

// edge is what the chapter says of Lower (up: true) and Upper: two roundings, one after the other.
func edge(ref int64, parts, grid int64, up bool) int64 {
	v := rounded(new(big.Int).Mul(big.NewInt(ref), big.NewInt(parts)), 10000, up)
	return new(big.Int).Mul(rounded(v, grid, up), big.NewInt(grid)).Int64()
}

// valid is whether the chapter lets Lower and Upper answer.
func valid(ref int64, bps int, grid int64) bool {
	return ref >= 1 && ref <= 1<<40 && bps >= 0 && bps <= 9999 && grid >= 1 && grid <= 1<<40
}

func TestP204OfMany(t *testing.T) {
	numbers := append(edges(), mixed(120)...)
	parts := []int{math.MinInt, -10001, -10000, -1, 0, 1, 2, 333, 500, 5000, 9998, 9999, 10000, 10001, math.MaxInt}
	for _, ref := range numbers {
		for _, grid := range numbers {
			for _, bps := range parts {
				ok := valid(ref, bps, grid)
				lower, upper := int64(0), int64(0)
				if ok {
					lower = edge(ref, int64(10000-bps), grid, true)
					upper = edge(ref, int64(10000+bps), grid, false)
				}
				if got, fits := fix.Lower(ref, bps, grid); got != lower || fits != ok {
					t.Fatalf("Lower(%d, %d, %d): %d %v, not %d %v", ref, bps, grid, got, fits, lower, ok)
				}
				if got, fits := fix.Upper(ref, bps, grid); got != upper || fits != ok {
					t.Fatalf("Upper(%d, %d, %d): %d %v, not %d %v", ref, bps, grid, got, fits, upper, ok)
				}
			}
		}
	}
}

func TestP205NotionalExamples(t *testing.T) {
	for _, c := range []struct {
		price, qty, want int64
		ok               bool
	}{
		{1000, 2, 2000, true},
		{0, 0, 0, true},
		{0, most, 0, true},
		{most, 1, most, true},
		{1 << 40, 1<<23 - 1, 1<<63 - 1<<40, true},
		{1 << 40, 1 << 23, 0, false},
		{api.MaxPrice, api.MaxQty, 0, false},
		{most, most, 0, false},
		{-1, 2, 0, false},
		{2, -1, 0, false},
		{-1, -1, 0, false},
		{-1, 0, 0, false},
		{0, -1, 0, false},
		{least, 1, 0, false},
		{1, least, 0, false},
	} {
		if got, ok := fix.Notional(c.price, c.qty); got != c.want || ok != c.ok {
			t.Errorf("Notional(%d, %d): %d %v, not %d %v", c.price, c.qty, got, ok, c.want, c.ok)
		}
	}
}

func TestP205NotionalOfMany(t *testing.T) {
	numbers := append(edges(), mixed(200)...)
	for _, price := range numbers {
		for _, qty := range numbers {
			want, fits := int64(0), false
			if price >= 0 && qty >= 0 {
				want, fits = within(new(big.Int).Mul(big.NewInt(price), big.NewInt(qty)))
			}
			if got, ok := fix.Notional(price, qty); got != want || ok != fits {
				t.Fatalf("Notional(%d, %d): %d %v, not %d %v", price, qty, got, ok, want, fits)
			}
		}
	}
}

func TestP205Price(t *testing.T) {
	for _, c := range []struct {
		p, grid int64
		want    api.Fault
	}{
		{12, 5, api.OffGrid},
		{15, 5, api.OK},
		{5, 5, api.OK},
		{4, 5, api.OffGrid},
		{1, 1, api.OK},
		{0, 1, api.Range},
		{0, 5, api.Range},
		{-5, 5, api.Range},
		{-12, 5, api.Range},
		{least, 1, api.Range},
		{api.MaxPrice, 1, api.OK},
		{api.MaxPrice, api.MaxPrice, api.OK},
		{api.MaxPrice, 3, api.OffGrid},
		{api.MaxPrice + 1, 1, api.Range},
		{api.MaxPrice + 1, 5, api.Range},
		{api.MaxPrice, api.MaxPrice + 1, api.OffGrid},
		{api.MaxPrice + 1, api.MaxPrice + 1, api.Range},
		{most, most, api.Range},
		{7, most, api.OffGrid},
		{12, 0, api.BadArg},
		{12, -1, api.BadArg},
		{12, -5, api.BadArg},
		{12, least, api.BadArg},
		{0, 0, api.BadArg},
		{-1, -1, api.BadArg},
		{least, -1, api.BadArg},
		{most, 0, api.BadArg},
	} {
		if got := fix.Price(c.p, c.grid); got != c.want {
			t.Errorf("Price(%d, %d): %d, not %d", c.p, c.grid, got, c.want)
		}
	}
}

func TestP205Qty(t *testing.T) {
	for _, c := range []struct {
		q    int64
		want api.Fault
	}{
		{0, api.Range},
		{1, api.OK},
		{2, api.OK},
		{-1, api.Range},
		{least, api.Range},
		{api.MaxQty - 1, api.OK},
		{api.MaxQty, api.OK},
		{api.MaxQty + 1, api.Range},
		{most, api.Range},
	} {
		if got := fix.Qty(c.q); got != c.want {
			t.Errorf("Qty(%d): %d, not %d", c.q, got, c.want)
		}
	}
}

// TestP206 asks the package's own edges of references on the grid, the only ones it speaks of.
func TestP206(t *testing.T) {
	bands := 0
	for _, grid := range positive(api.MaxPrice) {
		for _, n := range positive(api.MaxPrice) {
			ref := n - n%grid
			if ref == 0 {
				continue
			}
			for _, bps := range []int{0, 1, 333, 500, 5000, 9999} {
				lower, below := fix.Lower(ref, bps, grid)
				upper, above := fix.Upper(ref, bps, grid)
				if !below || !above || lower > ref || upper < ref {
					t.Fatalf("of %d, %d, %d: %d %v and %d %v", ref, bps, grid, lower, below, upper, above)
				}
				if lower%grid != 0 || upper%grid != 0 || lower < grid {
					t.Fatalf("of %d, %d, %d: %d and %d", ref, bps, grid, lower, upper)
				}
				bands++
			}
		}
	}
	if bands < 1000 {
		t.Fatalf("only %d bands", bands)
	}
}
