package wide_test

import (
	"math"
	"math/big"
	"testing"

	"damper/wide"
)

const top = math.MaxUint64

var (
	zero = wide.Wide{}
	most = wide.Wide{Hi: top, Lo: top}
)

// halves are the numbers of 64 bits at whose borders a carry, a sign or a digit may go wrong.
func halves() []uint64 {
	return []uint64{
		0, 1, 2, 3, 7, 9, 10, 11, 1<<31 - 1, 1 << 31, 1<<32 - 1, 1 << 32, 1<<32 + 1,
		1<<63 - 1, 1 << 63, 1<<63 + 1, 10_000_000_000_000_000_000, 0xaaaaaaaaaaaaaaaa, 0x5555555555555555, top - 1, top,
	}
}

// mixed are n numbers that look like nothing, the same ones at every call.
func mixed(n int) []uint64 {
	var out []uint64
	state := uint64(2026)
	for range n {
		state += 0x9e3779b97f4a7c15
		z := (state ^ state>>30) * 0xbf58476d1ce4e5b9
		z = (z ^ z>>27) * 0x94d049bb133111eb
		out = append(out, z^z>>31)
	}
	return out
}

// wides are all pairs of halves, and some mixed ones of all lengths.
func wides() []wide.Wide {
	var out []wide.Wide
	for _, hi := range halves() {
		for _, lo := range halves() {
			out = append(out, wide.Wide{Hi: hi, Lo: lo})
		}
	}
	ms := mixed(128)
	for i, lo := range ms {
		hi := ms[len(ms)-1-i]
		if i < 64 {
			hi >>= i
		} else {
			hi, lo = 0, lo>>(i-64)
		}
		out = append(out, wide.Wide{Hi: hi, Lo: lo})
	}
	return out
}

// value is w as the definition says: Hi * 2^64 + Lo.
func value(w wide.Wide) *big.Int {
	v := new(big.Int).SetUint64(w.Hi)
	v.Lsh(v, 64)
	return v.Add(v, new(big.Int).SetUint64(w.Lo))
}

// modulus is 2^128.
func modulus() *big.Int { return new(big.Int).Lsh(big.NewInt(1), 128) }

// lowest are the lowest 128 bits of v, of a negative one too.
func lowest(v *big.Int) wide.Wide {
	v = new(big.Int).Mod(v, modulus())
	lo := new(big.Int).And(v, new(big.Int).SetUint64(top))
	return wide.Wide{Hi: new(big.Int).Rsh(v, 64).Uint64(), Lo: lo.Uint64()}
}

func TestP101MulExamples(t *testing.T) {
	for _, c := range []struct {
		a, b uint64
		want wide.Wide
	}{
		{1 << 63, 4, wide.Wide{Hi: 2}},
		{1 << 63, 6, wide.Wide{Hi: 3}},
		{0, 0, zero},
		{0, top, zero},
		{top, 0, zero},
		{1, top, wide.Wide{Lo: top}},
		{6, 7, wide.Wide{Lo: 42}},
		{1 << 32, 1 << 32, wide.Wide{Hi: 1}},
		{top, top, wide.Wide{Hi: top - 1, Lo: 1}},
	} {
		if got := wide.Mul(c.a, c.b); got != c.want {
			t.Errorf("Mul(%d, %d): %v, not %v", c.a, c.b, got, c.want)
		}
	}
}

func TestP101MulOfMany(t *testing.T) {
	factors := append(halves(), mixed(100)...)
	for _, a := range factors {
		for _, b := range factors {
			want := lowest(new(big.Int).Mul(value(wide.Wide{Lo: a}), value(wide.Wide{Lo: b})))
			if got := wide.Mul(a, b); got != want {
				t.Fatalf("Mul(%d, %d): %v, not %v", a, b, got, want)
			}
		}
	}
}

func TestP101AddExamples(t *testing.T) {
	for _, c := range []struct {
		w, x, want wide.Wide
		ok         bool
	}{
		{most, wide.Wide{Lo: 1}, zero, false},
		{wide.Wide{Lo: 1}, most, zero, false},
		{most, zero, most, true},
		{zero, zero, zero, true},
		{wide.Wide{Lo: top}, wide.Wide{Lo: 1}, wide.Wide{Hi: 1}, true},
		{wide.Wide{Hi: top, Lo: top - 1}, wide.Wide{Lo: 1}, most, true},
		{wide.Wide{Hi: top}, wide.Wide{Hi: 1}, zero, false},
		{wide.Wide{Hi: top, Lo: 5}, wide.Wide{Hi: 3, Lo: 4}, wide.Wide{Hi: 2, Lo: 9}, false},
		{most, most, wide.Wide{Hi: top, Lo: top - 1}, false},
	} {
		if got, ok := c.w.Add(c.x); got != c.want || ok != c.ok {
			t.Errorf("%v.Add(%v): %v %v, not %v %v", c.w, c.x, got, ok, c.want, c.ok)
		}
	}
}

func TestP101AddOfMany(t *testing.T) {
	for _, w := range wides() {
		for _, x := range wides() {
			sum := new(big.Int).Add(value(w), value(x))
			got, ok := w.Add(x)
			if want := lowest(sum); got != want || ok != (sum.Cmp(modulus()) < 0) {
				t.Fatalf("%v.Add(%v): %v %v, not %v", w, x, got, ok, want)
			}
		}
	}
}

func TestP101SubExamples(t *testing.T) {
	for _, c := range []struct {
		w, x, want wide.Wide
		ok         bool
	}{
		{wide.Wide{Lo: 1}, wide.Wide{Lo: 2}, most, false},
		{zero, zero, zero, true},
		{most, most, zero, true},
		{most, zero, most, true},
		{zero, most, wide.Wide{Lo: 1}, false},
		{zero, wide.Wide{Hi: 1}, wide.Wide{Hi: top}, false},
		{wide.Wide{Hi: 1}, wide.Wide{Lo: 1}, wide.Wide{Lo: top}, true},
		{wide.Wide{Hi: 1}, wide.Wide{Hi: 1, Lo: 1}, most, false},
		{wide.Wide{Hi: 5, Lo: 9}, wide.Wide{Hi: 3, Lo: 4}, wide.Wide{Hi: 2, Lo: 5}, true},
	} {
		if got, ok := c.w.Sub(c.x); got != c.want || ok != c.ok {
			t.Errorf("%v.Sub(%v): %v %v, not %v %v", c.w, c.x, got, ok, c.want, c.ok)
		}
	}
}

func TestP101SubOfMany(t *testing.T) {
	for _, w := range wides() {
		for _, x := range wides() {
			difference := new(big.Int).Sub(value(w), value(x))
			got, ok := w.Sub(x)
			if want := lowest(difference); got != want || ok != (difference.Sign() >= 0) {
				t.Fatalf("%v.Sub(%v): %v %v, not %v", w, x, got, ok, want)
			}
		}
	}
}

func TestP102ShiftExamples(t *testing.T) {
	w := wide.Wide{Hi: 0x8000000000000001, Lo: 0xc000000000000003}
	for _, c := range []struct {
		n           int
		left, right wide.Wide
	}{
		{math.MinInt, w, w},
		{-128, w, w},
		{-64, w, w},
		{-1, w, w},
		{0, w, w},
		{1, wide.Wide{Hi: 3, Lo: 0x8000000000000006}, wide.Wide{Hi: 1 << 62, Lo: 0xe000000000000001}},
		{63, wide.Wide{Hi: 0xe000000000000001, Lo: 1 << 63}, wide.Wide{Hi: 1, Lo: 3}},
		{64, wide.Wide{Hi: w.Lo}, wide.Wide{Lo: w.Hi}},
		{65, wide.Wide{Hi: 0x8000000000000006}, wide.Wide{Lo: 1 << 62}},
		{127, wide.Wide{Hi: 1 << 63}, wide.Wide{Lo: 1}},
		{128, zero, zero},
		{129, zero, zero},
		{192, zero, zero},
		{1 << 32, zero, zero},
		{math.MaxInt, zero, zero},
	} {
		if got := w.Left(c.n); got != c.left {
			t.Errorf("%v.Left(%d): %v, not %v", w, c.n, got, c.left)
		}
		if got := w.Right(c.n); got != c.right {
			t.Errorf("%v.Right(%d): %v, not %v", w, c.n, got, c.right)
		}
	}
	if got := (wide.Wide{Hi: 3}).Left(63); got != (wide.Wide{Hi: 9223372036854775808}) {
		t.Errorf("{3, 0}.Left(63): %v", got)
	}
	if got := (wide.Wide{Hi: 3}).Right(64); got != (wide.Wide{Lo: 3}) {
		t.Errorf("{3, 0}.Right(64): %v", got)
	}
}

func TestP102ShiftsOfMany(t *testing.T) {
	for _, w := range wides() {
		for n := -3; n <= 260; n++ {
			left, right := w, w
			if n >= 0 {
				left = lowest(new(big.Int).Lsh(value(w), uint(n)))
				right = lowest(new(big.Int).Rsh(value(w), uint(n)))
			}
			if got := w.Left(n); got != left {
				t.Fatalf("%v.Left(%d): %v, not %v", w, n, got, left)
			}
			if got := w.Right(n); got != right {
				t.Fatalf("%v.Right(%d): %v, not %v", w, n, got, right)
			}
		}
	}
}

func TestP103CmpExamples(t *testing.T) {
	for _, c := range []struct {
		w, x wide.Wide
		want int
	}{
		{wide.Wide{Hi: 3}, zero, 1},
		{zero, wide.Wide{Hi: 3}, -1},
		{zero, zero, 0},
		{most, most, 0},
		{wide.Wide{Hi: 1}, wide.Wide{Lo: top}, 1},
		{wide.Wide{Hi: 1, Lo: 2}, wide.Wide{Hi: 2, Lo: 1}, -1},
		{wide.Wide{Hi: 7, Lo: 1 << 63}, wide.Wide{Hi: 7, Lo: 1}, 1},
		{wide.Wide{Hi: 1 << 63}, wide.Wide{Hi: 1}, 1},
	} {
		if got := c.w.Cmp(c.x); got != c.want {
			t.Errorf("%v.Cmp(%v): %d, not %d", c.w, c.x, got, c.want)
		}
	}
}

func TestP103CmpOfMany(t *testing.T) {
	for _, w := range wides() {
		for _, x := range wides() {
			if got, want := w.Cmp(x), value(w).Cmp(value(x)); got != want {
				t.Fatalf("%v.Cmp(%v): %d, not %d", w, x, got, want)
			}
		}
	}
}

func TestP103Len(t *testing.T) {
	if got := zero.Len(); got != 0 {
		t.Errorf("Len of 0: %d", got)
	}
	if got := (wide.Wide{Hi: 3}).Len(); got != 66 {
		t.Errorf("{3, 0}.Len(): %d, not 66", got)
	}
	for n := range 128 {
		power := new(big.Int).Lsh(big.NewInt(1), uint(n))
		if got := lowest(power).Len(); got != n+1 {
			t.Errorf("Len of 2^%d: %d", n, got)
		}
		if got := lowest(new(big.Int).Sub(power, big.NewInt(1))).Len(); got != n {
			t.Errorf("Len of 2^%d - 1: %d", n, got)
		}
	}
	for _, w := range wides() {
		if got, want := w.Len(), value(w).BitLen(); got != want {
			t.Fatalf("%v.Len(): %d, not %d", w, got, want)
		}
	}
}

func TestP103TextExamples(t *testing.T) {
	for _, c := range []struct {
		w    wide.Wide
		want string
	}{
		{zero, "0"},
		{wide.Wide{Lo: 1}, "1"},
		{wide.Wide{Lo: 9}, "9"},
		{wide.Wide{Lo: 10}, "10"},
		{wide.Wide{Lo: 100200}, "100200"},
		{wide.Wide{Lo: top}, "18446744073709551615"},
		{wide.Wide{Hi: 1}, "18446744073709551616"},
		{wide.Mul(1<<63, 4), "36893488147419103232"},
		{most, "340282366920938463463374607431768211455"},
	} {
		if got := c.w.Text(); got != c.want {
			t.Errorf("%v.Text(): %q, not %q", c.w, got, c.want)
		}
	}
}

func TestP103TextOfMany(t *testing.T) {
	power := big.NewInt(1)
	for range 39 {
		for _, v := range []*big.Int{power, new(big.Int).Sub(power, big.NewInt(1))} {
			if got, want := lowest(v).Text(), v.String(); got != want {
				t.Errorf("Text: %q, not %q", got, want)
			}
		}
		power = new(big.Int).Mul(power, big.NewInt(10))
	}
	for _, w := range wides() {
		if got, want := w.Text(), value(w).String(); got != want {
			t.Fatalf("%v.Text(): %q, not %q", w, got, want)
		}
	}
}

func TestP104DivExamples(t *testing.T) {
	for _, c := range []struct {
		w        wide.Wide
		d        uint64
		quotient wide.Wide
		rest     uint64
		ok       bool
	}{
		{wide.Wide{Hi: 3}, 7, wide.Wide{Lo: 7905747460161236406}, 6, true},
		{wide.Wide{Hi: 3}, 0, zero, 0, false},
		{zero, 0, zero, 0, false},
		{most, 0, zero, 0, false},
		{zero, 1, zero, 0, true},
		{zero, top, zero, 0, true},
		{most, 1, most, 0, true},
		{most, 2, wide.Wide{Hi: top >> 1, Lo: top}, 1, true},
		{most, top, wide.Wide{Hi: 1, Lo: 1}, 0, true},
		{most, 1 << 63, wide.Wide{Hi: 1, Lo: top}, top >> 1, true},
		{wide.Wide{Hi: top - 1, Lo: top}, top, wide.Wide{Lo: top}, top - 1, true},
		{wide.Wide{Hi: top - 1, Lo: 1}, top, wide.Wide{Lo: top}, 0, true},
		{wide.Wide{Lo: top - 1}, top, zero, top - 1, true},
		{wide.Wide{Lo: top}, top, wide.Wide{Lo: 1}, 0, true},
		{wide.Wide{Lo: 42}, 5, wide.Wide{Lo: 8}, 2, true},
	} {
		quotient, rest, ok := c.w.Div(c.d)
		if quotient != c.quotient || rest != c.rest || ok != c.ok {
			t.Errorf("%v.Div(%d): %v %d %v, not %v %d %v", c.w, c.d, quotient, rest, ok, c.quotient, c.rest, c.ok)
		}
	}
}

// divisors are of all lengths, most of them with all 64 bits.
func divisors() []uint64 {
	out := append(halves(), mixed(20)...)
	for i, d := range mixed(64) {
		out = append(out, d>>i)
	}
	return out
}

func TestP104DivOfMany(t *testing.T) {
	for _, w := range wides() {
		for _, d := range divisors() {
			quotient, rest, ok := w.Div(d)
			if d == 0 {
				if quotient != zero || rest != 0 || ok {
					t.Fatalf("%v.Div(0): %v %d %v", w, quotient, rest, ok)
				}
				continue
			}
			q, r := new(big.Int).QuoRem(value(w), value(wide.Wide{Lo: d}), new(big.Int))
			if quotient != lowest(q) || rest != r.Uint64() || !ok {
				t.Fatalf("%v.Div(%d): %v %d %v, not %v %v", w, d, quotient, rest, ok, q, r)
			}
		}
	}
}

// TestP105 goes back from quotient and remainder with the package's own operations.
func TestP105(t *testing.T) {
	for _, w := range wides() {
		for _, d := range divisors() {
			quotient, rest, ok := w.Div(d)
			if ok != (d != 0) {
				t.Fatalf("%v.Div(%d): %v", w, d, ok)
			}
			if !ok {
				continue
			}
			if rest >= d {
				t.Fatalf("%v.Div(%d): remainder %d", w, d, rest)
			}
			high := wide.Mul(quotient.Hi, d)
			if high.Hi != 0 {
				t.Fatalf("%v.Div(%d): quotient %v is too great", w, d, quotient)
			}
			product, fits := high.Left(64).Add(wide.Mul(quotient.Lo, d))
			back, whole := product.Add(wide.Wide{Lo: rest})
			if back != w || !fits || !whole {
				t.Fatalf("%v.Div(%d): %v times it and %d is %v", w, d, quotient, rest, back)
			}
		}
	}
}
