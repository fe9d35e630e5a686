// Package wide is layer 1: numbers of 128 bits, by shifts. See shared/doc/01-wide.md.
package wide

import "math/bits"

// Wide: Hi times 2^64, and Lo.
type Wide struct{ Hi, Lo uint64 }

// maxDigits is how many decimal digits 2^128 - 1 has.
const maxDigits = 39

// Mul is the product of a and b; 128 bits hold every one.
func Mul(a, b uint64) Wide {
	hi, lo := bits.Mul64(a, b)
	return Wide{hi, lo}
}

// Add is the sum's lowest 128 bits, and whether they are the whole sum.
func (w Wide) Add(x Wide) (Wide, bool) {
	lo, carry := bits.Add64(w.Lo, x.Lo, 0)
	hi, carry := bits.Add64(w.Hi, x.Hi, carry)
	return Wide{hi, lo}, carry == 0
}

// Sub is the difference's lowest 128 bits, and whether it is not negative.
func (w Wide) Sub(x Wide) (Wide, bool) {
	lo, borrow := bits.Sub64(w.Lo, x.Lo, 0)
	hi, borrow := bits.Sub64(w.Hi, x.Hi, borrow)
	return Wide{hi, lo}, borrow == 0
}

// Left shifts by n bits; a negative n is tested first, since a shift by one would panic.
func (w Wide) Left(n int) Wide {
	switch {
	case n < 0:
		return w
	case n < 64:
		return Wide{w.Hi<<n | w.Lo>>(64-n), w.Lo << n}
	}
	return Wide{w.Lo << (n - 64), 0}
}

// Right shifts by n bits; a negative n is tested first, since a shift by one would panic.
func (w Wide) Right(n int) Wide {
	switch {
	case n < 0:
		return w
	case n < 64:
		return Wide{w.Hi >> n, w.Lo>>n | w.Hi<<(64-n)}
	}
	return Wide{0, w.Hi >> (n - 64)}
}

// Cmp is -1, 0 or 1: w is less than x, equal to it, or greater.
func (w Wide) Cmp(x Wide) int {
	switch {
	case w == x:
		return 0
	case w.Hi < x.Hi, w.Hi == x.Hi && w.Lo < x.Lo:
		return -1
	}
	return 1
}

// Div is the quotient, the remainder and true; zeros and false if d is 0.
func (w Wide) Div(d uint64) (Wide, uint64, bool) {
	if d == 0 {
		return Wide{}, 0, false
	}
	var quotient Wide
	var rest uint64
digits:
	for i := w.Len() - 1; i >= 0; i-- {
		// A divisor of 64 bits lets the doubled rest grow to 65: the one that leaves is kept here.
		above := rest >> 63
		rest = rest<<1 | w.Right(i).Lo&1
		quotient = quotient.Left(1)
		if above == 0 && rest < d {
			continue digits
		}
		// With a bit above, the wrap-round of the subtraction takes just that bit away.
		rest -= d
		quotient.Lo |= 1
	}
	return quotient, rest, true
}

// Len is the number of bits from the highest 1 on; 0 for 0.
func (w Wide) Len() int {
	if w.Hi != 0 {
		return 64 + bits.Len64(w.Hi)
	}
	return bits.Len64(w.Lo)
}

// Text is w in decimal; 0 has its one digit too.
func (w Wide) Text() string {
	var digits [maxDigits]byte
	first := maxDigits
	// Digits come from the lowest one on, so they are laid from the end.
	collect := func(digit uint64) {
		first--
		digits[first] = '0' + byte(digit)
	}
	for {
		quotient, digit, _ := w.Div(10)
		collect(digit)
		if quotient == (Wide{}) {
			return string(digits[first:])
		}
		w = quotient
	}
}
