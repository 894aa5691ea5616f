// Package dec calculates with decimal numbers: an int64 that is the number times api.Unit (layer 1, doc/01-dec.md).
package dec

import (
	"math"
	"math/bits"

	"louvre/api"
)

const (
	decimals = 4    // decimal places of a number
	maxPower = 1000 // the greatest exponent, and the least one without its sign
)

// Add returns a + b; false: it is out of range.
func Add(a, b int64) (int64, bool) {
	s := a + b
	overflow := (a^s)&(b^s) < 0
	return inRange(s, !overflow)
}

// Sub returns a - b.
func Sub(a, b int64) (int64, bool) {
	d := a - b
	overflow := (a^b)&(a^d) < 0
	return inRange(d, !overflow)
}

// Neg returns -a.
func Neg(a int64) (int64, bool) {
	return Sub(0, a)
}

// Mul returns a * b, rounded.
func Mul(a, b int64) (int64, bool) {
	hi, lo := bits.Mul64(size(a), size(b))
	return ratio(hi, lo, api.Unit, (a < 0) != (b < 0))
}

// Quo returns a / b, rounded; false also if b is 0.
func Quo(a, b int64) (int64, bool) {
	if b == 0 {
		return 0, false
	}
	hi, lo := bits.Mul64(size(a), api.Unit)
	return ratio(hi, lo, size(b), (a < 0) != (b < 0))
}

// Round returns a, rounded to so many places.
func Round(a int64, places int) (int64, bool) {
	if places >= decimals {
		return inRange(a, true)
	}
	// 10^19 is the greatest power of ten that a uint64 holds. Half of the next one is greater than any int64, so everything is rounded to 0.
	if places < decimals-19 {
		return 0, true
	}
	step := uint64(1)
	for range decimals - places {
		step *= 10
	}
	m := (size(a) + step/2) / step * step
	return signed(m, a < 0)
}

// Trunc returns a without its places.
func Trunc(a int64) int64 {
	return a / api.Unit * api.Unit
}

// Floor returns the greatest whole number that is at most a.
func Floor(a int64) (int64, bool) {
	t := Trunc(a)
	if t > a {
		return Sub(t, api.Unit)
	}
	return t, true
}

// Sqrt returns the square root of a, rounded down.
func Sqrt(a int64) (int64, bool) {
	if a < 0 {
		return 0, false
	}
	hi, lo := bits.Mul64(uint64(a), api.Unit)
	// The root is less than 2^39, as a * Unit is less than 2^77.
	root := uint64(0)
	for i := range 39 {
		next := root | 1<<(38-i)
		if h, l := bits.Mul64(next, next); h < hi || h == hi && l <= lo {
			root = next
		}
	}
	return int64(root), true
}

// Power returns a to the power of n.
func Power(a int64, n int) (int64, bool) {
	if n < -maxPower || n > maxPower {
		return 0, false
	}
	if n < 0 {
		p, ok := Power(a, -n)
		if !ok {
			return 0, false
		}
		return Quo(api.Unit, p)
	}
	p := int64(api.Unit)
	for range n {
		next, ok := Mul(p, a)
		if !ok {
			return 0, false
		}
		p = next
	}
	return p, true
}

// Sum returns the exact sum; false: it is out of range.
func Sum(l ...int64) (int64, bool) {
	hi, lo, negative := total(l...)
	if hi != 0 {
		return 0, false
	}
	return signed(lo, negative)
}

// Mean returns the exact sum divided by the number of elements, rounded; false: there are none.
func Mean(l ...int64) (int64, bool) {
	if len(l) == 0 {
		return 0, false
	}
	hi, lo, negative := total(l...)
	return ratio(hi, lo, uint64(len(l)), negative)
}

// total returns the sum of 128 bits without its sign, and whether it is negative.
func total(l ...int64) (hi, lo uint64, negative bool) {
	for _, x := range l {
		var carry uint64
		lo, carry = bits.Add64(lo, uint64(x), 0)
		hi, _ = bits.Add64(hi, uint64(x>>63), carry)
	}
	if int64(hi) >= 0 {
		return hi, lo, false
	}
	var borrow uint64
	lo, borrow = bits.Sub64(0, lo, 0)
	hi, _ = bits.Sub64(0, hi, borrow)
	return hi, lo, true
}

// ratio returns hi * 2^64 + lo divided by d, rounded half away from zero, with a sign.
func ratio(hi, lo, d uint64, negative bool) (int64, bool) {
	var carry uint64
	lo, carry = bits.Add64(lo, d/2, 0)
	hi += carry
	if hi >= d {
		return 0, false
	}
	q, _ := bits.Div64(hi, lo, d)
	return signed(q, negative)
}

// size returns a without its sign.
func size(a int64) uint64 {
	if a < 0 {
		return -uint64(a)
	}
	return uint64(a)
}

// signed gives m a sign; false: the result is out of range.
func signed(m uint64, negative bool) (int64, bool) {
	if m > math.MaxInt64 {
		return 0, false
	}
	if negative {
		return -int64(m), true
	}
	return int64(m), true
}

// inRange returns a and true if a is in range and was calculated without overflow.
func inRange(a int64, exact bool) (int64, bool) {
	if !exact || a == math.MinInt64 {
		return 0, false
	}
	return a, true
}
