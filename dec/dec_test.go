package dec_test

import (
	"math"
	"math/big"
	"math/rand"
	"testing"

	"louvre/dec"
)

const (
	least    = math.MinInt64
	greatest = math.MaxInt64
)

// edges are numbers at which rounding or overflow changes something.
var edges = []int64{least, least + 1, least + 9999, -922337203685477_0000, -5_0000, -1_0001, -1_0000, -9999, -5000, -4999, -2, -1, 0, 1, 2, 4999, 5000, 5001, 9999, 1_0000, 1_0001, 2_5000, 100_0000, 3037000499, 3037000500, 4_611686018427387904, 5_000000000000000000, 922337203685477_0000, greatest - 1, greatest}

// pairs calls f for pairs of numbers: all pairs of edges, and random ones of all sizes.
func pairs(f func(a, b int64)) {
	for _, a := range edges {
		for _, b := range edges {
			f(a, b)
		}
	}
	r := rand.New(rand.NewSource(1))
	for range 20000 {
		f(int64(r.Uint64())>>r.Intn(64), int64(r.Uint64())>>r.Intn(64))
	}
}

// rounded returns n / d, rounded half away from zero.
func rounded(n, d *big.Int) *big.Int {
	q := new(big.Int).Abs(n)
	q.Mul(q, big.NewInt(2)).Add(q, new(big.Int).Abs(d))
	q.Quo(q, new(big.Int).Mul(big.NewInt(2), new(big.Int).Abs(d)))
	if n.Sign()*d.Sign() < 0 {
		q.Neg(q)
	}
	return q
}

// want returns what a function returns whose exact result is x.
func want(x *big.Int) (int64, bool) {
	if !x.IsInt64() || x.Int64() == least {
		return 0, false
	}
	return x.Int64(), true
}

func check(t *testing.T, name string, v int64, ok bool, x *big.Int) {
	t.Helper()
	if w, in := want(x); v != w || ok != in {
		t.Fatalf("%s: %d, %v; want %d, %v", name, v, ok, w, in)
	}
}

func number(x int64) *big.Int { return big.NewInt(x) }

// P1.1
func TestSums(t *testing.T) {
	pairs(func(a, b int64) {
		v, ok := dec.Add(a, b)
		check(t, "Add", v, ok, new(big.Int).Add(number(a), number(b)))
		v, ok = dec.Sub(a, b)
		check(t, "Sub", v, ok, new(big.Int).Sub(number(a), number(b)))
		v, ok = dec.Neg(a)
		check(t, "Neg", v, ok, new(big.Int).Neg(number(a)))
	})
}

// P1.2
func TestProducts(t *testing.T) {
	pairs(func(a, b int64) {
		v, ok := dec.Mul(a, b)
		check(t, "Mul", v, ok, rounded(new(big.Int).Mul(number(a), number(b)), number(10000)))
		v, ok = dec.Quo(a, b)
		if b == 0 {
			if v != 0 || ok {
				t.Fatal("Quo by 0:", v, ok)
			}
			return
		}
		check(t, "Quo", v, ok, rounded(new(big.Int).Mul(number(a), number(10000)), number(b)))
	})
}

// P1.3, P1.10
func TestRounding(t *testing.T) {
	pairs(func(a, _ int64) {
		for places := -25; places < 10; places++ {
			v, ok := dec.Round(a, places)
			if places >= 4 {
				check(t, "Round", v, ok, number(a))
				continue
			}
			step := new(big.Int).Exp(number(10), number(int64(4-places)), nil)
			check(t, "Round", v, ok, new(big.Int).Mul(rounded(number(a), step), step))
			if again, in := dec.Round(v, places); ok && (again != v || !in) {
				t.Fatal("Round is not idempotent:", a, places, v, again)
			}
		}
		quotient, rest := new(big.Int).QuoRem(number(a), number(10000), new(big.Int))
		quotient.Mul(quotient, number(10000))
		check(t, "Trunc", dec.Trunc(a), true, quotient)
		if rest.Sign() < 0 {
			quotient.Sub(quotient, number(10000))
		}
		v, ok := dec.Floor(a)
		check(t, "Floor", v, ok, quotient)
		if again, in := dec.Floor(v); ok && (again != v || !in) || dec.Trunc(dec.Trunc(a)) != dec.Trunc(a) {
			t.Fatal("Floor or Trunc is not idempotent:", a)
		}
	})
	if v, ok := dec.Round(1_2345, math.MaxInt); v != 1_2345 || !ok {
		t.Error("Round to very many places:", v, ok)
	}
	if v, ok := dec.Round(1_2345, math.MinInt); v != 0 || !ok {
		t.Error("Round to very few places:", v, ok)
	}
}

// P1.4, P1.11
func TestSqrt(t *testing.T) {
	pairs(func(a, _ int64) {
		v, ok := dec.Sqrt(a)
		if a < 0 {
			if v != 0 || ok {
				t.Fatal("Sqrt of", a, "is", v, ok)
			}
			return
		}
		check(t, "Sqrt", v, ok, new(big.Int).Sqrt(new(big.Int).Mul(number(a), number(10000))))
	})
}

// P1.4
func TestPower(t *testing.T) {
	power := func(a int64, n int) (int64, bool) {
		p, ok := int64(1_0000), true
		for range n {
			if p, ok = dec.Mul(p, a); !ok {
				return 0, false
			}
		}
		return p, true
	}
	for _, a := range append(edges, 9999, 10001, 1_5000, -1_5000, 10_0000, -10_0000, 100) {
		for _, n := range []int{0, 1, 2, 3, 7, 15, 50, 999, 1000} {
			p, in := power(a, n)
			if v, ok := dec.Power(a, n); v != p || ok != in {
				t.Error("Power", a, n, v, ok, "want", p, in)
			}
			if in {
				p, in = dec.Quo(1_0000, p)
			}
			if v, ok := dec.Power(a, -n); n > 0 && (v != p || ok != in) {
				t.Error("Power", a, -n, v, ok, "want", p, in)
			}
		}
		for _, n := range []int{1001, -1001, math.MaxInt, math.MinInt} {
			if v, ok := dec.Power(a, n); v != 0 || ok {
				t.Error("Power", a, n, v, ok)
			}
		}
	}
}

// P1.5, P1.10
func TestMany(t *testing.T) {
	r := rand.New(rand.NewSource(2))
	for range 5000 {
		l := make([]int64, r.Intn(6))
		sum, low, high := new(big.Int), int64(greatest), int64(least)
		for i := range l {
			l[i] = edges[r.Intn(len(edges))]
			if r.Intn(2) == 0 {
				l[i] = int64(r.Uint64()) >> r.Intn(64)
			}
			sum.Add(sum, number(l[i]))
			low, high = min(low, l[i]), max(high, l[i])
		}
		v, ok := dec.Sum(l...)
		check(t, "Sum", v, ok, sum)
		m, in := dec.Mean(l...)
		if len(l) == 0 {
			if m != 0 || in {
				t.Fatal("Mean of nothing:", m, in)
			}
			continue
		}
		check(t, "Mean", m, in, rounded(sum, number(int64(len(l)))))
		if in && (m < low || m > high) {
			t.Fatal("Mean is not between", low, "and", high)
		}
		r.Shuffle(len(l), func(i, k int) { l[i], l[k] = l[k], l[i] })
		if again, _ := dec.Sum(l...); again != v {
			t.Fatal("Sum depends on the order")
		}
		if again, _ := dec.Mean(l...); again != m {
			t.Fatal("Mean depends on the order")
		}
	}
	all := make([]int64, 1000)
	for i := range all {
		all[i] = greatest
	}
	if m, ok := dec.Mean(all...); m != greatest || !ok {
		t.Error("Mean of the greatest numbers:", m, ok)
	}
	all = append(all, all...)
	for i := range 1000 {
		all[i] = -greatest
	}
	if s, ok := dec.Sum(all...); s != 0 || !ok {
		t.Error("Sum of opposite numbers:", s, ok)
	}
}

// P1.9
func TestLaws(t *testing.T) {
	pairs(func(a, b int64) {
		s, ok := dec.Add(a, b)
		if other, in := dec.Add(b, a); s != other || ok != in {
			t.Fatal("Add depends on the order:", a, b)
		}
		if back, _ := dec.Sub(s, b); ok && a != least && back != a {
			t.Fatal("a + b - b:", a, b, back)
		}
		p, ok := dec.Mul(a, b)
		if other, in := dec.Mul(b, a); p != other || ok != in {
			t.Fatal("Mul depends on the order:", a, b)
		}
		q, in := dec.Quo(p, b)
		if !ok || !in {
			return
		}
		// |q - a| <= 0.00005/|b| + 0.00005, in units of 0.0001 and multiplied by 2|b|.
		size := new(big.Int).Abs(number(b))
		distance := new(big.Int).Sub(number(q), number(a))
		distance.Abs(distance).Mul(distance, size).Mul(distance, number(2))
		if distance.Cmp(size.Add(size, number(10000))) > 0 {
			t.Fatal("Quo(Mul(a, b), b) is far from a:", a, b, q)
		}
	})
}
