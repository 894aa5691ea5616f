package fnum_test

import (
	"math"
	"math/big"
	"math/rand"
	"strings"
	"testing"

	"louvre/api"
	"louvre/fnum"
	"louvre/sample"
	"louvre/val"
)

func text(s string) api.Value { return api.Value{Kind: api.Text, Text: s} }

// list reads values with commas between them.
func list(s string) []api.Value {
	var l []api.Value
	if s == "" {
		return nil
	}
	for _, w := range strings.Split(s, ",") {
		l = append(l, sample.Value(w))
	}
	return l
}

// odd are values that no cell has.
var odd = []api.Value{{Kind: 9}, {Num: 1}, val.Fail(api.Denied), {Kind: api.Number, Num: math.MinInt64}, {Kind: api.Text, Text: "\n"}}

// P13.1
func TestCall(t *testing.T) {
	for _, x := range []struct {
		fn         uint8
		args, want string
	}{
		{api.FnAbs, "-1.5", "1.5"}, {api.FnAbs, "1.5", "1.5"}, {api.FnAbs, "0", "0"}, {api.FnAbs, "-922337203685477.5807", "922337203685477.5807"}, {api.FnAbs, "TRUE", "1"}, {api.FnAbs, "blank", "0"}, {api.FnAbs, "\" -2 \"", "2"}, {api.FnAbs, "\"x\"", "#VALUE!"}, {api.FnAbs, "#N/A", "#N/A"}, {api.FnAbs, "\"9999999999999999\"", "#NUM!"},
		{api.FnSign, "-0.0001", "-1"}, {api.FnSign, "0", "0"}, {api.FnSign, "922337203685477.5807", "1"},
		{api.FnInt, "-1.5", "-2"}, {api.FnInt, "1.5", "1"}, {api.FnInt, "-2", "-2"}, {api.FnInt, "-922337203685477.5807", "#NUM!"}, {api.FnTrunc, "-1.5", "-1"}, {api.FnTrunc, "1.9999", "1"},
		{api.FnRound, "2.345,2", "2.35"}, {api.FnRound, "-2.345,2", "-2.35"}, {api.FnRound, "1250,-2", "1300"}, {api.FnRound, "2.5,0", "3"}, {api.FnRound, "1.2345,9999", "1.2345"}, {api.FnRound, "1.25,1.9", "1.3"}, {api.FnRound, "150,-2.9", "200"}, {api.FnRound, "922337203685477.5807,-9999", "0"}, {api.FnRound, "922337203685477.5807,-15", "#NUM!"}, {api.FnRound, "922337203685477.5807,922337203685477.5807", "922337203685477.5807"}, {api.FnRound, "1,\"x\"", "#VALUE!"}, {api.FnRound, "#N/A,\"x\"", "#N/A"}, {api.FnRound, "\"x\",#N/A", "#VALUE!"}, {api.FnRound, "5.5,-0.5", "6"},
		{api.FnMod, "7,3", "1"}, {api.FnMod, "-7,3", "2"}, {api.FnMod, "7,-3", "-2"}, {api.FnMod, "-7,-3", "-1"}, {api.FnMod, "5.5,0", "#DIV/0!"}, {api.FnMod, "5.5,0.4", "0.3"}, {api.FnMod, "0,5", "0"}, {api.FnMod, "6,-3", "0"}, {api.FnMod, "-922337203685477.5807,0.0001", "0"},
		{api.FnPower, "2,10", "1024"}, {api.FnPower, "2,-2", "0.25"}, {api.FnPower, "0,0", "1"}, {api.FnPower, "0,-1", "#DIV/0!"}, {api.FnPower, "2,0.5", "#NUM!"}, {api.FnPower, "10,20", "#NUM!"}, {api.FnPower, "0,-0.5", "#NUM!"}, {api.FnPower, "0,-2000", "#DIV/0!"}, {api.FnPower, "1,1001", "#NUM!"}, {api.FnPower, "0.01,-3", "#NUM!"}, {api.FnPower, "1,922337203685477", "#NUM!"},
		{api.FnSqrt, "2", "1.4142"}, {api.FnSqrt, "-1", "#NUM!"}, {api.FnSqrt, "0", "0"}, {api.FnSqrt, "#CYCLE!", "#CYCLE!"},
	} {
		if v, e := fnum.Call(x.fn, list(x.args)...); v != sample.Value(x.want) || e != api.OK {
			t.Error("Call", x, val.Show(v), e)
		}
	}
	for _, fn := range []uint8{0, api.FnSum, api.FnIf, api.FnDMax, 51, 255} {
		if v, e := fnum.Call(fn); v != (api.Value{}) || e != api.ErrName {
			t.Error("Call", fn, v, e)
		}
	}
	for fn := api.FnAbs; fn <= api.FnSqrt; fn++ {
		want := 1
		if fn == api.FnRound || fn == api.FnMod || fn == api.FnPower {
			want = 2
		}
		for n := range 5 {
			args := make([]api.Value, n)
			if v, e := fnum.Call(fn, args...); n != want && (v != (api.Value{}) || e != api.ErrCount) || n == want && e != api.OK {
				t.Error("Call", fn, n, v, e)
			}
			for i := range args {
				for _, o := range odd {
					args = append(make([]api.Value, i), o)
					args = append(args, make([]api.Value, n-i-1)...)
					args[0], args[i] = val.Fail(api.NA), o
					if v, e := fnum.Call(fn, args...); n == want && (v != (api.Value{}) || e != api.ErrArg) {
						t.Error("Call", fn, args, v, e)
					}
				}
			}
		}
	}
}

// P13.2
func TestBinary(t *testing.T) {
	long := strings.Repeat("x", 200)
	for _, x := range []struct {
		a    string
		op   int64
		b    string
		want string
	}{
		{"1.5", api.Add, "2", "3.5"}, {"TRUE", api.Add, "\"3\"", "4"}, {"\"x\"", api.Add, "#N/A", "#VALUE!"}, {"#N/A", api.Add, "\"x\"", "#N/A"}, {"blank", api.Add, "1", "1"}, {"922337203685477.5807", api.Add, "0.0001", "#NUM!"},
		{"1", api.Sub, "1.5", "-0.5"}, {"-922337203685477.5807", api.Sub, "1", "#NUM!"}, {"1.5", api.Mul, "1.5", "2.25"}, {"0.0001", api.Mul, "0.5", "0.0001"}, {"99999999", api.Mul, "99999999", "#NUM!"},
		{"1", api.Quo, "3", "0.3333"}, {"1", api.Quo, "0", "#DIV/0!"}, {"1", api.Quo, "blank", "#DIV/0!"}, {"922337203685477", api.Quo, "0.1", "#NUM!"}, {"#REF!", api.Quo, "0", "#REF!"}, {"1", api.Quo, "\"\"", "#VALUE!"},
		{"2", api.Pow, "10", "1024"}, {"2", api.Pow, "-2", "0.25"}, {"0", api.Pow, "0", "1"}, {"0", api.Pow, "-1", "#DIV/0!"}, {"2", api.Pow, "0.5", "#NUM!"}, {"10", api.Pow, "20", "#NUM!"}, {"-2", api.Pow, "3", "-8"},
		{"\"a\"", api.Cat, "1.5", "a1.5"}, {"\"\"", api.Cat, "TRUE", "\"TRUE\""}, {"blank", api.Cat, "blank", "\"\""}, {"#N/A", api.Cat, "#REF!", "#N/A"}, {"\"a\"", api.Cat, "#REF!", "#REF!"}, {long, api.Cat, long, "#VALUE!"}, {long, api.Cat, long[:56], long + long[:56]}, {long, api.Cat, long[:57], "#VALUE!"},
		{"1", api.Eq, "1", "TRUE"}, {"1", api.Eq, "\"1\"", "FALSE"}, {"\"a\"", api.Eq, "\"A\"", "TRUE"}, {"blank", api.Eq, "0", "TRUE"}, {"blank", api.Eq, "\"\"", "TRUE"}, {"1", api.Ne, "2", "TRUE"}, {"1", api.Ne, "1", "FALSE"}, {"9", api.Lt, "\"1\"", "TRUE"}, {"\"x\"", api.Lt, "FALSE", "TRUE"}, {"2", api.Lt, "2", "FALSE"}, {"2", api.Le, "2", "TRUE"}, {"3", api.Le, "2", "FALSE"}, {"3", api.Gt, "2", "TRUE"}, {"2", api.Gt, "2", "FALSE"}, {"2", api.Ge, "2", "TRUE"}, {"1", api.Ge, "2", "FALSE"},
		{"#N/A", api.Eq, "#REF!", "#N/A"}, {"1", api.Lt, "#REF!", "#REF!"}, {"#N/A", api.Eq, "#N/A", "#N/A"},
	} {
		if v, e := fnum.Binary(x.op, sample.Value(x.a), sample.Value(x.b)); v != sample.Value(x.want) || e != api.OK {
			t.Error("Binary", x, val.Show(v), e)
		}
	}
	for _, op := range []int64{0, api.Percent, -1, math.MaxInt64, math.MinInt64} {
		if v, e := fnum.Binary(op, sample.Value("1"), sample.Value("1")); v != (api.Value{}) || e != api.ErrArg {
			t.Error("Binary", op, v, e)
		}
	}
	for _, o := range odd {
		for op := api.Add; op <= api.Ge; op++ {
			if v, e := fnum.Binary(op, o, sample.Value("#N/A")); v != (api.Value{}) || e != api.ErrArg {
				t.Error("Binary", op, o, v, e)
			}
			if v, e := fnum.Binary(op, sample.Value("#N/A"), o); v != (api.Value{}) || e != api.ErrArg {
				t.Error("Binary", op, o, v, e)
			}
		}
	}
}

// P13.3
func TestSigns(t *testing.T) {
	for s, want := range map[string][2]string{"50": {"-50", "0.5"}, "0": {"0", "0"}, "-0.005": {"0.005", "-0.0001"}, "TRUE": {"-1", "0.01"}, "blank": {"0", "0"}, "\"7\"": {"-7", "0.07"}, "\"x\"": {"#VALUE!", "#VALUE!"}, "#N/A": {"#N/A", "#N/A"}, "922337203685477.5807": {"-922337203685477.5807", "9223372036854.7758"}} {
		if v := fnum.Neg(sample.Value(s)); v != sample.Value(want[0]) {
			t.Error("Neg", s, val.Show(v))
		}
		if v := fnum.Percent(sample.Value(s)); v != sample.Value(want[1]) {
			t.Error("Percent", s, val.Show(v))
		}
	}
	for _, o := range odd {
		if fnum.Neg(o) != val.Fail(api.Val) || fnum.Percent(o) != val.Fail(api.Val) {
			t.Error("Neg or Percent of", o)
		}
	}
}

// random returns the value of a cell.
func random(r *rand.Rand) api.Value {
	switch r.Intn(8) {
	case 0:
		return api.Value{}
	case 1:
		return val.Truth(r.Intn(2) == 0)
	case 2:
		return text([]string{"", "x", "X", "3", "-0.5", "true"}[r.Intn(6)])
	case 3:
		return val.Fail(int64(1 + r.Intn(6)))
	}
	return val.Make(int64(r.Uint64()) >> r.Intn(64))
}

// P13.4, P13.5
func TestOperators(t *testing.T) {
	r := rand.New(rand.NewSource(1))
	binary := func(op int64, a, b api.Value) api.Value {
		v, e := fnum.Binary(op, a, b)
		if e != api.OK || val.Check(v) != api.OK {
			t.Fatal("Binary", op, a, b, v, e)
		}
		return v
	}
	for range 20000 {
		a, b := random(r), random(r)
		for op := api.Add; op <= api.Ge; op++ {
			v := binary(op, a, b)
			if a.Kind == api.Error && v != a {
				t.Fatal("an error as the first operand:", op, a, b, v)
			}
		}
		if binary(api.Lt, a, b) != binary(api.Gt, b, a) && a.Kind != api.Error && b.Kind != api.Error {
			t.Fatal("a < b and b > a:", a, b)
		}
		if a.Kind != api.Error && b.Kind != api.Error {
			n := binary(api.Lt, a, b).Num + binary(api.Eq, a, b).Num + binary(api.Gt, a, b).Num
			if n != 1 {
				t.Fatal("<, = and >:", a, b, n)
			}
		}
		if a.Kind == api.Number && b.Kind == api.Number {
			if binary(api.Add, a, b) != binary(api.Add, b, a) || binary(api.Mul, a, b) != binary(api.Mul, b, a) || binary(api.Sub, a, b) != fnum.Neg(binary(api.Sub, b, a)) {
				t.Fatal("sums and products:", a, b)
			}
		}
	}
}

// P13.6, P13.7
func TestFunctions(t *testing.T) {
	r := rand.New(rand.NewSource(2))
	call := func(fn uint8, args ...api.Value) api.Value {
		v, e := fnum.Call(fn, args...)
		if e != api.OK || val.Check(v) != api.OK {
			t.Fatal("Call", fn, args, v, e)
		}
		return v
	}
	for range 20000 {
		x, y := int64(r.Uint64())>>(1+r.Intn(63)), int64(r.Uint64())>>(1+r.Intn(63))
		if y != 0 {
			m := call(api.FnMod, val.Make(x), val.Make(y)).Num
			rest := (x - m) % y
			if m != 0 && (m < 0) != (y < 0) || m != 0 && new(big.Int).Abs(big.NewInt(m)).Cmp(new(big.Int).Abs(big.NewInt(y))) >= 0 || rest != 0 {
				t.Fatal("MOD", x, y, m)
			}
		}
		v := val.Make(x)
		if call(api.FnRound, v, val.Make(4_0000)) != v || call(api.FnInt, v).Num > x {
			t.Fatal("ROUND or INT of", x)
		}
		if root := call(api.FnSqrt, v); x >= 0 {
			square := new(big.Int).Mul(big.NewInt(root.Num), big.NewInt(root.Num))
			if square.Cmp(new(big.Int).Mul(big.NewInt(x), big.NewInt(10000))) > 0 {
				t.Fatal("SQRT", x, root)
			}
		}
		a, b := random(r), random(r)
		for fn := api.FnAbs; fn <= api.FnSqrt; fn++ {
			args := []api.Value{a, b}[:1]
			if fn == api.FnRound || fn == api.FnMod || fn == api.FnPower {
				args = []api.Value{a, b}
			}
			if v := call(fn, args...); a.Kind == api.Error && v != a {
				t.Fatal("an error as the first argument:", fn, args, v)
			}
		}
	}
}
