package flogic_test

import (
	"math/rand"
	"slices"
	"testing"

	"louvre/api"
	"louvre/flogic"
	"louvre/sample"
	"louvre/val"
)

func text(s string) api.Value { return api.Value{Kind: api.Text, Text: s} }

// P15.1
func TestCall(t *testing.T) {
	for _, x := range []struct {
		fn         uint8
		args, want string
	}{
		{api.FnIf, "TRUE 1 2", "1"}, {api.FnIf, "0 1", "FALSE"}, {api.FnIf, "0 1 2", "2"}, {api.FnIf, "TRUE 1 #N/A", "#N/A"}, {api.FnIf, "FALSE #REF! #N/A", "#REF!"}, {api.FnIf, "x 1 2", "#VALUE!"}, {api.FnIf, "x #N/A 2", "#VALUE!"}, {api.FnIf, "#N/A #REF! 2", "#N/A"}, {api.FnIf, "blank 1 x", "x"}, {api.FnIf, "0.5 blank 1", "blank"}, {api.FnIf, "'TRUE' 1 2", "1"}, {api.FnIf, "'false' 1 2", "2"},
		{api.FnAnd, "TRUE 1 'true'", "TRUE"}, {api.FnAnd, "TRUE 0", "FALSE"}, {api.FnAnd, "FALSE #N/A", "#N/A"}, {api.FnAnd, "FALSE x", "#VALUE!"}, {api.FnAnd, "blank", "FALSE"}, {api.FnAnd, "x #N/A", "#VALUE!"}, {api.FnAnd, "TRUE", "TRUE"},
		{api.FnOr, "0 FALSE", "FALSE"}, {api.FnOr, "0 2", "TRUE"}, {api.FnOr, "TRUE #N/A", "#N/A"}, {api.FnOr, "TRUE 1 1", "TRUE"}, {api.FnOr, "#REF! x", "#REF!"},
		{api.FnXor, "1 1 1", "TRUE"}, {api.FnXor, "1 1", "FALSE"}, {api.FnXor, "0", "FALSE"}, {api.FnXor, "1 0 0", "TRUE"}, {api.FnXor, "1 x", "#VALUE!"},
		{api.FnNot, "TRUE", "FALSE"}, {api.FnNot, "0", "TRUE"}, {api.FnNot, "blank", "TRUE"}, {api.FnNot, "x", "#VALUE!"}, {api.FnNot, "#CYCLE!", "#CYCLE!"},
		{api.FnIfError, "#DIV/0! 5", "5"}, {api.FnIfError, "5 #N/A", "5"}, {api.FnIfError, "#DIV/0! #N/A", "#N/A"}, {api.FnIfError, "blank 5", "blank"}, {api.FnIfError, "#CYCLE! 5", "5"}, {api.FnIfError, "#N/A blank", "blank"}, {api.FnIfError, "x 5", "x"},
		{api.FnIsError, "#N/A", "TRUE"}, {api.FnIsError, "#CYCLE!", "TRUE"}, {api.FnIsError, "1", "FALSE"}, {api.FnIsError, "blank", "FALSE"}, {api.FnIsError, "x", "FALSE"},
		{api.FnIsBlank, "#N/A", "#N/A"}, {api.FnIsBlank, "blank", "TRUE"}, {api.FnIsBlank, "0", "FALSE"}, {api.FnIsBlank, "''", "FALSE"}, {api.FnIsNumber, "0", "TRUE"}, {api.FnIsNumber, "TRUE", "FALSE"}, {api.FnIsNumber, "blank", "FALSE"}, {api.FnIsNumber, "#REF!", "#REF!"}, {api.FnIsText, "x", "TRUE"}, {api.FnIsText, "''", "TRUE"}, {api.FnIsText, "1", "FALSE"}, {api.FnIsText, "blank", "FALSE"}, {api.FnIsText, "#NUM!", "#NUM!"},
		{api.FnChoose, "2.9 a b", "b"}, {api.FnChoose, "3 a b", "#VALUE!"}, {api.FnChoose, "1 a #N/A", "#N/A"}, {api.FnChoose, "0.9 a b", "#VALUE!"}, {api.FnChoose, "-1 a b", "#VALUE!"}, {api.FnChoose, "x a #N/A", "#VALUE!"}, {api.FnChoose, "9 #REF! #N/A", "#REF!"}, {api.FnChoose, "TRUE a b", "a"}, {api.FnChoose, "1 blank", "blank"}, {api.FnChoose, "922337203685477 a", "#VALUE!"}, {api.FnChoose, "15 1 2 3 4 5 6 7 8 9 10 11 12 13 14 15", "15"}, {api.FnChoose, "blank a", "#VALUE!"},
	} {
		if v, e := flogic.Call(x.fn, sample.Values(x.args)...); v != sample.Values(x.want)[0] || e != api.OK {
			t.Error("Call", x, val.Show(v), e)
		}
	}
}

// P15.1: errors.
func TestFaults(t *testing.T) {
	for _, fn := range []uint8{0, api.FnSmall, api.FnLen, api.FnIndex, 51, 255} {
		if v, e := flogic.Call(fn); v != (api.Value{}) || e != api.ErrName {
			t.Error("Call", fn, v, e)
		}
	}
	counts := map[uint8][2]int{api.FnIf: {2, 3}, api.FnAnd: {1, 16}, api.FnOr: {1, 16}, api.FnXor: {1, 16}, api.FnNot: {1, 1}, api.FnIfError: {2, 2}, api.FnIsError: {1, 1}, api.FnIsBlank: {1, 1}, api.FnIsNumber: {1, 1}, api.FnIsText: {1, 1}, api.FnChoose: {2, 16}}
	for fn, c := range counts {
		for n := range 20 {
			v, e := flogic.Call(fn, make([]api.Value, n)...)
			if in := c[0] <= n && n <= c[1]; in && e != api.OK || !in && (v != (api.Value{}) || e != api.ErrCount) {
				t.Error("Call", fn, n, v, e)
			}
			for i := range n {
				for _, o := range []api.Value{{Kind: 9}, {Num: 1}, val.Fail(api.Denied), text("\n")} {
					args := make([]api.Value, n)
					args[0] = val.Fail(api.NA)
					args[i] = o
					if v, e := flogic.Call(fn, args...); c[0] <= n && n <= c[1] && (v != (api.Value{}) || e != api.ErrArg) {
						t.Error("Call", fn, args, v, e)
					}
				}
			}
		}
	}
}

// P15.2 to P15.5
func TestLaws(t *testing.T) {
	r := rand.New(rand.NewSource(1))
	all := sample.Values("blank TRUE FALSE 0 1 2.5 -1 x 'true' '' '3' #N/A #DIV/0! #CYCLE!")
	pick := func() api.Value { return all[r.Intn(len(all))] }
	call := func(fn uint8, args ...api.Value) api.Value {
		v, e := flogic.Call(fn, args...)
		if e != api.OK || val.Check(v) != api.OK {
			t.Fatal("Call", fn, args, v, e)
		}
		return v
	}
	failed := func(l ...api.Value) bool {
		return slices.ContainsFunc(l, func(v api.Value) bool { return v.Kind == api.Error })
	}
	for range 20000 {
		a, b, c := pick(), pick(), pick()
		for _, v := range []api.Value{call(api.FnIf, c, a, b), call(api.FnIf, c, a), call(api.FnIfError, a, b), call(api.FnChoose, c, a, b)} {
			if v != a && v != b && v.Kind != api.Error && v != val.Truth(false) {
				t.Fatal("a value that is none of the arguments:", a, b, c, v)
			}
		}
		if !failed(a, b, c) && call(api.FnIf, call(api.FnNot, c), a, b) != call(api.FnIf, c, b, a) && call(api.FnNot, c).Kind != api.Error {
			t.Fatal("IF(NOT):", a, b, c)
		}
		truth := []api.Value{val.ToBool(a), val.ToBool(b), val.ToBool(c)}
		if !failed(truth...) {
			if call(api.FnNot, call(api.FnAnd, a, b, c)) != call(api.FnOr, call(api.FnNot, a), call(api.FnNot, b), call(api.FnNot, c)) {
				t.Fatal("NOT(AND):", a, b, c)
			}
			if (call(api.FnXor, a, b) == val.Truth(true)) != (truth[0] != truth[1]) {
				t.Fatal("XOR:", a, b)
			}
			for _, fn := range []uint8{api.FnAnd, api.FnOr, api.FnXor} {
				if call(fn, a, b, c) != call(fn, c, a, b) || call(fn, a, b, c) != call(fn, b, a, c) {
					t.Fatal("the order matters:", fn, a, b, c)
				}
			}
		}
		v, w := call(api.FnIfError, a, b), call(api.FnIf, call(api.FnIsError, a), b, a)
		if failed(a) == failed(b) {
			if v != w {
				t.Fatal("IFERROR:", a, b, v, w)
			}
		} else if failed(v) || !failed(w) {
			t.Fatal("IFERROR with one error:", a, b, v, w)
		}
	}
}
