package ftext_test

import (
	"math"
	"math/rand"
	"strings"
	"testing"

	"louvre/api"
	"louvre/dec"
	"louvre/ftext"
	"louvre/val"
)

func text(s string) api.Value { return api.Value{Kind: api.Text, Text: s} }

func whole(n int) api.Value { return val.Make(int64(n) * api.Unit) }

// list makes values: ints and floats are numbers, strings texts or the names of errors, nil a blank.
func list(l ...any) []api.Value {
	var args []api.Value
	for _, x := range l {
		switch y := x.(type) {
		case int:
			args = append(args, whole(y))
		case float64:
			args = append(args, val.Make(int64(math.Round(y*10000))))
		case bool:
			args = append(args, val.Truth(y))
		case nil:
			args = append(args, api.Value{})
		case string:
			if code, e := val.Code(y); e == api.OK {
				args = append(args, val.Fail(code))
			} else {
				args = append(args, text(y))
			}
		}
	}
	return args
}

// P14.1
func TestCall(t *testing.T) {
	long := strings.Repeat("x", 256)
	for _, x := range []struct {
		fn   uint8
		args []api.Value
		want any
	}{
		{api.FnLen, list("abc"), 3}, {api.FnLen, list(""), 0}, {api.FnLen, list(12.5), 4}, {api.FnLen, list(nil), 0}, {api.FnLen, list(true), 4}, {api.FnLen, list(long), 256}, {api.FnLen, list("#N/A"), "#N/A"},
		{api.FnLeft, list("abc", 2), "ab"}, {api.FnLeft, list("abc"), "a"}, {api.FnLeft, list(""), ""}, {api.FnLeft, list("abc", 9), "abc"}, {api.FnLeft, list("abc", 0), ""}, {api.FnLeft, list("abc", -1), "#VALUE!"}, {api.FnLeft, list("abc", -0.9), ""}, {api.FnLeft, list("abc", 1.9), "a"}, {api.FnLeft, list("abc", "2"), "ab"}, {api.FnLeft, list("abc", "x"), "#VALUE!"}, {api.FnLeft, list(125, 2), "12"}, {api.FnLeft, list("abc", 922337203685477.0), "abc"}, {api.FnLeft, list("abc", nil), ""},
		{api.FnRight, list("abc", 9), "abc"}, {api.FnRight, list("abc"), "c"}, {api.FnRight, list("abc", 2), "bc"}, {api.FnRight, list("abc", 0), ""}, {api.FnRight, list("abc", -1), "#VALUE!"}, {api.FnRight, list("", 5), ""}, {api.FnRight, list("abc", 922337203685477.0), "abc"},
		{api.FnMid, list("abcd", 2, 2), "bc"}, {api.FnMid, list("abcd", 9, 1), ""}, {api.FnMid, list("abcd", 5, 1), ""}, {api.FnMid, list("abcd", 0, 1), "#VALUE!"}, {api.FnMid, list("abcd", 1, -1), "#VALUE!"}, {api.FnMid, list("abcd", 3, 9), "cd"}, {api.FnMid, list("abcd", 922337203685477.0, 922337203685477.0), ""}, {api.FnMid, list("abc", "x", "#N/A"), "#VALUE!"}, {api.FnMid, list("abc", "#N/A", "x"), "#N/A"}, {api.FnMid, list("abcd", 4, 0), ""}, {api.FnMid, list("abcd", 0.5, 1), "#VALUE!"},
		{api.FnUpper, list("aB1"), "AB1"}, {api.FnLower, list("aB1"), "ab1"}, {api.FnTrim, list("  a   b "), "a b"}, {api.FnUpper, list(true), "TRUE"}, {api.FnLower, list(true), "true"}, {api.FnTrim, list("#REF!"), "#REF!"},
		{api.FnConcat, list("a", 1, true), "a1TRUE"}, {api.FnConcat, list(nil), ""}, {api.FnConcat, list(long, ""), long}, {api.FnConcat, list(long, "y"), "#VALUE!"}, {api.FnConcat, list("a", "#N/A", "#REF!"), "#N/A"}, {api.FnConcat, list(long, long, "#N/A"), "#N/A"}, {api.FnConcat, list(1, 2, 3, 4, 5, 6, 7, 8, 9, 10, 11, 12, 13, 14, 15, 16), "12345678910111213141516"},
		{api.FnRept, list("ab", 2.9), "abab"}, {api.FnRept, list("ab", 200), "#VALUE!"}, {api.FnRept, list("ab", 128), strings.Repeat("ab", 128)}, {api.FnRept, list("ab", 129), "#VALUE!"}, {api.FnRept, list("ab", 0), ""}, {api.FnRept, list("ab", -1), "#VALUE!"}, {api.FnRept, list("", 922337203685477.0), ""}, {api.FnRept, list("", -1), "#VALUE!"}, {api.FnRept, list("a", 922337203685477.0), "#VALUE!"}, {api.FnRept, list("a", 256), strings.Repeat("a", 256)},
		{api.FnExact, list("a", "A"), false}, {api.FnExact, list("a", "a"), true}, {api.FnExact, list(1, "1"), true}, {api.FnExact, list(nil, ""), true}, {api.FnExact, list("#N/A", "#N/A"), "#N/A"},
		{api.FnFind, list("b", "abcb"), 2}, {api.FnFind, list("b", "abcb", 3), 4}, {api.FnFind, list("b", "abcb", 2), 2}, {api.FnFind, list("B", "abc"), "#VALUE!"}, {api.FnFind, list("", "ab", 3), 3}, {api.FnFind, list("", "ab"), 1}, {api.FnFind, list("", "ab", 4), "#VALUE!"}, {api.FnFind, list("a", "ab", 0), "#VALUE!"}, {api.FnFind, list("a", "ab", -5), "#VALUE!"}, {api.FnFind, list("a", "ab", 922337203685477.0), "#VALUE!"}, {api.FnFind, list("", "", 1), 1}, {api.FnFind, list(2, 123), 2}, {api.FnFind, list("a", "a", 1.9), 1},
		{api.FnValue, list("1.5"), 1.5}, {api.FnValue, list("x"), "#VALUE!"}, {api.FnValue, list(" 2 "), 2}, {api.FnValue, list(true), "#VALUE!"}, {api.FnValue, list(nil), "#VALUE!"}, {api.FnValue, list(7), 7}, {api.FnValue, list("9999999999999999"), "#NUM!"}, {api.FnValue, list("#DIV/0!"), "#DIV/0!"},
	} {
		if v, e := ftext.Call(x.fn, x.args...); v != list(x.want)[0] || e != api.OK {
			t.Error("Call", x.fn, x.args, v, e, "want", x.want)
		}
	}
}

// P14.1: errors.
func TestFaults(t *testing.T) {
	for _, fn := range []uint8{0, api.FnChoose, api.FnIndex, api.FnAbs, 51, 255} {
		if v, e := ftext.Call(fn); v != (api.Value{}) || e != api.ErrName {
			t.Error("Call", fn, v, e)
		}
	}
	counts := map[uint8][2]int{api.FnLen: {1, 1}, api.FnLeft: {1, 2}, api.FnRight: {1, 2}, api.FnMid: {3, 3}, api.FnUpper: {1, 1}, api.FnLower: {1, 1}, api.FnTrim: {1, 1}, api.FnConcat: {1, 16}, api.FnRept: {2, 2}, api.FnExact: {2, 2}, api.FnFind: {2, 3}, api.FnValue: {1, 1}}
	for fn, c := range counts {
		for n := range 20 {
			args := make([]api.Value, n)
			v, e := ftext.Call(fn, args...)
			if in := c[0] <= n && n <= c[1]; in && e != api.OK || !in && (v != (api.Value{}) || e != api.ErrCount) {
				t.Error("Call", fn, n, v, e)
			}
			if e != api.OK {
				continue
			}
			for i := range args {
				for _, o := range []api.Value{{Kind: 9}, {Num: 1}, val.Fail(api.Denied), text("\n"), text(strings.Repeat("x", 257))} {
					args := make([]api.Value, n)
					args[0], args[i] = val.Fail(api.NA), o
					if v, e := ftext.Call(fn, args...); v != (api.Value{}) || e != api.ErrArg {
						t.Error("Call", fn, args, v, e)
					}
				}
			}
		}
	}
}

// P14.2 to P14.5
func TestLaws(t *testing.T) {
	r := rand.New(rand.NewSource(1))
	call := func(fn uint8, args ...api.Value) api.Value {
		v, e := ftext.Call(fn, args...)
		if e != api.OK || val.Check(v) != api.OK {
			t.Fatal("Call", fn, args, v, e)
		}
		return v
	}
	number := func(v api.Value) int { return int(v.Num / api.Unit) }
	random := func() api.Value {
		l := make([]byte, r.Intn(7))
		for i := range l {
			l[i] = "aAb \""[r.Intn(5)]
		}
		return text(string(l))
	}
	for range 20000 {
		s, u, w := random(), random(), random()
		m, n, size := r.Intn(9), r.Intn(9), call(api.FnLen, s)
		if call(api.FnConcat, call(api.FnLeft, s, whole(n)), call(api.FnMid, s, whole(n+1), size)) != s {
			t.Fatal("LEFT and the rest:", s, n)
		}
		if end := call(api.FnRight, s, whole(n)).Text; !strings.HasSuffix(s.Text, end) || len(end) != min(n, len(s.Text)) {
			t.Fatal("RIGHT", s, n)
		}
		if call(api.FnLeft, call(api.FnLeft, s, whole(m)), whole(n)) != call(api.FnLeft, s, whole(min(m, n))) {
			t.Fatal("LEFT of LEFT:", s, m, n)
		}
		if call(api.FnConcat, call(api.FnConcat, s, u), w) != call(api.FnConcat, s, call(api.FnConcat, u, w)) {
			t.Fatal("CONCAT:", s, u, w)
		}
		if number(call(api.FnLen, call(api.FnConcat, s, u))) != number(size)+number(call(api.FnLen, u)) || number(call(api.FnLen, call(api.FnRept, s, whole(n)))) != n*number(size) {
			t.Fatal("LEN:", s, u, n)
		}
		if call(api.FnLen, call(api.FnUpper, s)) != size || call(api.FnLen, call(api.FnLower, s)) != size {
			t.Fatal("LEN of UPPER, LOWER:", s)
		}
		from := 1 + r.Intn(3)
		found := call(api.FnFind, s, u, whole(from))
		last := len(u.Text)
		if found.Kind == api.Number {
			last = number(found) - 1
			if call(api.FnMid, u, found, size) != s {
				t.Fatal("FIND:", s, u, from, found)
			}
		}
		for k := from; k <= last; k++ {
			if s.Text != "" && call(api.FnMid, u, whole(k), size) == s {
				t.Fatal("FIND is not the first:", s, u, from, found, k)
			}
		}
	}
	for _, v := range []api.Value{whole(3), val.Make(-5), val.Truth(true), {}, text("7"), text("x")} {
		for n := int64(-2); n < 5; n++ {
			call(api.FnRept, v, val.Make(n*5000))
		}
		if got, want := call(api.FnValue, v), val.ToNumber(val.ToText(v)); got != want {
			t.Error("VALUE", v, got, dec.Format(want.Num))
		}
	}
}
