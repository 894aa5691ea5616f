package val_test

import (
	"math"
	"strings"
	"testing"

	"louvre/api"
	"louvre/glyph"
	"louvre/val"
)

func num(n int64) api.Value   { return api.Value{Kind: api.Number, Num: n} }
func text(s string) api.Value { return api.Value{Kind: api.Text, Text: s} }
func fail(n int64) api.Value  { return api.Value{Kind: api.Error, Num: n} }

var (
	blank = api.Value{}
	yes   = api.Value{Kind: api.Bool, Num: 1}
	no    = api.Value{Kind: api.Bool}
)

// cells are values of cells.
func cells() []api.Value {
	l := []api.Value{blank, yes, no}
	for _, n := range []int64{0, 1, -1, 1_0000, -1_0000, 1_5000, 10_0000, math.MaxInt64, -math.MaxInt64} {
		l = append(l, num(n))
	}
	for _, s := range []string{"", " ", "a", "A", "b", "AB", "true", "False", " TRUE", "1.5", " 1.50 ", "- 1", "1.", "9999999999999999", "-922337203685477.5808", "#N/A", strings.Repeat("x", 256)} {
		l = append(l, text(s))
	}
	for code := api.Div; code <= api.Cycle; code++ {
		l = append(l, fail(code))
	}
	return l
}

// odd are values that no cell has.
func odd() []api.Value {
	return []api.Value{
		num(math.MinInt64), {Kind: api.Bool, Num: 2}, {Kind: api.Bool, Num: -1}, {Kind: api.Text, Num: 1}, fail(7), fail(0), fail(8), fail(-1), {Kind: 5}, {Kind: 255},
		{Num: 1}, {Text: "x"}, {Kind: api.Number, Text: "1"}, {Kind: api.Bool, Text: "x"}, {Kind: api.Error, Num: 1, Text: "x"}, text("\n"), text(strings.Repeat("x", 257)), {Kind: 5, Num: 1},
	}
}

// P5.1
func TestCheck(t *testing.T) {
	for _, v := range cells() {
		if e := val.Check(v); e != api.OK {
			t.Error("Check", v, e)
		}
	}
	for _, v := range odd() {
		if e := val.Check(v); e != api.ErrArg {
			t.Error("Check", v, e)
		}
	}
}

// P5.2
func TestMake(t *testing.T) {
	for _, n := range []int64{0, 7, math.MaxInt64, math.MinInt64 + 1} {
		if v := val.Make(n); v != num(n) {
			t.Error("Make", n, v)
		}
	}
	if v := val.Make(math.MinInt64); v != fail(api.Num) {
		t.Error("Make of -2^63:", v)
	}
	if val.Truth(true) != yes || val.Truth(false) != no {
		t.Error("Truth")
	}
	for code, want := range map[int64]int64{1: 1, 2: 2, 3: 3, 4: 4, 5: 5, 6: 6, 7: 7, 0: 2, 8: 2, -1: 2, math.MaxInt64: 2, math.MinInt64: 2} {
		if v := val.Fail(code); v != fail(want) {
			t.Error("Fail", code, v)
		}
	}
}

// P5.3
func TestCompare(t *testing.T) {
	for _, x := range []struct {
		a, b api.Value
		want int
	}{
		{blank, num(0), 0}, {blank, num(1), -1}, {blank, num(-1), 1}, {blank, text(""), 0}, {blank, text("a"), -1}, {blank, no, 0}, {blank, yes, -1}, {blank, blank, 0},
		{num(2_0000), num(10_0000), -1}, {text("b"), text("A"), 1}, {num(9_0000), text("1"), -1}, {text("x"), no, -1}, {num(math.MaxInt64), no, -1}, {no, yes, -1}, {text("Ab"), text("aB"), 0}, {num(-1), num(-2), 1},
	} {
		if c, e := val.Compare(x.a, x.b); c != x.want || e != api.OK {
			t.Error("Compare", x, c, e)
		}
	}
	for _, v := range append(odd(), fail(api.NA), fail(api.Cycle)) {
		for _, w := range []api.Value{num(1), blank, v} {
			if c, e := val.Compare(v, w); c != 0 || e != api.ErrArg {
				t.Error("Compare", v, w, c, e)
			}
			if c, e := val.Compare(w, v); c != 0 || e != api.ErrArg {
				t.Error("Compare", w, v, c, e)
			}
		}
	}
}

// P5.9
func TestOrder(t *testing.T) {
	compare := func(a, b api.Value) int {
		c, _ := val.Compare(a, b)
		return c
	}
	for _, a := range cells() {
		for _, b := range cells() {
			if compare(a, b) != -compare(b, a) {
				t.Error("Compare", a, b)
			}
			if a.Kind == api.Blank || b.Kind == api.Blank || a.Kind == api.Error || b.Kind == api.Error {
				continue
			}
			same := a == b || a.Kind == api.Text && b.Kind == api.Text && glyph.Upper(a.Text) == glyph.Upper(b.Text)
			if (compare(a, b) == 0) != same {
				t.Error("Compare", a, b)
			}
			for _, c := range cells() {
				if c.Kind != api.Blank && c.Kind != api.Error && compare(a, b) <= 0 && compare(b, c) <= 0 && compare(a, c) > 0 {
					t.Error("Compare is not transitive:", a, b, c)
				}
			}
		}
	}
}

// P5.4, P5.5
func TestConvert(t *testing.T) {
	for _, x := range []struct{ v, number, text, truth api.Value }{
		{blank, num(0), text(""), no},
		{num(1_5000), num(1_5000), text("1.5"), yes},
		{num(0), num(0), text("0"), no},
		{num(-1), num(-1), text("-0.0001"), yes},
		{yes, num(1_0000), text("TRUE"), yes},
		{no, num(0), text("FALSE"), no},
		{text(" 1.5 "), num(1_5000), text(" 1.5 "), fail(api.Val)},
		{text("x"), fail(api.Val), text("x"), fail(api.Val)},
		{text(""), fail(api.Val), text(""), fail(api.Val)},
		{text("9999999999999999"), fail(api.Num), text("9999999999999999"), fail(api.Val)},
		{text("true"), fail(api.Val), text("true"), yes},
		{text("fAlSe"), fail(api.Val), text("fAlSe"), no},
		{text(" TRUE"), fail(api.Val), text(" TRUE"), fail(api.Val)},
		{text("1"), num(1_0000), text("1"), fail(api.Val)},
		{fail(api.NA), fail(api.NA), fail(api.NA), fail(api.NA)},
		{fail(api.Cycle), fail(api.Cycle), fail(api.Cycle), fail(api.Cycle)},
	} {
		if v := val.ToNumber(x.v); v != x.number {
			t.Error("ToNumber", x.v, v)
		}
		if v := val.ToText(x.v); v != x.text {
			t.Error("ToText", x.v, v)
		}
		if v := val.ToBool(x.v); v != x.truth {
			t.Error("ToBool", x.v, v)
		}
	}
	for _, v := range odd() {
		if val.ToNumber(v) != fail(api.Val) || val.ToText(v) != fail(api.Val) || val.ToBool(v) != fail(api.Val) {
			t.Error("conversions of", v)
		}
	}
}

// P5.8
func TestConversions(t *testing.T) {
	for kind, f := range map[uint8]func(api.Value) api.Value{api.Number: val.ToNumber, api.Text: val.ToText, api.Bool: val.ToBool} {
		for _, v := range cells() {
			w := f(v)
			if val.Check(w) != api.OK || w.Kind != kind && w.Kind != api.Error || f(w) != w {
				t.Error("conversion of", v, "to kind", kind, "is", w)
			}
		}
	}
	for _, v := range cells() {
		if v.Kind == api.Number && val.ToNumber(val.ToText(v)) != v {
			t.Error("number to text and back:", v)
		}
		if v.Kind == api.Bool && (val.ToBool(val.ToNumber(v)) != v || val.ToBool(val.ToText(v)) != v) {
			t.Error("bool to another kind and back:", v)
		}
	}
}

// P5.6, P5.7, P5.10
func TestShow(t *testing.T) {
	for v, want := range map[api.Value]string{blank: "", num(1_5000): "1.5", yes: "TRUE", no: "FALSE", text("a b"): "a b", fail(1): "#DIV/0!", fail(2): "#VALUE!", fail(3): "#NUM!", fail(4): "#N/A", fail(5): "#REF!", fail(6): "#CYCLE!", fail(7): "#DENIED"} {
		if s := val.Show(v); s != want {
			t.Error("Show", v, s)
		}
		if code, e := val.Code(want); v.Kind == api.Error && (code != v.Num || e != api.OK) {
			t.Error("Code", want, code, e)
		}
	}
	for _, v := range odd() {
		if s := val.Show(v); v != fail(api.Denied) && s != "" {
			t.Error("Show", v, s)
		}
	}
	if s := val.Show(api.Value{Kind: api.Error, Num: 7, Text: "x"}); s != "" {
		t.Error("Show of #DENIED with a text:", s)
	}
	for s, want := range map[string]int64{"#div/0!": 1, "#Value!": 2, "#n/a": 4, "#denied": 7, "#cycle!": 6} {
		if code, e := val.Code(s); code != want || e != api.OK {
			t.Error("Code", s, code, e)
		}
	}
	for _, s := range []string{"", "#X", "#N/A ", "N/A", "#N", "#NUM", " #NUM!", "#DIV/0!!"} {
		if code, e := val.Code(s); code != 0 || e != api.ErrForm {
			t.Error("Code", s, code, e)
		}
	}
}
