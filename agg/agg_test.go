package agg_test

import (
	"math"
	"math/rand"
	"slices"
	"strings"
	"testing"

	"louvre/agg"
	"louvre/api"
	"louvre/rect"
	"louvre/sample"
	"louvre/val"
)

func text(s string) api.Value { return api.Value{Kind: api.Text, Text: s} }

func whole(n int) api.Value { return val.Make(int64(n) * api.Unit) }

func one(s string) api.Arg { return api.Arg{V: sample.Value(s)} }

// area returns the area of a range whose addresses have these values, row by row; the rest are blank.
func area(r, values string) api.Arg {
	x, e := rect.Parse(r)
	l, f := rect.Refs(x)
	if e != api.OK || f != api.OK {
		panic(r)
	}
	a := api.Arg{Wide: true, Area: api.Area{Rect: x}}
	for i, w := range strings.Fields(values) {
		if v := sample.Value(w); v.Kind != api.Blank {
			a.Area.Cells = append(a.Area.Cells, api.Cell{At: l[i], V: v})
		}
	}
	return a
}

// args reads arguments; "area" is the area of the chapter's examples.
func args(s string) []api.Arg {
	var l []api.Arg
	for _, w := range strings.Fields(s) {
		switch w {
		case "area":
			l = append(l, area("A1:B2", "3 \"x\" blank 1.5"))
		case "bad":
			l = append(l, area("A1:B2", "3 #N/A blank 1.5"))
		case "mixed":
			l = append(l, area("B2:D3", "TRUE \"5\" blank \"\" 0 #REF!"))
		case "none":
			l = append(l, area("C1:C5", ""))
		case "five":
			l = append(l, area("C1:C5", "5 1 4 2 3"))
		case "single":
			l = append(l, area("C9", "7"))
		default:
			l = append(l, one(w))
		}
	}
	return l
}

// P16.1: values.
func TestCall(t *testing.T) {
	for _, x := range []struct {
		fn         uint8
		args, want string
	}{
		{api.FnSum, "area \"2\" TRUE", "7.5"}, {api.FnSum, "none", "0"}, {api.FnSum, "blank", "0"}, {api.FnSum, "bad \"x\"", "#N/A"}, {api.FnSum, "\"x\" bad", "#VALUE!"}, {api.FnSum, "mixed", "#REF!"}, {api.FnSum, "922337203685477 1", "#NUM!"}, {api.FnSum, "922337203685477 1 -5", "922337203685473"}, {api.FnSum, "1 2 3 4 5 6 7 8 9 10 11 12 13 14 15 16", "136"}, {api.FnSum, "#CYCLE! #N/A", "#CYCLE!"},
		{api.FnProduct, "area 2", "9"}, {api.FnProduct, "none", "0"}, {api.FnProduct, "0.0001 0.5 10000", "1"}, {api.FnProduct, "99999999 99999999 0", "#NUM!"}, {api.FnProduct, "0 99999999 99999999", "0"}, {api.FnProduct, "bad", "#N/A"},
		{api.FnAverage, "area", "2.25"}, {api.FnAverage, "none", "#DIV/0!"}, {api.FnAverage, "1 2 2", "1.6667"}, {api.FnAverage, "bad", "#N/A"}, {api.FnAverage, "blank 1", "0.5"},
		{api.FnMin, "area 9", "1.5"}, {api.FnMin, "none", "0"}, {api.FnMin, "area -1", "-1"}, {api.FnMax, "area 2", "3"}, {api.FnMax, "none", "0"}, {api.FnMax, "-1 -2", "-1"}, {api.FnMin, "bad", "#N/A"}, {api.FnMax, "1 \"y\" bad", "#VALUE!"},
		{api.FnMedian, "area 9", "3"}, {api.FnMedian, "area", "2.25"}, {api.FnMedian, "none", "#NUM!"}, {api.FnMedian, "five", "3"}, {api.FnMedian, "1 2", "1.5"}, {api.FnMedian, "0.0001 0", "0.0001"}, {api.FnMedian, "bad", "#N/A"},
		{api.FnLarge, "area 2", "1.5"}, {api.FnLarge, "area 1", "3"}, {api.FnSmall, "area 3", "#NUM!"}, {api.FnSmall, "five 2.9", "2"}, {api.FnLarge, "five 2", "4"}, {api.FnLarge, "five 0", "#NUM!"}, {api.FnLarge, "five 0.9", "#NUM!"}, {api.FnSmall, "five -1", "#NUM!"}, {api.FnLarge, "\"5\" 1", "5"}, {api.FnLarge, "\"x\" 1", "#VALUE!"}, {api.FnLarge, "bad #REF!", "#N/A"}, {api.FnLarge, "five #REF!", "#REF!"}, {api.FnLarge, "five \"x\"", "#VALUE!"}, {api.FnLarge, "none 1", "#NUM!"}, {api.FnSmall, "five 922337203685477", "#NUM!"}, {api.FnSmall, "five TRUE", "1"},
		{api.FnCount, "area \"2\" 7", "3"}, {api.FnCount, "bad", "2"}, {api.FnCount, "#N/A TRUE blank", "0"}, {api.FnCount, "none", "0"}, {api.FnCountA, "area", "3"}, {api.FnCountA, "mixed blank \"\" #N/A", "7"}, {api.FnCountA, "none blank", "0"}, {api.FnCountBlank, "area", "1"}, {api.FnCountBlank, "mixed", "1"}, {api.FnCountBlank, "none", "5"}, {api.FnCountBlank, "blank", "1"}, {api.FnCountBlank, "#N/A", "0"}, {api.FnCountBlank, "\"\"", "0"},
		{api.FnCountIf, "area 3", "1"}, {api.FnCountIf, "area \"X\"", "1"}, {api.FnCountIf, "mixed 0", "2"}, {api.FnCountIf, "mixed \"\"", "2"}, {api.FnCountIf, "mixed blank", "3"}, {api.FnCountIf, "mixed FALSE", "1"}, {api.FnCountIf, "mixed TRUE", "1"}, {api.FnCountIf, "none 0", "5"}, {api.FnCountIf, "none 1", "0"}, {api.FnCountIf, "mixed #REF!", "#REF!"}, {api.FnCountIf, "5 5", "1"}, {api.FnCountIf, "blank 0", "1"}, {api.FnCountIf, "#N/A 5", "0"}, {api.FnCountIf, "#N/A #REF!", "#REF!"},
		{api.FnMatch, "\"X\" area", "2"}, {api.FnMatch, "blank area", "3"}, {api.FnMatch, "9 area", "#N/A"}, {api.FnMatch, "1.5 area", "4"}, {api.FnMatch, "0 area", "3"}, {api.FnMatch, "0 mixed", "3"}, {api.FnMatch, "FALSE none", "1"}, {api.FnMatch, "#DIV/0! area", "#DIV/0!"}, {api.FnMatch, "5 5", "1"}, {api.FnMatch, "5 6", "#N/A"}, {api.FnMatch, "\"\" blank", "1"}, {api.FnMatch, "1 #REF!", "#N/A"}, {api.FnMatch, "blank five", "#N/A"},
		{api.FnIndex, "area 2", "\"x\""}, {api.FnIndex, "area 2 1", "blank"}, {api.FnIndex, "area 3 1", "#REF!"}, {api.FnIndex, "area 2 2", "1.5"}, {api.FnIndex, "area 1 3", "#REF!"}, {api.FnIndex, "area 0", "#REF!"}, {api.FnIndex, "area 5", "#REF!"}, {api.FnIndex, "area 4.9", "1.5"}, {api.FnIndex, "area 0.9", "#REF!"}, {api.FnIndex, "mixed 2 3", "#REF!"}, {api.FnIndex, "mixed 1 2", "\"5\""}, {api.FnIndex, "bad #DIV/0! #REF!", "#DIV/0!"}, {api.FnIndex, "bad 1 \"x\"", "#VALUE!"}, {api.FnIndex, "bad 2", "#N/A"}, {api.FnIndex, "7 1", "7"}, {api.FnIndex, "7 1 1", "7"}, {api.FnIndex, "7 2", "#REF!"}, {api.FnIndex, "blank 1", "blank"}, {api.FnIndex, "#N/A 1", "#N/A"}, {api.FnIndex, "area -922337203685477", "#REF!"}, {api.FnIndex, "area 922337203685477 922337203685477", "#REF!"}, {api.FnIndex, "area 1 0", "#REF!"}, {api.FnIndex, "area 0 1", "#REF!"}, {api.FnIndex, "mixed 4", "\"\""},
		{api.FnDSum, "area", "4.5"}, {api.FnDCount, "area", "2"}, {api.FnDAvg, "area", "2.25"}, {api.FnDMin, "area", "1.5"}, {api.FnDMax, "area", "3"}, {api.FnDSum, "none", "0"}, {api.FnDAvg, "none", "#DIV/0!"}, {api.FnDMin, "none", "0"}, {api.FnDCount, "bad", "2"}, {api.FnDMax, "bad", "#N/A"}, {api.FnDSum, "single", "7"},
	} {
		if v, e := agg.Call(x.fn, args(x.args)...); v != sample.Value(x.want) || e != api.OK {
			t.Error("Call", x, val.Show(v), e)
		}
	}
	huge := api.Arg{Wide: true, Area: api.Area{Rect: api.Rect{C1: 1, R1: 1, C2: api.MaxCol, R2: api.MaxRow}, Cells: []api.Cell{{At: api.Ref{Col: 1024, Row: 1024}, V: whole(5)}}}}
	for fn, want := range map[uint8]int{api.FnCountBlank: 1048575, api.FnCountA: 1, api.FnDSum: 5} {
		if v, e := agg.Call(fn, huge); v != whole(want) || e != api.OK {
			t.Error("Call for the whole sheet:", fn, v, e)
		}
	}
	if v, e := agg.Call(api.FnMatch, one("5"), huge); v != whole(1048576) || e != api.OK {
		t.Error("MATCH in the whole sheet:", v, e)
	}
	if v, e := agg.Call(api.FnIndex, huge, one("1048576")); v != whole(5) || e != api.OK {
		t.Error("INDEX in the whole sheet:", v, e)
	}
}

// invalid are arguments that are not valid.
func invalid() []api.Arg {
	r := api.Rect{C1: 1, R1: 1, C2: 2, R2: 2}
	cell := func(col, row int, v api.Value) api.Cell {
		return api.Cell{At: api.Ref{Col: col, Row: row}, V: v}
	}
	in := func(cells ...api.Cell) api.Arg { return api.Arg{Wide: true, Area: api.Area{Rect: r, Cells: cells}} }
	return []api.Arg{
		{V: api.Value{Kind: 9}}, {V: val.Fail(api.Denied)}, {V: api.Value{Kind: api.Number, Num: math.MinInt64}}, {V: whole(1), Area: api.Area{Rect: r}}, {V: whole(1), Area: api.Area{Cells: []api.Cell{cell(1, 1, whole(1))}}},
		{Wide: true}, {Wide: true, V: whole(1), Area: api.Area{Rect: r}}, {Wide: true, Area: api.Area{Rect: api.Rect{C1: 2, R1: 1, C2: 1, R2: 1}}},
		in(cell(3, 1, whole(1))), in(cell(0, 1, whole(1))), in(cell(1, 3, whole(1))), in(cell(1, 2, whole(1)), cell(2, 1, whole(1))), in(cell(1, 1, whole(1)), cell(1, 1, whole(1))), in(cell(1, 1, api.Value{})), in(cell(1, 1, val.Fail(api.Denied))), in(cell(1, 1, api.Value{Kind: api.Text, Text: "\n"})), in(cell(1, math.MaxInt, whole(1))),
	}
}

// P16.1: errors.
func TestFaults(t *testing.T) {
	counts := map[uint8][2]int{api.FnCountBlank: {1, 1}, api.FnLarge: {2, 2}, api.FnSmall: {2, 2}, api.FnIndex: {2, 3}, api.FnMatch: {2, 2}, api.FnCountIf: {2, 2}, api.FnDSum: {1, 1}, api.FnDCount: {1, 1}, api.FnDAvg: {1, 1}, api.FnDMin: {1, 1}, api.FnDMax: {1, 1}}
	for fn := api.FnSum; fn <= api.FnMedian; fn++ {
		if fn != api.FnCountBlank {
			counts[fn] = [2]int{1, 16}
		}
	}
	isWide := func(fn uint8, i int) bool {
		switch fn {
		case api.FnMatch:
			return i == 1
		case api.FnLarge, api.FnSmall, api.FnIndex, api.FnCountIf:
			return i == 0
		}
		return true
	}
	for fn := range 256 {
		fn := uint8(fn)
		c, known := counts[fn]
		for n := range 20 {
			l := make([]api.Arg, n)
			want := api.OK
			switch {
			case !known:
				want = api.ErrName
			case n < c[0] || n > c[1]:
				want = api.ErrCount
			case fn >= api.FnDSum:
				want = api.ErrArg
			}
			if v, e := agg.Call(fn, l...); e != want || e != api.OK && v != (api.Value{}) {
				t.Error("Call", fn, n, v, e, "want", want)
			}
			for i := range l {
				if want == api.OK || want == api.ErrArg {
					l := make([]api.Arg, n)
					l[i] = args("area")[0]
					if v, e := agg.Call(fn, l...); (e == api.OK) != isWide(fn, i) || e != api.OK && (e != api.ErrArg || v != (api.Value{})) {
						t.Error("Call with an area", fn, n, i, v, e)
					}
					for _, o := range invalid() {
						l[i] = o
						if v, e := agg.Call(fn, l...); v != (api.Value{}) || e != api.ErrArg {
							t.Error("Call", fn, l, v, e)
						}
					}
				}
			}
		}
	}
}

// P16.2
func TestNumbers(t *testing.T) {
	for s, want := range map[string][]int64{"": nil, "area \"2\" TRUE blank": {3_0000, 1_5000, 2_0000, 1_0000, 0}, "none": nil, "five": {5_0000, 1_0000, 4_0000, 2_0000, 3_0000}} {
		if l, fail, ok := agg.Numbers(args(s)...); !slices.Equal(l, want) || fail != (api.Value{}) || !ok {
			t.Error("Numbers", s, l, fail, ok)
		}
	}
	for s, want := range map[string]string{"1 bad \"x\"": "#N/A", "\"x\" bad": "#VALUE!", "mixed": "#REF!", "\"9999999999999999\"": "#NUM!", "#CYCLE!": "#CYCLE!"} {
		if l, fail, ok := agg.Numbers(args(s)...); l != nil || fail != sample.Value(want) || ok {
			t.Error("Numbers", s, l, fail, ok)
		}
	}
	for _, o := range invalid() {
		if l, fail, ok := agg.Numbers(one("#N/A"), o); l != nil || fail != val.Fail(api.Val) || ok {
			t.Error("Numbers", o, l, fail, ok)
		}
	}
}

// P16.3 to P16.6
func TestLaws(t *testing.T) {
	r := rand.New(rand.NewSource(1))
	words := []string{"blank", "blank", "1", "2", "2", "-3.5", "0", "TRUE", "FALSE", "\"a\"", "\"A\"", "\"\"", "\"2\""}
	call := func(fn uint8, l ...api.Arg) api.Value {
		v, e := agg.Call(fn, l...)
		if e != api.OK || val.Check(v) != api.OK {
			t.Fatal("Call", fn, l, v, e)
		}
		return v
	}
	for range 5000 {
		if r.Intn(50) == 0 {
			words = append(words[:13:13], "#N/A", "#DIV/0!")
		} else {
			words = words[:13:13]
		}
		var values []string
		for range 12 {
			values = append(values, words[r.Intn(len(words))])
		}
		all := area("B2:D5", strings.Join(values, " "))
		top, bottom := area("B2:D3", strings.Join(values[:6], " ")), area("B4:D5", strings.Join(values[6:], " "))
		for _, fn := range []uint8{api.FnSum, api.FnCount, api.FnCountA} {
			if v, w := call(fn, all), call(fn, top, bottom); v != w {
				t.Fatal("an area in two parts:", fn, values, v, w)
			}
		}
		l, _, ok := agg.Numbers(all)
		for _, fn := range []uint8{api.FnSum, api.FnCount, api.FnMin, api.FnMax, api.FnMedian, api.FnAverage} {
			if ok && call(fn, top, bottom, one("7")) != call(fn, one("7"), bottom, top) {
				t.Fatal("the order matters:", fn, values)
			}
			if ok && call(fn, all) != call(fn, top, bottom) {
				t.Fatal("an area in two parts:", fn, values)
			}
		}
		if n := call(api.FnCountA, all).Num + call(api.FnCountBlank, all).Num; n != 12_0000 {
			t.Fatal("COUNTA and COUNTBLANK:", values, n)
		}
		if ok && len(l) > 0 {
			n := len(l)
			k := 1 + r.Intn(n)
			if call(api.FnMin, all) != call(api.FnSmall, all, one("1")) || call(api.FnMax, all) != call(api.FnLarge, all, one("1")) {
				t.Fatal("MIN and MAX:", values)
			}
			if call(api.FnSmall, all, api.Arg{V: whole(k)}) != call(api.FnLarge, all, api.Arg{V: whole(n + 1 - k)}) {
				t.Fatal("SMALL and LARGE:", values, k)
			}
		}
		checkMatch(t, values, all, one(words[r.Intn(13)]), call)
	}
}

// checkMatch checks MATCH, COUNTIF and INDEX against the list of all values.
func checkMatch(t *testing.T, values []string, all, v api.Arg, call func(fn uint8, l ...api.Arg) api.Value) {
	t.Helper()
	n, first := 0, sample.Value("#N/A")
	for i, w := range values {
		if c, e := val.Compare(sample.Value(w), v.V); e == api.OK && c == 0 {
			n++
			if first.Kind == api.Error {
				first = whole(i + 1)
			}
		}
		if call(api.FnIndex, all, api.Arg{V: whole(i + 1)}) != sample.Value(w) || call(api.FnIndex, all, api.Arg{V: whole(i/3 + 1)}, api.Arg{V: whole(i%3 + 1)}) != sample.Value(w) {
			t.Fatal("INDEX", values, i)
		}
	}
	if call(api.FnCountIf, all, v) != whole(n) || call(api.FnMatch, v, all) != first {
		t.Fatal("COUNTIF or MATCH:", values, v, n, first)
	}
}
