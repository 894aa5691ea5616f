package eval_test

import (
	"math"
	"math/rand"
	"slices"
	"strconv"
	"strings"
	"testing"

	"louvre/addr"
	"louvre/api"
	"louvre/eval"
	"louvre/parse"
	"louvre/rect"
	"louvre/refs"
	"louvre/sample"
	"louvre/sheet"
	"louvre/show"
	"louvre/tree"
	"louvre/val"
)

// cells returns a sheet: A1 3 B1 "x".
func cells(t *testing.T, s string) *sheet.Sheet {
	t.Helper()
	var l []api.Cell
	words := strings.Fields(s)
	for i := 0; i < len(words); i += 2 {
		at, _ := addr.Parse(words[i])
		l = append(l, api.Cell{At: at, V: sample.Value(words[i+1])})
	}
	x, e := sheet.New(l...)
	if e != api.OK {
		t.Fatal(s, e)
	}
	return x
}

func formula(t *testing.T, s string) api.Tree {
	t.Helper()
	x, _, e := parse.Formula(s)
	if e != api.OK {
		t.Fatal(s, e)
	}
	return x
}

// P17.1: Value.
func TestValue(t *testing.T) {
	s := cells(t, "A1 3 B1 \"x\" B2 1.5 C1 TRUE C2 #N/A D1 #CYCLE! E1 -2")
	for f, want := range map[string]string{
		"A1+B2*2": "6", "A1&B1": "\"3x\"", "SUM(A1:B2)": "4.5", "SUM(B1)": "0", "B1+1": "#VALUE!", "A2": "0", "A2&\"a\"": "\"a\"", "ISBLANK(A2)": "TRUE", "COUNTBLANK(A1:B2)": "1",
		"IF(A1>2,1/0,5)": "#DIV/0!", "IFERROR(1/0,A1)": "3", "IF(A1<2,1/0,5)": "#DIV/0!", "DSUM(A1:B2)": "4.5", "INDEX(A1:B2,2,2)": "1.5", "MATCH(\"X\",A1:B2)": "2",
		"-A1": "-3", "--A1": "3", "A1%": "0.03", "-A2": "0", "A2%": "0", "\"x\"=B1": "TRUE", "1.50": "1.5", "#REF!": "#REF!", "FALSE": "FALSE", "\"\"": "\"\"",
		"ABS(E1)+ROUND(2.345,2)": "4.35", "LEN(B1)+LEN(A1)": "2", "LEFT(\"abc\",A1-1)": "\"ab\"", "AND(C1,A1>2)": "TRUE", "CHOOSE(A1,1,2,A2)": "0", "IF(TRUE,A2)": "0", "INDEX(A1:A2,2)": "0", "INDEX(A2,1)": "0", "INDEX(B1,1)": "\"x\"",
		"SUM(\"5\",A1)": "8", "SUM(B1,\"x\")": "#VALUE!", "SUM(A1:B2,C2)": "#N/A", "COUNT(A1,A2,B1,5,\"5\")": "2", "COUNTA(A1:E2)": "7", "COUNTA(A2,A1)": "1", "COUNTIF(A1:E1,A1)": "1", "COUNTIF(A1:E1,B1:B1)": "1", "COUNTBLANK(A2)": "1", "MATCH(A2,A1:B2)": "3", "LARGE(A1:B2,1)": "3", "SMALL(A1:E1,2)": "#CYCLE!", "SMALL(A1:B2,1+1)": "3", "MEDIAN(A1,B2,C1)": "2.25",
		"DCOUNT(A1)": "1", "DAVG(A1:B2)": "2.25", "DMIN(E1)": "-2", "DMAX(A1:C1)": "3", "DSUM(C2)": "#N/A", "DSUM(Z9)": "0", "C2&#REF!": "#N/A", "1/0&C2": "#DIV/0!", "D1": "#CYCLE!", "IFERROR(D1,7)": "7", "ISERROR(C2)": "TRUE", "ISNUMBER(A1)": "TRUE", "ISTEXT(B1)": "TRUE", "NOT(C1)": "FALSE", "XOR(C1,C1)": "FALSE",
		"MAX(A1:B2)-MIN(A1:B2)": "1.5", "PRODUCT(A1:B2,2)": "9", "AVERAGE(A1:B2)": "2.25", "MOD(7,A1)": "1", "POWER(A1,2)": "9", "SQRT(A1*A1)": "3", "INT(-B2)": "-2", "TRUNC(-B2)": "-1", "SIGN(E1)": "-1", "VALUE(\"2\")+VALUE(A1)": "5", "EXACT(B1,\"X\")": "FALSE", "FIND(\"b\",\"abc\")": "2", "REPT(B1,A1)": "\"xxx\"", "TRIM(\" a \")": "\"a\"", "UPPER(B1)&LOWER(\"Y\")": "\"Xy\"", "MID(\"abc\",2,1)": "\"b\"", "RIGHT(\"abc\")": "\"c\"", "CONCAT(A1,B1,C1)": "\"3xTRUE\"", "OR(FALSE,A2)": "FALSE",
	} {
		if v, e := eval.Value(formula(t, f), s); v != sample.Value(want) || e != api.OK {
			t.Errorf("%s: %s, %d; want %s", f, val.Show(v), e, want)
		}
	}
}

// P17.1: Node and Nodes.
func TestNodes(t *testing.T) {
	s := cells(t, "A1 3 B1 \"x\" B2 1.5")
	for f, want := range map[string]string{"A1+2": "3 2 5", "A2": "blank", "SUM(A1:B2,A2)*-A1": "blank blank 4.5 3 -3 -13.5", "IF(A2=0,B1,1%)": "blank 0 TRUE \"x\" 1 0.01 \"x\"", "DSUM(A1)": "3 3", "INDEX(A2,1)": "blank 1 blank"} {
		x := formula(t, f)
		var l []api.Value
		for _, w := range strings.Fields(want) {
			l = append(l, sample.Value(w))
		}
		if got, e := eval.Nodes(x, s); !slices.Equal(got, l) || e != api.OK {
			t.Error("Nodes", f, got, e)
		}
		for i := range x {
			if v, e := eval.Node(x, i, s); v != l[i] || e != api.OK {
				t.Error("Node", f, i, v, e)
			}
		}
		for _, i := range []int{-1, len(x), math.MaxInt, math.MinInt} {
			if v, e := eval.Node(x, i, s); v != (api.Value{}) || e != api.ErrRange {
				t.Error("Node", f, i, v, e)
			}
		}
	}
}

// P17.1: errors.
func TestFaults(t *testing.T) {
	s := cells(t, "")
	for _, x := range []api.Tree{nil, {{Kind: api.NdNeg}}, {{Kind: 9}}, {{Kind: api.NdCall}}, {{Kind: api.NdCall, Fn: api.FnAbs}}, make(api.Tree, 257), {{Kind: api.NdRange, Rect: api.Rect{C1: 1, R1: 1, C2: 2, R2: 1}}}} {
		want := tree.Check(x)
		for _, s := range []*sheet.Sheet{nil, s} {
			if s == nil {
				want = api.ErrNil
			} else {
				want = tree.Check(x)
			}
			if v, e := eval.Value(x, s); v != (api.Value{}) || e != want {
				t.Error("Value", x, v, e)
			}
			if v, e := eval.Node(x, 99, s); v != (api.Value{}) || e != want {
				t.Error("Node", x, v, e)
			}
			if l, e := eval.Nodes(x, s); l != nil || e != want {
				t.Error("Nodes", x, l, e)
			}
		}
	}
}

// random returns a random formula over A1:C3.
func random(r *rand.Rand, depth int) string {
	leaf := []string{"A1", "B2", "C3", "A3", "1", "2.5", "\"x\"", "\"3\"", "TRUE", "#N/A", "0"}
	if depth == 0 {
		return leaf[r.Intn(len(leaf))]
	}
	a, b := random(r, depth-1), random(r, r.Intn(depth))
	switch r.Intn(12) {
	case 0:
		return "(-" + a + ")"
	case 1:
		return "(" + a + ")%"
	case 2:
		return "SUM(A1:C2," + a + ")"
	case 3:
		return "IF(" + a + "," + b + ",B1)"
	case 4:
		return "IFERROR(" + a + "," + b + ")"
	case 5:
		return "LEFT(" + a + "," + b + ")"
	case 6:
		return "INDEX(A1:C3," + a + "," + b + ")"
	case 7:
		return "DSUM(B1:C3)"
	case 8:
		return "COUNT(" + a + ",B2)"
	}
	return "(" + a + []string{"+", "-", "*", "/", "&", "=", "<", "^"}[r.Intn(8)] + b + ")"
}

// P17.2 to P17.5
func TestLaws(t *testing.T) {
	r := rand.New(rand.NewSource(1))
	values := []string{"blank", "1", "-2", "2", "0.5", "\"x\"", "\"\"", "TRUE", "#REF!", "#CYCLE!", "3"}
	for range 3000 {
		var words []string
		for i := range 9 {
			if v := values[r.Intn(len(values))]; v != "blank" {
				words = append(words, "ABC"[i%3:i%3+1]+strconv.Itoa(1+i/3), v)
			}
		}
		s := cells(t, strings.Join(words, " "))
		f := random(r, r.Intn(5))
		x, _, e := parse.Formula(f)
		if e != api.OK {
			continue
		}
		v, e := eval.Value(x, s)
		if e != api.OK || v.Kind == api.Blank || val.Check(v) != api.OK {
			t.Fatal("Value", f, words, v, e)
		}
		checkUses(t, f, x, s, v)
		all, _ := eval.Nodes(x, s)
		for i := range x {
			sub, _ := tree.Sub(x, i)
			if x[i].Kind == api.NdRange {
				continue
			}
			if w, e := eval.Node(sub, len(sub)-1, s); w != all[i] || e != api.OK {
				t.Fatal("the value of a node and of the tree below it:", f, i, w, all[i])
			}
			checkLiteral(t, f, x, i, all[i], s, v)
			checkErrors(t, f, x, i, all)
		}
	}
}

// checkUses checks that the value stays when all addresses that are not used change.
func checkUses(t *testing.T, f string, x api.Tree, s *sheet.Sheet, v api.Value) {
	other := s.Copy()
	l, _ := rect.Refs(api.Rect{C1: 1, R1: 1, C2: 4, R2: 4})
	for _, at := range l {
		if used, _ := refs.Touches(x, rect.One(at)); !used {
			other.Set(at, val.Make(77_0000))
		}
	}
	if w, _ := eval.Value(x, other); w != v {
		t.Fatal("the value depends on addresses that are not used:", f, v, w)
	}
}

// checkLiteral checks that a node that is no wide argument may be replaced by its value.
func checkLiteral(t *testing.T, f string, x api.Tree, i int, v api.Value, s *sheet.Sheet, want api.Value) {
	if _, e := show.Literal(v); e != api.OK {
		return
	}
	for p := range x {
		kids, _ := tree.Kids(x, p)
		if k := slices.Index(kids, i); k >= 0 && x[p].Kind == api.NdCall {
			if wide, _ := tree.Wide(x[p].Fn, k); wide {
				return
			}
		}
	}
	sub, _ := tree.Sub(x, i)
	var y api.Tree
	y = append(y, x[:i+1-len(sub)]...)
	y = append(y, api.Node{Kind: api.NdValue, V: v})
	y = append(y, x[i+1:]...)
	if w, e := eval.Value(y, s); w != want || e != api.OK {
		t.Fatal("a literal in place of a part:", f, i, v, w, want, e)
	}
}

// checkErrors checks that an error value of the first operand is that of the operator.
func checkErrors(t *testing.T, f string, x api.Tree, i int, all []api.Value) {
	if k := x[i].Kind; k != api.NdNeg && k != api.NdPct && k != api.NdBinary {
		return
	}
	kids, _ := tree.Kids(x, i)
	if a := all[kids[0]]; a.Kind == api.Error && all[i] != a {
		t.Fatal("an error value of the first operand:", f, i, a, all[i])
	}
}
