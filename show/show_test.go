package show_test

import (
	"math/rand"
	"slices"
	"strings"
	"testing"

	"louvre/api"
	"louvre/parse"
	"louvre/show"
	"louvre/tree"
)

// P10.1: formulas, and their canonical texts.
func TestFormula(t *testing.T) {
	for s, want := range map[string]string{
		"(1+2)*3": "(1+2)*3", "1-(2-3)": "1-(2-3)", "(1-2)-3": "1-2-3", "1+(2*3)": "1+2*3", "1*(2+3)": "1*(2+3)", "(1*2)/3": "1*2/3", "1/(2*3)": "1/(2*3)",
		"(-2)^2": "(-2)^2", "-(2^2)": "-2^2", "(2^3)^2": "(2^3)^2", "2^(3^2)": "2^3^2", "2^(-1)": "2^-1", "5%^2": "5%^2", "(5^2)%": "(5^2)%", "2^(5%)": "2^5%", "(-5)%": "(-5)%", "-(5%)": "-5%", "-(1+2)": "-(1+2)", "-(-1)": "--1", "-(2*3)": "-(2*3)", "(-2)*3": "-2*3", "2*(-3)": "2*-3", "2^(1+1)": "2^(1+1)", "(5%)%": "5%%",
		"(1&2)&3": "1&2&3", "1&(2&3)": "1&(2&3)", "(1=2)=3": "1=2=3", "1=(2=3)": "1=(2=3)", "(1=2)&3": "(1=2)&3", "1<>2+3": "1<>2+3", "1&2+3": "1&2+3", "(1&2)+3": "(1&2)+3", "1<=(2>=3)": "1<=(2>=3)", "1<(2>3)": "1<(2>3)", "(1-2)*(3-4)": "(1-2)*(3-4)", "1-(2+3)": "1-(2+3)",
		"sum( a1:b2 , \"a\" )": "SUM(A1:B2,\"a\")", "1.50": "1.5", "if((1=2),(3),-(4))": "IF(1=2,3,-4)", "\"a\"\"b\"": "\"a\"\"b\"", "true": "TRUE", "#n/a": "#N/A", "MAX(b2:a1)": "MAX(A1:B2)", "DSUM((C3))": "DSUM(C3)", "(SUM(1,2))%": "SUM(1,2)%", "(A1)^2": "A1^2",
	} {
		x, _, e := parse.Formula(s)
		if got, f := show.Formula(x); e == api.OK && (got != want || f != api.OK) {
			t.Errorf("Formula of %q: %q, %d", s, got, f)
		}
	}
	for _, x := range []api.Tree{nil, {{Kind: api.NdNeg}}, {{Kind: 9}}, {{Kind: api.NdCall, Fn: 99}}, make(api.Tree, 257)} {
		got, e := show.Formula(x)
		l, f := show.Outline(x)
		if want := tree.Check(x); got != "" || e != want || l != nil || f != want {
			t.Error("a list that is no tree:", got, e, l, f)
		}
	}
	text := func(n int) api.Tree {
		return api.Tree{{Kind: api.NdValue, V: api.Value{Kind: api.Text, Text: strings.Repeat("x", n)}}}
	}
	if s, e := show.Formula(text(254)); len(s) != 256 || e != api.OK {
		t.Error("a formula of 256 bytes:", len(s), e)
	}
	if s, e := show.Formula(text(255)); s != "" || e != api.ErrLong {
		t.Error("a formula of 257 bytes:", len(s), e)
	}
	if l, e := show.Outline(text(256)); len(l) != 1 || len(l[0]) != 258 || e != api.OK {
		t.Error("the outline of a long text:", len(l), e)
	}
}

// P10.2
func TestLiteral(t *testing.T) {
	for v, want := range map[api.Value]string{
		{Kind: api.Number}: "0", {Kind: api.Number, Num: 1_5000}: "1.5", {Kind: api.Bool}: "FALSE", {Kind: api.Bool, Num: 1}: "TRUE", {Kind: api.Text}: "\"\"", {Kind: api.Text, Text: "a\"b"}: "\"a\"\"b\"",
		{Kind: api.Error, Num: api.NA}: "#N/A", {Kind: api.Error, Num: api.Div}: "#DIV/0!", {Kind: api.Error, Num: api.Bad}: "#REF!", {Kind: api.Text, Text: strings.Repeat("\"", 256)}: strings.Repeat("\"", 514),
	} {
		if s, e := show.Literal(v); s != want || e != api.OK {
			t.Error("Literal", v, s, e)
		}
	}
	for _, v := range []api.Value{{}, {Kind: api.Number, Num: -5_0000}, {Kind: api.Error, Num: api.Cycle}, {Kind: api.Error, Num: api.Denied}, {Kind: api.Error}, {Kind: api.Bool, Num: 2}, {Kind: api.Text, Text: "\n"}, {Kind: api.Text, Text: strings.Repeat("x", 257)}, {Kind: 7}} {
		if s, e := show.Literal(v); s != "" || e != api.ErrArg {
			t.Error("Literal", v, s, e)
		}
	}
}

// P10.3
func TestOutline(t *testing.T) {
	for s, want := range map[string][]string{
		"SUM(A1:B2,5)*2":      {"*", "  SUM", "    A1:B2", "    5", "  2"},
		"-A1%":                {"neg", "  percent", "    A1"},
		"IF(TRUE,\"x\",#N/A)": {"IF", "  TRUE", "  \"x\"", "  #N/A"},
		"1<>2":                {"<>", "  1", "  2"},
		"7.5":                 {"7.5"},
	} {
		x, _, _ := parse.Formula(s)
		if l, e := show.Outline(x); !slices.Equal(l, want) || e != api.OK {
			t.Errorf("Outline of %q: %q, %d", s, l, e)
		}
	}
}

// random returns a tree, the operands of which are random trees.
func random(r *rand.Rand, depth int) api.Tree {
	leaf := []string{"1", "2.5", "A1", "\"x\"\"\"", "TRUE", "#REF!", "SUM(A1:B2,1)", "DSUM(C1)"}
	if depth == 0 {
		t, _, _ := parse.Formula(leaf[r.Intn(len(leaf))])
		return t
	}
	a, b := random(r, depth-1), random(r, r.Intn(depth))
	root := api.Node{Kind: api.NdBinary, Op: int64(1 + r.Intn(12))}
	switch r.Intn(6) {
	case 0:
		root, b = api.Node{Kind: api.NdNeg}, nil
	case 1:
		root, b = api.Node{Kind: api.NdPct}, nil
	case 2:
		root = api.Node{Kind: api.NdCall, Fn: api.FnMax, N: 2}
	}
	if b == nil {
		t, _ := tree.Join(root, a)
		return t
	}
	t, _ := tree.Join(root, a, b)
	return t
}

// P10.4 to P10.6
func TestLaws(t *testing.T) {
	r := rand.New(rand.NewSource(1))
	texts := map[string]api.Tree{}
	for range 5000 {
		x := random(r, r.Intn(5))
		s, e := show.Formula(x)
		if e == api.ErrLong {
			continue
		}
		y, _, f := parse.Formula(s)
		if e != api.OK || f != api.OK || !tree.Equal(x, y) {
			t.Fatal("the text of a tree has another one:", s, e, f)
		}
		if z, ok := texts[s]; ok && !tree.Equal(x, z) {
			t.Fatal("different trees have the same text:", s)
		}
		texts[s] = x
		if l, e := show.Outline(x); len(l) != len(x) || e != api.OK {
			t.Fatal("Outline of", s, len(l), e)
		}
		if strings.Contains(s, " ") {
			t.Fatal("a blank in", s)
		}
		for i := range s {
			if k := closing(s, i); k > 0 {
				less := s[:i] + s[i+1:k] + s[k+1:]
				if y, _, e := parse.Formula(less); e == api.OK && tree.Equal(x, y) {
					t.Fatal("parentheses that are not needed:", s, less)
				}
			}
		}
	}
}

// closing returns the parenthesis that ends the one at i, if that one encloses an operand; otherwise 0.
func closing(s string, i int) int {
	if s[i] != '(' || i > 0 && s[i-1] >= 'A' && s[i-1] <= 'Z' {
		return 0
	}
	depth := 0
	for k := i; k < len(s); k++ {
		if s[k] == '(' {
			depth++
		}
		if s[k] == ')' {
			depth--
		}
		if depth == 0 {
			return k
		}
	}
	return 0
}
