package tree_test

import (
	"math"
	"math/rand"
	"slices"
	"strconv"
	"strings"
	"testing"

	"louvre/api"
	"louvre/rect"
	"louvre/tree"
)

var operators = map[string]int64{"+": api.Add, "-": api.Sub, "*": api.Mul, "/": api.Quo, "^": api.Pow, "&": api.Cat, "=": api.Eq, "<>": api.Ne, "<": api.Lt, "<=": api.Le, ">": api.Gt, ">=": api.Ge}

// read returns the tree that is written as in the chapter: 5 A1 A1:B2 + neg pct SUM/2.
func read(s string) api.Tree {
	var t api.Tree
	for _, w := range strings.Fields(s) {
		t = append(t, node(w))
	}
	return t
}

func node(w string) api.Node {
	if op, ok := operators[w]; ok {
		return api.Node{Kind: api.NdBinary, Op: op}
	}
	if name, n, ok := strings.Cut(w, "/"); ok {
		fn, _ := tree.Function(name)
		k, _ := strconv.Atoi(n)
		return api.Node{Kind: api.NdCall, Fn: fn, N: k}
	}
	if n, err := strconv.ParseInt(w, 10, 64); err == nil {
		return api.Node{Kind: api.NdValue, V: api.Value{Kind: api.Number, Num: n * api.Unit}}
	}
	switch w {
	case "neg":
		return api.Node{Kind: api.NdNeg}
	case "pct":
		return api.Node{Kind: api.NdPct}
	}
	r, _ := rect.Parse(w)
	if strings.Contains(w, ":") {
		return api.Node{Kind: api.NdRange, Rect: r}
	}
	return api.Node{Kind: api.NdRef, Rect: r}
}

// P8.1: trees that are accepted, and the form of a list.
func TestCheck(t *testing.T) {
	many := strings.Repeat("A1 ", 15)
	for s, want := range map[string]api.Errno{
		"A1 5 +": api.OK, "A1:B2 5 SUM/2": api.OK, "5": api.OK, "A1 neg pct": api.OK, "A1 DSUM/1": api.OK, "A1:B2 DMAX/1": api.OK, "5 A1:B2 MATCH/2": api.OK, "A1:B2 1 INDEX/2": api.OK, "A1:B2 1 2 INDEX/3": api.OK,
		many + "A1 SUM/16": api.OK, many + "A1 CHOOSE/16": api.OK, "A1:B2 COUNTBLANK/1": api.OK, "A1:B2 A1:A2 5 SUM/3": api.OK,
		"": api.ErrForm, "A1:B2": api.ErrForm, "A1:B2 5 +": api.ErrForm, "5 A1:B2 +": api.ErrForm, "A1:B2 neg": api.ErrForm, "A1:B2 pct": api.ErrForm, "5 DSUM/1": api.ErrForm, "A1 neg DSUM/1": api.ErrForm, "A1 DSUM/1 DSUM/1": api.ErrForm,
		"5 6": api.ErrForm, "+": api.ErrForm, "5 +": api.ErrForm, "neg": api.ErrForm, "SUM/1": api.ErrForm, "A1:B2 ABS/1": api.ErrForm, "A1:B2 5 MATCH/2": api.ErrForm, "5 A1:B2 COUNTIF/2": api.ErrForm, "A1 A1:B2 INDEX/2": api.ErrForm, "A1:B2 AND/1": api.ErrForm, "5 A1:B2": api.ErrForm,
		"5 SUM/0": api.ErrCount, "SUM/0": api.ErrCount, many + "A1 A1 SUM/17": api.ErrCount, "A1 5 ABS/2": api.ErrCount, "A1 CHOOSE/1": api.ErrCount, "5 ROUND/1": api.ErrCount, "IF/4": api.ErrCount,
		"5 FOO/1": api.ErrName, "+ FOO/1": api.ErrForm, "5 FOO/99": api.ErrName,
	} {
		if e := tree.Check(read(s)); e != want {
			t.Error("Check", s, e, "want", want)
		}
	}
	long := read("5" + strings.Repeat(" 5 +", 128))
	if len(long) != 257 {
		t.Fatal(len(long))
	}
	if e := tree.Check(long); e != api.ErrLong {
		t.Error("Check of 257 nodes:", e)
	}
	if e := tree.Check(make(api.Tree, 257)); e != api.ErrLong {
		t.Error("Check of 257 nodes:", e)
	}
	deep := read("5" + strings.Repeat(" neg", 31))
	if e := tree.Check(deep); e != api.OK {
		t.Error("Check of depth 32:", e)
	}
	deep = append(deep, node("neg"))
	if e := tree.Check(deep); e != api.ErrDepth {
		t.Error("Check of depth 33:", e)
	}
	if e := tree.Check(append(deep, node("FOO/1"))); e != api.ErrDepth {
		t.Error("Check of depth 33, and more:", e)
	}
}

// P8.1: fields.
func TestNodes(t *testing.T) {
	one, two := api.Rect{C1: 1, R1: 1, C2: 1, R2: 1}, api.Rect{C1: 1, R1: 1, C2: 2, R2: 1}
	text := func(s string) api.Value { return api.Value{Kind: api.Text, Text: s} }
	for _, v := range []api.Value{{Kind: api.Number}, {Kind: api.Number, Num: math.MaxInt64}, {Kind: api.Bool, Num: 1}, {Kind: api.Bool}, text(""), text(strings.Repeat("\"", 256)), {Kind: api.Error, Num: 1}, {Kind: api.Error, Num: 5}} {
		if e := tree.Check(api.Tree{{Kind: api.NdValue, V: v}}); e != api.OK {
			t.Error("Check of", v, e)
		}
	}
	for _, v := range []api.Value{{}, {Kind: api.Number, Num: -1}, {Kind: api.Number, Num: math.MinInt64}, {Kind: api.Bool, Num: 2}, text("\n"), text(strings.Repeat("x", 257)), {Kind: api.Error}, {Kind: api.Error, Num: api.Cycle}, {Kind: api.Error, Num: api.Denied}, {Kind: 9}, {Kind: api.Number, Text: "x"}} {
		if e := tree.Check(api.Tree{{Kind: api.NdValue, V: v}}); e != api.ErrArg {
			t.Error("Check of", v, e)
		}
	}
	v := api.Value{Kind: api.Bool, Num: 1}
	for _, n := range []api.Node{
		{}, {Kind: 8}, {Kind: 255}, {Kind: api.NdRef}, {Kind: api.NdRef, Rect: two}, {Kind: api.NdRange, Rect: one}, {Kind: api.NdRange, Rect: api.Rect{C1: 1, R1: 1, C2: 1025, R2: 1}}, {Kind: api.NdRef, Rect: api.Rect{C1: 1025, R1: 1, C2: 1025, R2: 1}},
		{Kind: api.NdBinary}, {Kind: api.NdBinary, Op: api.Percent}, {Kind: api.NdBinary, Op: -1}, {Kind: api.NdCall, Fn: api.FnSum, N: -1}, {Kind: api.NdCall, Fn: 99, N: -1},
		{Kind: api.NdValue, V: v, Op: 1}, {Kind: api.NdValue, V: v, Rect: one}, {Kind: api.NdRef, Rect: one, V: v}, {Kind: api.NdRef, Rect: one, N: 1}, {Kind: api.NdNeg, Op: api.Sub}, {Kind: api.NdPct, N: 1}, {Kind: api.NdBinary, Op: 1, Fn: 1}, {Kind: api.NdBinary, Op: 1, N: 2}, {Kind: api.NdCall, Fn: 1, N: 1, Op: 1}, {Kind: api.NdCall, Fn: 1, N: 1, V: v},
	} {
		l := append(read("5 5"), n)
		if e := tree.Check(l); e != api.ErrArg {
			t.Error("Check of", n, e)
		}
	}
	for _, fn := range []uint8{0, 51, 255} {
		if e := tree.Check(api.Tree{{Kind: api.NdCall, Fn: fn, N: 5}}); e != api.ErrName {
			t.Error("Check of the function", fn, e)
		}
	}
}

// P8.2
func TestParts(t *testing.T) {
	x := read("A1:B2 5 SUM/2 2 neg * 1 +")
	if d, e := tree.Depth(x); d != 4 || e != api.OK {
		t.Error("Depth", d, e)
	}
	for i, want := range [][]int{nil, nil, {0, 1}, nil, {3}, {2, 4}, nil, {5, 6}} {
		if l, e := tree.Kids(x, i); !slices.Equal(l, want) || e != api.OK {
			t.Error("Kids", i, l, e)
		}
	}
	for i, want := range []string{"A1:B2", "5", "A1:B2 5 SUM/2", "2", "2 neg", "A1:B2 5 SUM/2 2 neg *", "1", "A1:B2 5 SUM/2 2 neg * 1 +"} {
		sub, e := tree.Sub(x, i)
		if !tree.Equal(sub, read(want)) || e != api.OK {
			t.Error("Sub", i, sub, e)
		}
		sub[0] = node("7")
	}
	if !tree.Equal(x, read("A1:B2 5 SUM/2 2 neg * 1 +")) {
		t.Error("Sub shares memory with the tree")
	}
	for _, i := range []int{-1, 8, math.MaxInt, math.MinInt} {
		if l, e := tree.Kids(x, i); l != nil || e != api.ErrRange {
			t.Error("Kids", i, l, e)
		}
		if l, e := tree.Sub(x, i); l != nil || e != api.ErrRange {
			t.Error("Sub", i, l, e)
		}
	}
	bad := read("5 6")
	if d, e := tree.Depth(bad); d != 0 || e != api.ErrForm {
		t.Error("Depth", d, e)
	}
	if l, e := tree.Kids(bad, 9); l != nil || e != api.ErrForm {
		t.Error("Kids", l, e)
	}
	if l, e := tree.Sub(bad, 0); l != nil || e != api.ErrForm {
		t.Error("Sub", l, e)
	}
}

// P8.3
func TestJoin(t *testing.T) {
	x, e := tree.Join(node("SUM/2"), read("A1:B2"), read("1 2 +"))
	if !tree.Equal(x, read("A1:B2 1 2 + SUM/2")) || e != api.OK {
		t.Error("Join", x, e)
	}
	if x, e := tree.Join(node("5")); !tree.Equal(x, read("5")) || e != api.OK {
		t.Error("Join", x, e)
	}
	invalid := api.Tree{{Kind: api.NdRange}}
	for _, c := range []struct {
		root string
		l    []api.Tree
		want api.Errno
	}{
		{"+", []api.Tree{read("1"), read("A1:B2")}, api.ErrForm},
		{"+", []api.Tree{read("1"), invalid}, api.ErrArg},
		{"SUM/1", []api.Tree{invalid, read("FOO/1")}, api.ErrArg},
		{"SUM/1", []api.Tree{read("FOO/1"), invalid}, api.ErrName},
		{"SUM/2", []api.Tree{read("1")}, api.ErrForm},
		{"SUM/1", []api.Tree{read("1"), read("2")}, api.ErrForm},
		{"SUM/17", []api.Tree{read("1")}, api.ErrCount},
		{"SUM/1", []api.Tree{read("A1:B2 A1:B2 +")}, api.ErrForm},
		{"SUM/1", []api.Tree{nil}, api.ErrForm},
		{"neg", []api.Tree{read("5" + strings.Repeat(" neg", 31))}, api.ErrDepth},
		{"5", []api.Tree{read("5")}, api.ErrForm},
		{"A1:B2", nil, api.ErrForm},
	} {
		if x, e := tree.Join(node(c.root), c.l...); x != nil || e != c.want {
			t.Error("Join", c.root, c.l, x, e)
		}
	}
	wide := make([]api.Tree, 16)
	for i := range wide {
		wide[i] = read("1" + strings.Repeat(" 1 SUM/2", 8))
	}
	if x, e := tree.Join(node("SUM/16"), wide...); x != nil || e != api.ErrLong {
		t.Error("Join of many nodes:", len(x), e)
	}
}

// P8.4
func TestEqual(t *testing.T) {
	a := read("A1 5 +")
	for _, s := range []string{"", "A1 5", "A1 5 -", "A2 5 +", "A1 6 +", "A1 5 + neg"} {
		if tree.Equal(a, read(s)) || tree.Equal(read(s), a) {
			t.Error("Equal", s)
		}
	}
	if !tree.Equal(a, read("A1 5 +")) || !tree.Equal(nil, api.Tree{}) || !tree.Equal(read("+ +"), read("+ +")) {
		t.Error("Equal")
	}
}

// table is the table of the chapter: names, least and greatest number of arguments, first wide argument and the one behind the last.
const table = `
ABS SIGN INT TRUNC SQRT NOT ISERROR ISBLANK ISNUMBER ISTEXT LEN UPPER LOWER TRIM VALUE: 1 1 0 0
ROUND MOD POWER IFERROR REPT EXACT: 2 2 0 0
IF FIND: 2 3 0 0
LEFT RIGHT: 1 2 0 0
MID: 3 3 0 0
AND OR XOR CONCAT: 1 16 0 0
CHOOSE: 2 16 0 0
SUM PRODUCT COUNT COUNTA AVERAGE MIN MAX MEDIAN: 1 16 0 16
COUNTBLANK: 1 1 0 1
LARGE SMALL COUNTIF: 2 2 0 1
INDEX: 2 3 0 1
MATCH: 2 2 1 2
DSUM DCOUNT DAVG DMIN DMAX: 1 1 0 1`

// P8.5, P8.8
func TestFunctions(t *testing.T) {
	found := map[uint8]bool{}
	for _, line := range strings.Split(strings.TrimSpace(table), "\n") {
		words, numbers, _ := strings.Cut(line, ":")
		var n [4]int
		for i, w := range strings.Fields(numbers) {
			n[i], _ = strconv.Atoi(w)
		}
		for _, w := range strings.Fields(words) {
			fn, e := tree.Function(w)
			if e != api.OK {
				t.Error("Function", w, e)
			}
			found[fn] = true
			if s, e := tree.Name(fn); s != w || e != api.OK {
				t.Error("Name", w, s, e)
			}
			if least, most, e := tree.Arity(fn); least != n[0] || most != n[1] || e != api.OK {
				t.Error("Arity", w, least, most, e)
			}
			for i := -2; i < 20; i++ {
				wide, e := tree.Wide(fn, i)
				if in := i >= 0 && i < n[1]; in && (wide != (n[2] <= i && i < n[3]) || e != api.OK) || !in && (wide || e != api.ErrRange) {
					t.Error("Wide", w, i, wide, e)
				}
			}
		}
	}
	if len(found) != int(api.Fns) {
		t.Error("functions:", len(found))
	}
	for _, x := range []struct {
		fn   uint8
		name string
	}{{api.FnAbs, "ABS"}, {api.FnSqrt, "SQRT"}, {api.FnSum, "SUM"}, {api.FnCountBlank, "COUNTBLANK"}, {api.FnIf, "IF"}, {api.FnChoose, "CHOOSE"}, {api.FnLen, "LEN"}, {api.FnValue, "VALUE"}, {api.FnIndex, "INDEX"}, {api.FnCountIf, "COUNTIF"}, {api.FnDSum, "DSUM"}, {api.FnDMax, "DMAX"}} {
		if s, _ := tree.Name(x.fn); s != x.name {
			t.Error("Name", x, s)
		}
	}
	for _, fn := range []uint8{0, 51, 255} {
		if s, e := tree.Name(fn); s != "" || e != api.ErrName {
			t.Error("Name", fn, s, e)
		}
		if a, b, e := tree.Arity(fn); a != 0 || b != 0 || e != api.ErrName {
			t.Error("Arity", fn, a, b, e)
		}
		if w, e := tree.Wide(fn, -1); w || e != api.ErrName {
			t.Error("Wide", fn, w, e)
		}
	}
	for _, s := range []string{"", "sum", "Sum", "SUMS", "SU", " SUM", "TRUE"} {
		if fn, e := tree.Function(s); fn != 0 || e != api.ErrNone {
			t.Error("Function", s, fn, e)
		}
	}
}

// random returns a tree of at most some depth.
func random(r *rand.Rand, depth int) api.Tree {
	if depth <= 1 || r.Intn(4) == 0 {
		return read([]string{"1", "A1", "C7"}[r.Intn(3)])
	}
	switch r.Intn(4) {
	case 0:
		t, _ := tree.Join(node([]string{"neg", "pct"}[r.Intn(2)]), random(r, depth-1))
		return t
	case 1:
		t, _ := tree.Join(node("-"), random(r, depth-1), random(r, depth-1))
		return t
	}
	fn := uint8(1 + r.Intn(int(api.Fns)))
	least, most, _ := tree.Arity(fn)
	l := make([]api.Tree, least+r.Intn(min(most, 4)-least+1))
	for i := range l {
		l[i] = random(r, depth-1)
		wide, _ := tree.Wide(fn, i)
		if fn >= api.FnDSum || wide && r.Intn(2) == 0 {
			l[i] = read("A1:B2")
		}
	}
	t, _ := tree.Join(api.Node{Kind: api.NdCall, Fn: fn, N: len(l)}, l...)
	return t
}

// P8.6, P8.7
func TestLaws(t *testing.T) {
	r := rand.New(rand.NewSource(1))
	for range 3000 {
		x := random(r, 5)
		if len(x) == 0 {
			continue
		}
		parents := make([]int, len(x))
		for i := range x {
			kids, e := tree.Kids(x, i)
			if e != api.OK || !slices.IsSorted(kids) || len(kids) > 0 && kids[len(kids)-1] != i-1 {
				t.Fatal("Kids", x, i, kids, e)
			}
			var below []api.Tree
			for _, k := range kids {
				parents[k]++
				sub, _ := tree.Sub(x, k)
				below = append(below, sub)
			}
			sub, _ := tree.Sub(x, i)
			if x[i].Kind == api.NdRange {
				continue
			}
			whole, _ := tree.Depth(x)
			if d, e := tree.Depth(sub); e != api.OK || d > whole {
				t.Fatal("Sub", x, i, sub, e)
			}
			if y, e := tree.Join(x[i], below...); e != api.OK || !tree.Equal(y, sub) {
				t.Fatal("Join", x, i, y, e)
			}
		}
		for i, n := range parents {
			if (n != 1) != (i == len(x)-1) {
				t.Fatal("Kids has the node", i, n, "times:", x)
			}
		}
	}
}
