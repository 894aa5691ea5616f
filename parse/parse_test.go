package parse_test

import (
	"math/rand"
	"strconv"
	"strings"
	"testing"

	"louvre/api"
	"louvre/dec"
	"louvre/lex"
	"louvre/parse"
	"louvre/rect"
	"louvre/tree"
)

var operators = map[int64]string{api.Add: "+", api.Sub: "-", api.Mul: "*", api.Quo: "/", api.Pow: "^", api.Cat: "&", api.Eq: "=", api.Ne: "<>", api.Lt: "<", api.Le: "<=", api.Gt: ">", api.Ge: ">="}

// write writes a tree as chapter 8 does.
func write(t api.Tree) string {
	var l []string
	for _, n := range t {
		switch n.Kind {
		case api.NdValue:
			switch n.V.Kind {
			case api.Number:
				l = append(l, dec.Format(n.V.Num))
			case api.Text:
				l = append(l, strconv.Quote(n.V.Text))
			case api.Bool:
				l = append(l, strconv.FormatBool(n.V.Num == 1))
			default:
				l = append(l, "#"+strconv.Itoa(int(n.V.Num)))
			}
		case api.NdRef, api.NdRange:
			s, _ := rect.Format(n.Rect)
			l = append(l, s)
		case api.NdNeg:
			l = append(l, "neg")
		case api.NdPct:
			l = append(l, "pct")
		case api.NdBinary:
			l = append(l, operators[n.Op])
		case api.NdCall:
			s, _ := tree.Name(n.Fn)
			l = append(l, s+"/"+strconv.Itoa(n.N))
		}
	}
	return strings.Join(l, " ")
}

// P9.1: what is accepted.
func TestFormula(t *testing.T) {
	for s, want := range map[string]string{
		"1+2*3": "1 2 3 * +", "(1+2)*3": "1 2 + 3 *", "1-2-3": "1 2 - 3 -", "8/4/2*3": "8 4 / 2 / 3 *", "1-(2-3)": "1 2 3 - -",
		"-2^2": "2 2 ^ neg", "2^-1": "2 1 neg ^", "2^3^2": "2 3 2 ^ ^", "5%%": "5 pct pct", "2^3%": "2 3 pct ^", "2%^3": "2 pct 3 ^", "--2": "2 neg neg", "2^-3^2": "2 3 2 ^ neg ^", "-2%": "2 pct neg", "(-2)%": "2 neg pct",
		"2*-3": "2 3 neg *", "2*-3^2*4": "2 3 2 ^ neg * 4 *", "-2*3": "2 neg 3 *", "-A1+B1": "A1 neg B1 +", "1--1": "1 1 neg -",
		"A1=B1&C1": "A1 B1 C1 & =", "1<2=TRUE": "1 2 < true =", "1&2+3": "1 2 3 + &", "1+2&3": "1 2 + 3 &", "1>=2<>3<=4": "1 2 >= 3 <> 4 <=", "\"a\"&\"b\"&\"c\"": `"a" "b" & "c" &`,
		"if(A1>0,\"x\")": "A1 0 > \"x\" IF/2", "SUM(A1:B2,A1)": "A1:B2 A1 SUM/2", "sum( a1 , b2:A1 )": "A1 A1:B2 SUM/2", "#N/A": "#4", "IF(TRUE,#div/0!,false)": "true #1 false IF/3",
		"DSUM(A1)": "A1 DSUM/1", "DSUM((A1))": "A1 DSUM/1", "DMAX(B2:A1)": "A1:B2 DMAX/1", "((((1))))": "1", "SUM((1),(A1))": "1 A1 SUM/2", "INDEX(A1:B2,1,2)": "A1:B2 1 2 INDEX/3", "MATCH(1,A1:B2)": "1 A1:B2 MATCH/2", "CHOOSE(1,2)": "1 2 CHOOSE/2",
		"SUM(DSUM(A1:A2),-MAX(1,2))": "A1:A2 DSUM/1 1 2 MAX/2 neg SUM/2", "1.50": "1.5", "  1  ": "1",
		"SUM(1,2,3,4,5,6,7,8,9,10,11,12,13,14,15,16)": "1 2 3 4 5 6 7 8 9 10 11 12 13 14 15 16 SUM/16",
	} {
		x, at, e := parse.Formula(s)
		if write(x) != want || at != 0 || e != api.OK {
			t.Errorf("Formula(%q): %s, %d, %d; want %s", s, write(x), at, e, want)
		}
	}
}

// P9.1: faults.
func TestFaults(t *testing.T) {
	for s, want := range map[string]struct {
		at int
		e  api.Errno
	}{
		"": {0, api.ErrForm}, "   ": {3, api.ErrForm}, "SUM(A1:B2+1)": {9, api.ErrForm}, "SUM((A1:B2))": {5, api.ErrForm}, "A1:B2": {0, api.ErrForm}, "ABS(A1:B2)": {4, api.ErrForm}, "1+": {2, api.ErrForm}, "1 2": {2, api.ErrForm}, "(1": {2, api.ErrForm}, "(1 ": {3, api.ErrForm},
		"FOO(1)": {0, api.ErrName}, "ABS()": {0, api.ErrCount}, "1+ABS(1,2)": {2, api.ErrCount}, "DSUM(1)": {0, api.ErrForm}, "DSUM(A1,A2)": {0, api.ErrCount}, "DSUM(A1+1)": {0, api.ErrForm}, "DSUM()": {0, api.ErrCount}, " DSUM(-A1)": {1, api.ErrForm}, "DSUM(A1:B2": {10, api.ErrForm},
		"1)": {1, api.ErrForm}, ")": {0, api.ErrForm}, "()": {1, api.ErrForm}, ",": {0, api.ErrForm}, "1,2": {1, api.ErrForm}, "SUM(,1)": {4, api.ErrForm}, "SUM(1,)": {6, api.ErrForm}, "SUM(1,,2)": {6, api.ErrForm}, "SUM(1 2)": {6, api.ErrForm}, "SUM(": {4, api.ErrForm}, "SUM(1": {5, api.ErrForm}, "SUM(1,": {6, api.ErrForm},
		"+1": {0, api.ErrForm}, "1++1": {2, api.ErrForm}, "*": {0, api.ErrForm}, "%": {0, api.ErrForm}, "1*": {2, api.ErrForm}, "-": {1, api.ErrForm}, "2^": {2, api.ErrForm}, "1=": {2, api.ErrForm}, "1<>=2": {3, api.ErrForm}, "5%5": {2, api.ErrForm}, "1(": {1, api.ErrForm}, "A1 B1": {3, api.ErrForm}, "2^*2": {2, api.ErrForm},
		"MATCH(A1:B2,1)": {6, api.ErrForm}, "MATCH(1,A1:B2,A1:B2)": {14, api.ErrForm}, "COUNTIF(A1:B2,A1:B2)": {14, api.ErrForm}, "IF(1)": {0, api.ErrCount}, "IF(1,2,3,4)": {0, api.ErrCount}, "SUM(A1:B2 A1)": {10, api.ErrForm}, "SUM(A1:B2%)": {9, api.ErrForm}, "SUM(-A1:B2)": {5, api.ErrForm}, "A1:B2+1": {0, api.ErrForm}, "1+A1:B2": {2, api.ErrForm},
		"SUM(1,2,3,4,5,6,7,8,9,10,11,12,13,14,15,16,17)": {0, api.ErrCount}, "SUM(1,2,3,4,5,6,7,8,9,10,11,12,13,14,15,16,A1:A2)": {43, api.ErrForm}, "FOO(": {0, api.ErrName}, "1 FOO(2)": {2, api.ErrForm}, "ABS(FOO(1)": {4, api.ErrName}, "ABS(1,FOO(1))": {6, api.ErrName},
		"1+FOO": {2, api.ErrForm}, "1+\t": {2, api.ErrForm}, "1)+#X": {3, api.ErrForm}, "TRUE()": {0, api.ErrName}, "A1()": {0, api.ErrName}, "NOT(TRUE": {8, api.ErrForm},
	} {
		if x, at, e := parse.Formula(s); x != nil || at != want.at || e != want.e {
			t.Errorf("Formula(%q): %v, %d, %d; want %v", s, x, at, e, want)
		}
	}
	if x, at, e := parse.Formula(strings.Repeat("1", 257)); x != nil || at != 0 || e != api.ErrLong {
		t.Error("Formula of 257 bytes:", x, at, e)
	}
	for n, want := range map[int]api.Errno{31: api.OK, 32: api.ErrDepth, 200: api.ErrDepth} {
		for _, s := range []string{strings.Repeat("-", n) + "1", "1" + strings.Repeat("%", n), strings.Repeat("1&", min(n, 127)) + "1"} {
			x, at, e := parse.Formula(s)
			if e != want || at != 0 || (x != nil) != (e == api.OK) {
				t.Error("Formula of depth", n+1, at, e)
			}
		}
	}
	if x, at, e := parse.Formula(strings.Repeat("(", 127) + "1" + strings.Repeat(")", 127)); len(x) != 1 || at != 0 || e != api.OK {
		t.Error("Formula with many parentheses:", x, at, e)
	}
	if x, at, e := parse.Formula(strings.Repeat("(", 256)); x != nil || at != 256 || e != api.ErrForm {
		t.Error("Formula of parentheses:", x, at, e)
	}
}

// P9.2
func TestBinds(t *testing.T) {
	for op, want := range map[int64]int{api.Add: 3, api.Sub: 3, api.Mul: 4, api.Quo: 4, api.Pow: 6, api.Cat: 2, api.Eq: 1, api.Ne: 1, api.Lt: 1, api.Le: 1, api.Gt: 1, api.Ge: 1, api.Percent: 7} {
		if s, right, e := parse.Binds(op); s != want || right != (op == api.Pow) || e != api.OK {
			t.Error("Binds", op, s, right, e)
		}
	}
	for _, op := range []int64{0, 14, -1, 1 << 62, -1 << 63} {
		if s, right, e := parse.Binds(op); s != 0 || right || e != api.ErrArg {
			t.Error("Binds", op, s, right, e)
		}
	}
}

// grammar is a second parser, which follows the grammar of the chapter line by line.
type grammar struct {
	l   []api.Token
	out api.Tree
	at  int
	e   api.Errno
}

func (g *grammar) fail(t api.Token, e api.Errno) {
	if g.e == api.OK {
		g.at, g.e = t.At, e
	}
	g.l = g.l[len(g.l)-1:]
}

func (g *grammar) op(ops ...int64) bool {
	for _, op := range ops {
		if g.l[0].Kind == api.TkOp && g.l[0].Num == op {
			return true
		}
	}
	return false
}

func (g *grammar) left(operand func(), ops ...int64) {
	operand()
	for g.op(ops...) {
		op := g.l[0].Num
		g.l = g.l[1:]
		operand()
		g.out = append(g.out, api.Node{Kind: api.NdBinary, Op: op})
	}
}

func (g *grammar) formula() {
	g.left(g.concat, api.Eq, api.Ne, api.Lt, api.Le, api.Gt, api.Ge)
}
func (g *grammar) concat()  { g.left(g.sum, api.Cat) }
func (g *grammar) sum()     { g.left(g.product, api.Add, api.Sub) }
func (g *grammar) product() { g.left(g.sign, api.Mul, api.Quo) }

func (g *grammar) sign() {
	if !g.op(api.Sub) {
		g.power()
		return
	}
	g.l = g.l[1:]
	g.sign()
	g.out = append(g.out, api.Node{Kind: api.NdNeg})
}

func (g *grammar) power() {
	g.primary()
	for g.op(api.Percent) {
		g.l = g.l[1:]
		g.out = append(g.out, api.Node{Kind: api.NdPct})
	}
	if g.op(api.Pow) {
		g.l = g.l[1:]
		g.sign()
		g.out = append(g.out, api.Node{Kind: api.NdBinary, Op: api.Pow})
	}
}

func (g *grammar) skip(kind uint8) {
	if g.l[0].Kind != kind {
		g.fail(g.l[0], api.ErrForm)
		return
	}
	g.l = g.l[1:]
}

func (g *grammar) primary() {
	t := g.l[0]
	kinds := map[uint8]uint8{api.TkNumber: api.Number, api.TkText: api.Text, api.TkBool: api.Bool, api.TkError: api.Error}
	switch {
	case kinds[t.Kind] != 0:
		g.out = append(g.out, api.Node{Kind: api.NdValue, V: api.Value{Kind: kinds[t.Kind], Num: t.Num, Text: t.Text}})
		g.l = g.l[1:]
	case t.Kind == api.TkRef:
		g.out = append(g.out, api.Node{Kind: api.NdRef, Rect: t.Rect})
		g.l = g.l[1:]
	case t.Kind == api.TkOpen:
		g.l = g.l[1:]
		g.formula()
		g.skip(api.TkClose)
	case t.Kind == api.TkName:
		g.call(t)
	default:
		g.fail(t, api.ErrForm)
	}
}

func (g *grammar) call(t api.Token) {
	fn, e := tree.Function(t.Text)
	if e != api.OK {
		g.fail(t, api.ErrName)
		return
	}
	g.l = g.l[2:]
	n := 0
	if g.l[0].Kind != api.TkClose {
		g.argument(fn, 0)
		for n = 1; g.l[0].Kind == api.TkComma; n++ {
			g.l = g.l[1:]
			g.argument(fn, n)
		}
	}
	if g.l[0].Kind == api.TkClose {
		least, most, _ := tree.Arity(fn)
		if n < least || n > most {
			g.fail(t, api.ErrCount)
		} else if k := g.out[len(g.out)-1].Kind; fn >= api.FnDSum && k != api.NdRef && k != api.NdRange {
			g.fail(t, api.ErrForm)
		}
	}
	g.skip(api.TkClose)
	g.out = append(g.out, api.Node{Kind: api.NdCall, Fn: fn, N: n})
}

func (g *grammar) argument(fn uint8, i int) {
	if g.l[0].Kind != api.TkRange {
		g.formula()
		return
	}
	if wide, _ := tree.Wide(fn, i); !wide {
		g.fail(g.l[0], api.ErrForm)
		return
	}
	g.out = append(g.out, api.Node{Kind: api.NdRange, Rect: g.l[0].Rect})
	g.l = g.l[1:]
}

var pieces = []string{"1", "2.5", "\"a\"", "TRUE ", "#N/A", "A1 ", "B2 ", "A1:B2 ", "SUM(", "IF(", "ABS(", "DSUM(", "MATCH(", "FOO(", "+", "-", "-", "*", "^", "&", "=", "<>", "%", ")", ")", ")", ",", ",", "("}

// formula returns a random formula, mostly an accepted one.
func formula(r *rand.Rand, depth int) string {
	if depth == 0 {
		return pieces[r.Intn(7)]
	}
	a, b := formula(r, depth-1), formula(r, r.Intn(depth))
	switch r.Intn(9) {
	case 0:
		return "-" + a
	case 1:
		return a + "%"
	case 2:
		return "( " + a + ")"
	case 3:
		return "SUM(" + a + "," + b + ",A1:B3)"
	case 4:
		return "if(" + b + "," + a + ")"
	case 5:
		return "DSUM(B2:B1)" + "+" + a
	}
	return a + []string{"+", "-", "*", "/", "^", "&", "=", "<", ">="}[r.Intn(9)] + b
}

// P9.1, P9.3: both parsers agree, also about faults.
func TestGrammar(t *testing.T) {
	r := rand.New(rand.NewSource(1))
	accepted := 0
	for i := range 60000 {
		s := ""
		if i%2 == 0 {
			s = formula(r, r.Intn(5))
			if r.Intn(3) == 0 {
				k := r.Intn(len(s) + 1)
				s = s[:k] + pieces[r.Intn(len(pieces))] + s[k:]
			}
		} else {
			for range r.Intn(9) {
				s += pieces[r.Intn(len(pieces))]
			}
		}
		x, at, e := parse.Formula(s)
		l, _, f := lex.Tokens(s)
		if f != api.OK {
			continue
		}
		g := &grammar{l: append(l, api.Token{At: len(s)})}
		g.formula()
		g.skip(0)
		if g.e == api.OK && tree.Check(g.out) == api.ErrDepth {
			g.at, g.e = 0, api.ErrDepth
		}
		if g.e != e || g.at != at || e == api.OK && !tree.Equal(x, g.out) {
			t.Fatalf("Formula(%q): %s, %d, %d; want %s, %d, %d", s, write(x), at, e, write(g.out), g.at, g.e)
		}
		if e == api.OK {
			accepted++
			if f := tree.Check(x); f != api.OK {
				t.Fatal("Check of Formula", s, f)
			}
			checkBeginnings(t, s, l)
		}
	}
	if accepted < 5000 {
		t.Error("only", accepted, "formulas are accepted")
	}
}

// checkBeginnings checks P9.5 for an accepted formula.
func checkBeginnings(t *testing.T, s string, l []api.Token) {
	for i, x := range l {
		if i > 0 && l[i-1].Kind != api.TkName {
			if _, at, e := parse.Formula(s[:x.At]); e != api.OK && at < x.At && e != api.ErrDepth {
				t.Fatalf("the beginning %q of %q has a fault: %d, %d", s[:x.At], s, at, e)
			}
		}
	}
}

// P9.4
func TestSame(t *testing.T) {
	r := rand.New(rand.NewSource(2))
	for range 5000 {
		s := formula(r, r.Intn(4))
		x, _, e := parse.Formula(s)
		if e != api.OK {
			continue
		}
		for _, other := range []string{"(" + s + ")", strings.ToLower(s), "  " + strings.ReplaceAll(s, ",", " , ") + " ", "((" + s + " ) )"} {
			if strings.Contains(s, "\"") && other == strings.ToLower(s) {
				other = s
			}
			y, _, e := parse.Formula(other)
			if len(other) <= api.MaxInput && (e != api.OK || !tree.Equal(x, y)) {
				t.Fatal("Formula", s, "and", other)
			}
		}
	}
}
