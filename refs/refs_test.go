package refs_test

import (
	"math"
	"math/rand"
	"slices"
	"strings"
	"testing"

	"louvre/api"
	"louvre/parse"
	"louvre/rect"
	"louvre/refs"
	"louvre/show"
	"louvre/tree"
)

func formula(t *testing.T, s string) api.Tree {
	t.Helper()
	x, _, e := parse.Formula(s)
	if e != api.OK {
		t.Fatal(s, e)
	}
	return x
}

func use(s string, node int, fn uint8) api.Use {
	r, _ := rect.Parse(s)
	return api.Use{Rect: r, Node: node, Fn: fn}
}

// P12.1
func TestUses(t *testing.T) {
	for s, want := range map[string][]api.Use{
		"A1+DSUM(A1:B2)":           {use("A1", -1, 0), use("A1:B2", 2, api.FnDSum)},
		"1+2":                      nil,
		"A1+A1*A1":                 {use("A1", -1, 0), use("A1", -1, 0), use("A1", -1, 0)},
		"SUM(A1:B2,C3,DMAX(C3))":   {use("A1:B2", -1, 0), use("C3", -1, 0), use("C3", 3, api.FnDMax)},
		"DCOUNT(A1)+DAVG(B1:B9)":   {use("A1", 1, api.FnDCount), use("B1:B9", 3, api.FnDAvg)},
		"IFERROR(DMIN(A1:A2),A3)":  {use("A1:A2", 1, api.FnDMin), use("A3", -1, 0)},
		"MATCH(A1,B1:B3)":          {use("A1", -1, 0), use("B1:B3", -1, 0)},
		"-COUNTIF(A1:A9,DSUM(A1))": {use("A1:A9", -1, 0), use("A1", 2, api.FnDSum)},
		"A1":                       {use("A1", -1, 0)},
	} {
		x := formula(t, s)
		l, e := refs.Uses(x)
		if !slices.Equal(l, want) || e != api.OK {
			t.Error("Uses", s, l, e)
		}
		var calls []api.Use
		for _, u := range want {
			if u.Node != -1 {
				calls = append(calls, u)
			}
		}
		if l, e := refs.Calls(x); !slices.Equal(l, calls) || e != api.OK {
			t.Error("Calls", s, l, e)
		}
	}
}

// P12.2
func TestTouches(t *testing.T) {
	x := formula(t, "A1+DSUM(A1:B2)+MAX(F6:F8)")
	for s, want := range map[string]bool{"B2:C3": true, "C1": false, "A1": true, "C3:E9": false, "F8:G9": true, "A1:AMJ1024": true, "F9": false, "B1": true} {
		r, _ := rect.Parse(s)
		if got, e := refs.Touches(x, r); got != want || e != api.OK {
			t.Error("Touches", s, got, e)
		}
	}
	for _, r := range []api.Rect{{}, {C1: 2, R1: 1, C2: 1, R2: 1}, {C1: 1, R1: 1, C2: 1, R2: 1025}} {
		if got, e := refs.Touches(x, r); got || e != api.ErrRange {
			t.Error("Touches", r, got, e)
		}
	}
}

// All functions return the error of tree.Check first.
func TestFaults(t *testing.T) {
	for _, x := range []api.Tree{nil, {{Kind: api.NdNeg}}, {{Kind: 9}}, {{Kind: api.NdCall}}, {{Kind: api.NdRange, Rect: api.Rect{C1: 1, R1: 1, C2: 2, R2: 1}}}, make(api.Tree, 257)} {
		want := tree.Check(x)
		if l, e := refs.Uses(x); l != nil || e != want {
			t.Error("Uses", x, l, e)
		}
		if l, e := refs.Calls(x); l != nil || e != want {
			t.Error("Calls", x, l, e)
		}
		if got, e := refs.Touches(x, api.Rect{}); got || e != want {
			t.Error("Touches", x, got, e)
		}
		if y, e := refs.Move(x, 5000, 0); y != nil || e != want {
			t.Error("Move", x, y, e)
		}
	}
}

// P12.3
func TestMove(t *testing.T) {
	x := formula(t, "A1+DSUM(A1:B2)")
	for _, c := range []struct {
		cols, rows int
		want       string
		e          api.Errno
	}{
		{1, 2, "B3+DSUM(B3:C4)", api.OK}, {0, 0, "A1+DSUM(A1:B2)", api.OK}, {1022, 1022, "AMI1023+DSUM(AMI1023:AMJ1024)", api.OK},
		{-1, 0, "", api.ErrRange}, {0, -1, "", api.ErrRange}, {1023, 0, "", api.ErrRange}, {0, 1023, "", api.ErrRange}, {math.MaxInt, 0, "", api.ErrRange}, {math.MinInt, 0, "", api.ErrRange}, {0, math.MaxInt, "", api.ErrRange}, {0, math.MinInt, "", api.ErrRange},
	} {
		y, e := refs.Move(x, c.cols, c.rows)
		s, _ := show.Formula(y)
		if s != c.want || e != c.e || e != api.OK && y != nil {
			t.Error("Move", c, s, e)
		}
	}
	if s, _ := show.Formula(x); s != "A1+DSUM(A1:B2)" {
		t.Error("Move changes its argument:", s)
	}
	if y, e := refs.Move(formula(t, "1+2"), math.MaxInt, math.MinInt); len(y) != 3 || e != api.OK {
		t.Error("Move of a tree without addresses:", y, e)
	}
}

// P12.4, P12.5, P12.6
func TestLaws(t *testing.T) {
	r := rand.New(rand.NewSource(1))
	pieces := []string{"C5", "D6", "SUM(C5:D7,E9)", "DSUM(E5:E8)", "-DCOUNT(F9)", "7", "IF(C5,DMAX(D8:F9),1)"}
	for range 3000 {
		var words []string
		for range 1 + r.Intn(4) {
			words = append(words, pieces[r.Intn(len(pieces))])
		}
		x := formula(t, strings.Join(words, "+"))
		uses, _ := refs.Uses(x)
		kids, _ := tree.Kids(x, len(x)-1)
		var below []api.Use
		for _, k := range kids {
			sub, _ := tree.Sub(x, k)
			l, e := refs.Uses(sub)
			if e != api.OK {
				below = uses // a range alone is no tree
				break
			}
			for _, u := range l {
				if u.Node >= 0 {
					u.Node += k + 1 - len(sub)
				}
				below = append(below, u)
			}
		}
		if len(kids) > 0 && x[len(x)-1].Fn < api.FnDSum && !slices.Equal(below, uses) {
			t.Fatal("Uses of the trees below the root:", words, below, uses)
		}
		a, b, c, d := r.Intn(9)-4, r.Intn(9)-4, r.Intn(9)-4, r.Intn(9)-4
		once, e := refs.Move(x, a, b)
		twice, f := refs.Move(once, c, d)
		sum, g := refs.Move(x, a+c, b+d)
		if e == api.OK && f == api.OK && (g != api.OK || !tree.Equal(twice, sum)) {
			t.Fatal("moving twice:", words, a, b, c, d)
		}
		if back, _ := refs.Move(once, -a, -b); e == api.OK && !tree.Equal(back, x) {
			t.Fatal("moving back:", words, a, b)
		}
		moved, _ := refs.Uses(once)
		for i, u := range moved {
			u.Rect.C1, u.Rect.C2, u.Rect.R1, u.Rect.R2 = u.Rect.C1-a, u.Rect.C2-a, u.Rect.R1-b, u.Rect.R2-b
			if u != uses[i] {
				t.Fatal("the uses of the moved tree:", words, a, b)
			}
		}
		part := api.Rect{C1: 1 + r.Intn(4), R1: 1 + r.Intn(8)}
		part.C2, part.R2 = part.C1+r.Intn(4), part.R1+r.Intn(3)
		want := false
		l, _ := rect.Refs(part)
		for _, at := range l {
			one, _ := refs.Touches(x, rect.One(at))
			want = want || one
		}
		if got, _ := refs.Touches(x, part); got != want {
			t.Fatal("Touches", words, part, got)
		}
	}
}
