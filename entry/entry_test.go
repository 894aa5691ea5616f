package entry_test

import (
	"math"
	"math/rand"
	"strings"
	"testing"

	"louvre/api"
	"louvre/entry"
	"louvre/parse"
	"louvre/tree"
	"louvre/val"
)

func text(s string) api.Value { return api.Value{Kind: api.Text, Text: s} }

// P11.1: constants.
func TestConstants(t *testing.T) {
	for s, want := range map[string]api.Value{
		"": {}, "'=A1": text("=A1"), "'": text(""), "''": text("'"), "'5": text("5"), "true": val.Truth(true), "FALSE": val.Truth(false), "tRuE": val.Truth(true), " TRUE": text(" TRUE"), "'TRUE": text("TRUE"),
		"#n/a": val.Fail(api.NA), "#DIV/0!": val.Fail(api.Div), "#value!": val.Fail(api.Val), "#NUM!": val.Fail(api.Num), "#ref!": val.Fail(api.Bad), "#DENIED": text("#DENIED"), "#CYCLE!": text("#CYCLE!"), "#cycle!": text("#cycle!"), "#N/A ": text("#N/A "), "#": text("#"),
		"1.50": val.Make(1_5000), "-5": val.Make(-5_0000), "-0": val.Make(0), "007": val.Make(7_0000), "0.00005": val.Make(1), " 5": text(" 5"), "5 ": text("5 "), "1.": text("1."), ".5": text(".5"), "+1": text("+1"), "-": text("-"), "1e3": text("1e3"), "1,5": text("1,5"),
		"99999999999999999999": val.Fail(api.Num), "-99999999999999999999.5": val.Fail(api.Num), "922337203685477.5807": val.Make(math.MaxInt64), "922337203685477.5808": val.Fail(api.Num),
		"a": text("a"), " ": text(" "), "A1+1": text("A1+1"), " =1": text(" =1"), "\"x\"": text("\"x\""), strings.Repeat("~", 256): text(strings.Repeat("~", 256)), strings.Repeat("9", 256): val.Fail(api.Num),
	} {
		if m, at, e := entry.Of(s); m.Formula || m.Tree != nil || m.V != want || at != 0 || e != api.OK {
			t.Errorf("Of(%q): %v, %d, %d", s, m, at, e)
		}
	}
}

// P11.1: formulas and faults.
func TestFormulas(t *testing.T) {
	for _, s := range []string{"A1+1", " sum( a1 , b2:A1 )", "\"=\"", "1"} {
		m, at, e := entry.Of("=" + s)
		x, _, _ := parse.Formula(s)
		if !m.Formula || !tree.Equal(m.Tree, x) || len(x) == 0 || m.V != (api.Value{}) || at != 0 || e != api.OK {
			t.Errorf("Of(=%s): %v, %d, %d", s, m, at, e)
		}
	}
	for s, want := range map[string]struct {
		at int
		e  api.Errno
	}{
		"=1+": {3, api.ErrForm}, "=": {1, api.ErrForm}, "=FOO(1)": {1, api.ErrName}, "\t": {0, api.ErrForm}, "ab\x7f": {2, api.ErrForm}, "'é": {1, api.ErrForm}, "=1+\n": {3, api.ErrForm}, "=FOO(\x00)": {5, api.ErrForm}, "==1": {1, api.ErrForm}, "=ABS()": {1, api.ErrCount}, "= ABS()": {2, api.ErrCount},
		"=" + strings.Repeat("-", 40) + "1": {1, api.ErrDepth}, strings.Repeat("x", 257): {0, api.ErrLong}, strings.Repeat("\n", 257): {0, api.ErrLong}, "=A1:B2": {1, api.ErrForm},
	} {
		if m, at, e := entry.Of(s); m.Formula || m.Tree != nil || m.V != (api.Value{}) || at != want.at || e != want.e {
			t.Errorf("Of(%q): %v, %d, %d; want %v", s, m, at, e, want)
		}
		if c, e := entry.Canonical(s); c != "" || e != want.e {
			t.Errorf("Canonical(%q): %q, %d", s, c, e)
		}
	}
}

// P11.2
func TestConstant(t *testing.T) {
	long := strings.Repeat("=", 256)
	for v, want := range map[api.Value]string{
		{}: "", val.Make(1_5000): "1.5", val.Make(0): "0", val.Make(-5000): "-0.5", val.Truth(true): "TRUE", val.Truth(false): "FALSE", val.Fail(api.Num): "#NUM!", val.Fail(api.NA): "#N/A",
		text("5"): "'5", text(""): "'", text("a"): "a", text("true"): "'true", text("#n/a"): "'#n/a", text("#CYCLE!"): "#CYCLE!", text("'"): "''", text("'a"): "''a", text("=1"): "'=1", text("=("): "'=(", text("="): "'=", text(" 5"): " 5", text("99999999999999999999"): "'99999999999999999999",
		text(strings.Repeat("x", 256)): strings.Repeat("x", 256), text(long[:255]): "'" + long[:255],
	} {
		if s, e := entry.Constant(v); s != want || e != api.OK {
			t.Error("Constant", v, s, e)
		}
	}
	for v, want := range map[api.Value]api.Errno{text(long): api.ErrLong, text("'" + long[1:]): api.ErrLong, text(strings.Repeat("1", 256)): api.ErrLong, val.Fail(api.Denied): api.ErrArg, val.Fail(api.Cycle): api.ErrArg, {Kind: 7}: api.ErrArg, text("\n"): api.ErrArg, {Kind: api.Number, Num: math.MinInt64}: api.ErrArg, text(long + "="): api.ErrArg} {
		if s, e := entry.Constant(v); s != "" || e != want {
			t.Error("Constant", v, s, e)
		}
	}
}

// P11.3
func TestCanonical(t *testing.T) {
	for s, want := range map[string]string{"= sum( a1 , b2:A1 )": "=SUM(A1,A1:B2)", "007.10": "7.1", "'x": "x", "'5": "'5", "": "", "'": "'", "tRue": "TRUE", "-0.0": "0", "99999999999999999999": "#NUM!", "#n/a": "#N/A", "=((1))": "=1", "=(1+2)*3": "=(1+2)*3", "a": "a"} {
		if c, e := entry.Canonical(s); c != want || e != api.OK {
			t.Errorf("Canonical(%q): %q, %d", s, c, e)
		}
	}
}

// inputs returns a random input.
func inputs(r *rand.Rand) string {
	pieces := []string{"", "'", "=", "5", "0", ".", "-", "TRUE", "true", "#N/A", "#cycle!", "a1", "B2", "+", "*", "(", ")", "\"x\"", " ", "SUM(", ",", "a1:B2", "9999999999999999", "#NUM!", "1.50"}
	s := ""
	for range 1 + r.Intn(5) {
		s += pieces[r.Intn(len(pieces))]
	}
	return s
}

// P11.5, P11.6, P11.7
func TestMeaning(t *testing.T) {
	r := rand.New(rand.NewSource(1))
	same := func(a, b api.Meaning) bool { return a.Formula == b.Formula && a.V == b.V && tree.Equal(a.Tree, b.Tree) }
	seen := map[string]api.Meaning{}
	for range 50000 {
		s := inputs(r)
		m, _, e := entry.Of(s)
		if e != api.OK {
			continue
		}
		c, f := entry.Canonical(s)
		n, _, g := entry.Of(c)
		if f != api.OK || g != api.OK || !same(m, n) || len(c) > len(s) {
			t.Fatalf("Canonical(%q): %q, %d", s, c, f)
		}
		if again, _ := entry.Canonical(c); again != c {
			t.Fatalf("Canonical(%q): %q", c, again)
		}
		if m.Formula != (s != "" && s[0] == '=') || m.V == val.Fail(api.Cycle) {
			t.Fatalf("Of(%q): %v", s, m)
		}
		if other, ok := seen[c]; ok && !same(m, other) {
			t.Fatalf("inputs with the canonical input %q mean different things", c)
		}
		seen[c] = m
	}
	for a, m := range seen {
		for b, n := range map[string]api.Meaning{"5": {V: val.Make(5_0000)}, "'5": {V: text("5")}} {
			if a != b && same(m, n) {
				t.Error("different canonical inputs mean the same:", a, b)
			}
		}
	}
}

// P11.4, P11.8
func TestCheck(t *testing.T) {
	at := func(col, row int, s string) api.Entry { return api.Entry{At: api.Ref{Col: col, Row: row}, Input: s} }
	for _, x := range []struct {
		l  []api.Entry
		at int
		e  api.Errno
	}{
		{nil, 0, api.OK},
		{[]api.Entry{at(1, 1, "5"), at(2, 1, "6"), at(1, 2, "7")}, 0, api.OK},
		{[]api.Entry{at(2, 1, "5"), at(1, 1, "6")}, 1, api.ErrOrder},
		{[]api.Entry{at(1, 1, "5"), at(1, 1, "6")}, 1, api.ErrOrder},
		{[]api.Entry{at(1, 2, "5"), at(2, 1, "")}, 1, api.ErrOrder},
		{[]api.Entry{at(1, 1, "")}, 0, api.ErrArg},
		{[]api.Entry{at(0, 1, "")}, 0, api.ErrRange},
		{[]api.Entry{at(1, 1, "5"), at(1, 0, "5")}, 1, api.ErrRange},
		{[]api.Entry{at(1, 1, "5"), at(1025, 1, "=")}, 1, api.ErrRange},
		{[]api.Entry{at(1, 1, "5"), at(2, 1, "=")}, 1, api.ErrForm},
		{[]api.Entry{at(1, 1, "=FOO(1)"), at(1, 1, "=")}, 0, api.ErrName},
		{[]api.Entry{at(1, 1, strings.Repeat("x", 257))}, 0, api.ErrLong},
		{[]api.Entry{at(1, 1, "a"), at(1024, 1024, "=SUM(A1:B2)"), at(1, 1, "a")}, 2, api.ErrOrder},
	} {
		if i, e := entry.Check(x.l...); i != x.at || e != x.e {
			t.Error("Check", x.l, i, e)
		}
		for n := range x.l {
			want, f := 0, api.OK
			if x.e != api.OK && x.at < n {
				want, f = x.at, x.e
			}
			if i, e := entry.Check(x.l[:n]...); i != want || e != f {
				t.Error("Check of a beginning", x.l[:n], i, e)
			}
		}
		if x.e == api.OK {
			for i := range x.l {
				if k, e := entry.Check(x.l[i:]...); k != 0 || e != api.OK {
					t.Error("Check of a part", x.l[i:], k, e)
				}
			}
		}
	}
}
