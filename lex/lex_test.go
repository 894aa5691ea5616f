package lex_test

import (
	"math"
	"math/rand"
	"slices"
	"strings"
	"testing"

	"louvre/api"
	"louvre/lex"
	"louvre/rect"
)

func num(n int64, at int) api.Token { return api.Token{Kind: api.TkNumber, Num: n, At: at} }
func op(n int64, at int) api.Token  { return api.Token{Kind: api.TkOp, Num: n, At: at} }
func name(s string, at int) api.Token {
	return api.Token{Kind: api.TkName, Text: s, At: at}
}
func text(s string, at int) api.Token {
	return api.Token{Kind: api.TkText, Text: s, At: at}
}
func plain(kind uint8, at int) api.Token { return api.Token{Kind: kind, At: at} }

// place is the token of an address or a range.
func place(s string, at int) api.Token {
	r, _ := rect.Parse(s)
	if r.C1 == r.C2 && r.R1 == r.R2 {
		return api.Token{Kind: api.TkRef, Rect: r, At: at}
	}
	return api.Token{Kind: api.TkRange, Rect: r, At: at}
}

// P7.1: what is accepted.
func TestTokens(t *testing.T) {
	for s, want := range map[string][]api.Token{
		"":                                     nil,
		"    ":                                 nil,
		"sum(A1:b2,1.50)":                      {name("SUM", 0), plain(api.TkOpen, 3), place("A1:B2", 4), plain(api.TkComma, 9), num(1_5000, 10), plain(api.TkClose, 14)},
		"  a1 <>TRUE":                          {place("A1", 2), op(api.Ne, 5), {Kind: api.TkBool, Num: 1, At: 7}},
		"\"x\"\"y\"":                           {text("x\"y", 0)},
		"\"\"\"\"\"\"":                         {text("\"\"", 0)},
		"\"\" \"\"":                            {text("", 0), text("", 3)},
		"B2:A1":                                {place("A1:B2", 0)},
		"A1:A1":                                {place("A1", 0)},
		"b1:a2":                                {place("A1:B2", 0)},
		"False tRUE":                           {{Kind: api.TkBool, At: 0}, {Kind: api.TkBool, Num: 1, At: 6}},
		"TRUE(":                                {name("TRUE", 0), plain(api.TkOpen, 4)},
		"a1(":                                  {name("A1", 0), plain(api.TkOpen, 2)},
		"x9y(":                                 {name("X9Y", 0), plain(api.TkOpen, 3)},
		"1A1":                                  {num(1_0000, 0), place("A1", 1)},
		"1 2":                                  {num(1_0000, 0), num(2_0000, 2)},
		"1.2345":                               {num(1_2345, 0)},
		"007.5":                                {num(7_5000, 0)},
		"922337203685477":                      {num(922337203685477_0000, 0)},
		"#n/a#REF!#Num!":                       {{Kind: api.TkError, Num: api.NA, At: 0}, {Kind: api.TkError, Num: api.Bad, At: 4}, {Kind: api.TkError, Num: api.Num, At: 9}},
		"#DIV/0!#value!":                       {{Kind: api.TkError, Num: api.Div, At: 0}, {Kind: api.TkError, Num: api.Val, At: 7}},
		"<>=<=>=<>":                            {op(api.Ne, 0), op(api.Eq, 2), op(api.Le, 3), op(api.Ge, 5), op(api.Ne, 7)},
		"< >":                                  {op(api.Lt, 0), op(api.Gt, 2)},
		"+-*/^&=<>%":                           {op(api.Add, 0), op(api.Sub, 1), op(api.Mul, 2), op(api.Quo, 3), op(api.Pow, 4), op(api.Cat, 5), op(api.Eq, 6), op(api.Ne, 7), op(api.Percent, 9)},
		"AMJ1024":                              {place("AMJ1024", 0)},
		"A1:B2 (":                              {place("A1:B2", 0), plain(api.TkOpen, 6)},
		"\"" + strings.Repeat("x", 254) + "\"": {text(strings.Repeat("x", 254), 0)},
		"922337203685477.5807":                 {num(math.MaxInt64, 0)},
	} {
		if l, at, e := lex.Tokens(s); !slices.Equal(l, want) || at != 0 || e != api.OK {
			t.Errorf("Tokens(%q): %v, %d, %d", s, l, at, e)
		}
	}
}

// P7.1: what is not.
func TestFaults(t *testing.T) {
	for s, want := range map[string]int{
		"\"x": 0, "1.23456": 0, "1.": 1, "A01": 0, "AMJ1025": 0, "#N/A#DENIED": 4, "#CYCLE!": 0, "#DENIED": 0, "#": 0, "#N/": 0, "\"\"\"": 0, "1+ \"": 3,
		"A1:B2(": 2, "A1:": 2, "A1: B2": 2, "A1:TRUE": 2, "A1:9": 2, "A1:A0": 2, "A1:B2:C3": 5, "FOO": 0, "FOO (": 0, "1 FOO": 2, ".5": 0, "1..5": 1, "1.5.5": 3,
		"922337203685477.5808": 0, "922337203685478": 0, "99999999999999999999999": 0, "'a'": 0, "a;b": 0, "A1 $": 3, "A1!": 2, "{1}": 0, "1A": 1, "[": 0, "@A1": 0, "a_b(": 0,
		"A1\n": 2, "\t1": 0, "FOO \x7f": 4, "é": 0, "1.23456\n": 7, "\"\x00\"": 1, "A0": 0, "A": 0, "1.00000": 0,
	} {
		if l, at, e := lex.Tokens(s); l != nil || at != want || e != api.ErrForm {
			t.Errorf("Tokens(%q): %v, %d, %d; want %d", s, l, at, e, want)
		}
	}
	if l, at, e := lex.Tokens(strings.Repeat("\n", 257)); l != nil || at != 0 || e != api.ErrLong {
		t.Error("Tokens of 257 bytes:", l, at, e)
	}
	if l, at, e := lex.Tokens(strings.Repeat("1", 1) + strings.Repeat(" ", 255)); len(l) != 1 || at != 0 || e != api.OK {
		t.Error("Tokens of 256 bytes:", l, at, e)
	}
}

// P7.2
func TestWrite(t *testing.T) {
	long := strings.Repeat("x", 100)
	for _, x := range []struct {
		l    []api.Token
		want string
		e    api.Errno
	}{
		{nil, "", api.OK},
		{[]api.Token{num(1_5000, 77), op(api.Percent, -1)}, "1.5%", api.OK},
		{[]api.Token{num(1_0000, 0), num(2_0000, 0)}, "", api.ErrForm},
		{[]api.Token{name("SUM", 0), plain(api.TkOpen, 0), place("A1:B2", 0), plain(api.TkClose, 0)}, "SUM(A1:B2)", api.OK},
		{[]api.Token{op(api.Lt, 0), op(api.Gt, 0)}, "", api.ErrForm},
		{[]api.Token{op(api.Lt, 0), op(api.Eq, 0)}, "", api.ErrForm},
		{[]api.Token{op(api.Gt, 0), op(api.Eq, 0)}, "", api.ErrForm},
		{[]api.Token{op(api.Gt, 0), op(api.Lt, 0)}, "><", api.OK},
		{[]api.Token{name("SUM", 0)}, "", api.ErrForm},
		{[]api.Token{place("A1", 0), plain(api.TkOpen, 0)}, "", api.ErrForm},
		{[]api.Token{place("A1", 0), {Kind: api.TkBool, Num: 1}}, "", api.ErrForm},
		{[]api.Token{text("a\"b", 3), op(api.Cat, 0), {Kind: api.TkBool}}, "\"a\"\"b\"&FALSE", api.OK},
		{[]api.Token{text("a", 0), text("b", 0)}, "", api.ErrForm},
		{[]api.Token{{Kind: api.TkError, Num: api.NA}, {Kind: api.TkError, Num: api.Div}}, "#N/A#DIV/0!", api.OK},
		{[]api.Token{text(long, 0), op(api.Cat, 0), text(long, 0), op(api.Cat, 0), text(long, 0)}, "", api.ErrLong},
		{[]api.Token{text(long, 0), text(long, 0), text(long, 0), {}}, "", api.ErrArg},
		{[]api.Token{num(1_0000, 0), name(strings.Repeat("A", 255), 0)}, "", api.ErrForm},
		{[]api.Token{op(api.Add, 0), name(strings.Repeat("A", 255), 0), plain(api.TkOpen, 0)}, "", api.ErrLong},
	} {
		if s, e := lex.Write(x.l...); s != x.want || e != x.e {
			t.Error("Write", x.l, s, e)
		}
	}
	for _, x := range []api.Token{
		{}, {Kind: 12}, {Kind: 255}, num(-1, 0), num(math.MinInt64, 0), {Kind: api.TkNumber, Text: "1"}, {Kind: api.TkNumber, Rect: api.Rect{C1: 1}}, {Kind: api.TkBool, Num: 2}, {Kind: api.TkBool, Text: "TRUE"},
		{Kind: api.TkError}, {Kind: api.TkError, Num: api.Cycle}, {Kind: api.TkError, Num: api.Denied}, {Kind: api.TkError, Num: 8}, text("\n", 0), text(strings.Repeat("x", 255), 0), text(strings.Repeat("\"", 128), 0), {Kind: api.TkText, Num: 1},
		{Kind: api.TkRef}, {Kind: api.TkRef, Rect: place("A1:B2", 0).Rect}, {Kind: api.TkRange, Rect: place("A1", 0).Rect}, {Kind: api.TkRange, Rect: api.Rect{C1: 1, R1: 1, C2: 1025, R2: 1}}, {Kind: api.TkRange, Rect: api.Rect{C1: 2, R1: 1, C2: 1, R2: 1}},
		name("", 0), name("sum", 0), name("A(", 0), name("A B", 0), name("1A", 0), name("A-B", 0), name(strings.Repeat("A", 256), 0), {Kind: api.TkName, Text: "SUM", Num: 1}, op(0, 0), op(14, 0), op(-1, 0), {Kind: api.TkOpen, Num: 1}, {Kind: api.TkComma, Text: ","}, {Kind: api.TkClose, Rect: api.Rect{R2: 1}},
	} {
		if s, e := lex.Write(x); s != "" || e != api.ErrArg {
			t.Error("Write", x, s, e)
		}
	}
}

// pieces are tokens as texts; those that need a blank behind them are followed by one.
var pieces = []string{"1", "2.5", "\"a\"", "\"\"\"\"", "TRUE ", "false ", "#N/A", "A1 ", "b2:A1 ", "SUM(", "if(", "+", "-", "<", ">", "=", "<>", "<=", "%", ")", ",", "(", "x1y2("}

// P7.3 to P7.5
func TestLaws(t *testing.T) {
	r := rand.New(rand.NewSource(1))
	for range 20000 {
		s, begins := "", []int{}
		for range r.Intn(12) {
			begins = append(begins, len(s))
			s += pieces[r.Intn(len(pieces))]
		}
		l, _, e := lex.Tokens(s)
		if e != api.OK {
			continue
		}
		if w, f := lex.Write(l...); f == api.OK {
			again, _, e := lex.Tokens(w)
			if e != api.OK || !slices.EqualFunc(again, l, same) {
				t.Fatal("Tokens of Write:", s, w)
			}
		} else if f != api.ErrForm {
			t.Fatal("Write of Tokens:", s, f)
		}
		for i, x := range l {
			if s[x.At] == ' ' || i > 0 && x.At <= l[i-1].At {
				t.Fatal("At of", s, x)
			}
			if i > 0 && l[i-1].Kind == api.TkName {
				continue
			}
			wide := s[:x.At] + " " + s[x.At:]
			if again, _, e := lex.Tokens(wide); e != api.OK || !slices.EqualFunc(again, l, same) {
				t.Fatal("a blank changes the tokens:", wide)
			}
		}
	}
}

func same(a, b api.Token) bool {
	a.At, b.At = 0, 0
	return a == b
}
