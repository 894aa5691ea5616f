package lines_test

import (
	"math"
	"math/rand"
	"slices"
	"strings"
	"testing"

	"louvre/api"
	"louvre/lines"
	"louvre/op"
	"louvre/sample"
	"louvre/script"
	"louvre/session"
)

const example = "book 1 0\ncell A1 \"5\"\nright A1:AMJ1024 0 0 -\nrun\nlogin 0\nread -1 A1\n"

// exampleScript is the script of the examples of chapter 41.
func exampleScript() api.Script {
	return api.Script{
		Book: api.Book{Users: 1, Entries: sample.Entries("A1 5"), Rules: []api.Rule{sample.Rule("A1:AMJ1024", 1, 1, 0)}},
		Ops:  []api.Op{{Kind: api.OpLogin}, {Kind: api.OpRead, User: -1, Rect: sample.Rect("A1")}},
	}
}

// The lines of the example, and its changes.
func TestExamples(t *testing.T) {
	if s, e := lines.Format(exampleScript()); s != example || e != api.OK {
		t.Errorf("Format: %q, %d", s, e)
	}
	if x, n, e := lines.Parse(example); !script.Equal(x, exampleScript()) || n != 0 || e != api.OK {
		t.Error("Parse", x, n, e)
	}
	l := strings.SplitAfter(example, "\n")
	for s, want := range map[string]struct {
		n int
		e api.Errno
	}{
		strings.TrimSuffix(example, "\n"): {6, api.ErrForm}, strings.Replace(example, "run\n", "cell B1 \"5\"\nrun\n", 1): {4, api.ErrForm}, strings.Replace(example, "\"5\"", "5", 1): {2, api.ErrForm}, strings.Join(l[:3], ""): {4, api.ErrForm}, strings.Replace(example, "right", "cell A1 \"6\"\nright", 1): {0, api.ErrOrder},
		"": {1, api.ErrForm}, "\n": {1, api.ErrForm}, "book 1 0\n": {2, api.ErrForm}, "book 1 0": {1, api.ErrForm}, "run\n": {1, api.ErrForm}, strings.Join(l[1:], ""): {1, api.ErrForm}, l[0] + example: {2, api.ErrForm}, example + "run\n": {7, api.ErrForm}, example + "\n": {7, api.ErrForm}, example + "x": {7, api.ErrForm}, example + "book 1 0\n": {7, api.ErrForm}, strings.Replace(example, "run\n", "", 1): {4, api.ErrForm}, strings.Replace(example, "run\n", "run\nrun\n", 1): {5, api.ErrForm}, strings.Replace(example, "run\n", "run \n", 1): {4, api.ErrForm}, strings.Replace(example, "\n", "\r\n", 1): {1, api.ErrForm}, strings.Replace(example, "run\n", "run\n\n", 1): {5, api.ErrForm},
		strings.Replace(example, "book 1 0", "book 0 0", 1): {0, api.ErrArg}, strings.Replace(example, "right", "cell B1 \"=(\"\nright", 1): {0, api.ErrForm}, strings.Replace(example, "right", "cell 0,1,0,1 \"1\"\nright", 1): {0, api.ErrRange}, strings.Replace(example, "right", "cell B1 \"\"\nright", 1): {0, api.ErrArg},
	} {
		if x, n, e := lines.Parse(s); !script.Equal(x, api.Script{}) || n != want.n || e != want.e {
			t.Errorf("Parse(%q): %v, %d, %d; want %v", s, x, n, e, want)
		}
	}
}

// Each kind of lines: those of some values, and such as are not.
func TestLines(t *testing.T) {
	const head, tail = "book 3 9\n", "run\n"
	good := map[string][]string{
		"":     {"book 0 -5\n", "book -9223372036854775808 9223372036854775807\n"},
		head:   {"cell A1 \"a b\"\"\"\n", "cell AMJ1024 \"\"\n", "cell 0,0,0,0 \"x\"\n", "cell -1,5,-1,5 \"x\"\n", "right A1:B2 - * 0,3\n", "right 2,1,1,1 - - -\n", "release A1 0 - 0 live\n", "release A1 255 * -1 revoked\n", "event 0 0 0 A1 yes -\n", "event -1 99 255 0,0,0,0 no *\n", "shown -1 A1 1 46 B1:B3 0 0-2\n", "shown 5 9,0,9,0 -7 255 0,1,2,3 -1 -\n", "run\n"},
		"run":  {"login 0\n", "set 0 A1 \"=(\"\n", "audit -3\n", "read 0 0,0,0,0\n", "raw 0 0 0 0 0 0 - 0 0 0 0 0 0\n", "raw 1 0 1 0 0 0 - 0 0 0 0 0 0\n", "raw 255 -1 1 2 3 4 00ff0a 1 18446744073709551615 3 255 5 -6\n", "raw 3 0 1 1 1 1 0a 0 0 0 0 0 0\n", "raw 8 0 1 1 1 1 - 0 0 0 0 3 0\n"},
		tail:   {},
		"last": {},
	}
	bad := map[string][]string{
		"":    {"book 1\n", "book 1 0 0\n", "book 01 0\n", "book 1  0\n", "Book 1 0\n", "book +1 0\n", "book 1 9223372036854775808\n", "book\n", "book \n", " book 1 0\n", "book 1 0 \n", "book x 0\n"},
		head:  {"cell A1\n", "cell A1 \n", "cell A1 5\n", "cell a1 \"5\"\n", "cell A1:A2 \"5\"\n", "cell 1,1,1,1 \"5\"\n", "cell 0,1,0,2 \"5\"\n", "cell A1 \"5\" \n", "cell A1  \"5\"\n", "cell A1 \"\t\"\n", "cell A1 \"a\"b\"\n", "cell A1 \"" + strings.Repeat("x", 257) + "\"\n", "cell \"5\"\n", "right A1 - -\n", "right A1 - - - -\n", "right A1 0,1,2 - -\n", "right A1:A1 - - -\n", "release A1 256 - 0 live\n", "release A1 -1 - 0 live\n", "release A1 1 - 0 Live\n", "release A1 1 - 0\n", "release A1 1 - 0 live live\n", "event 0 0 256 A1 yes -\n", "event 0 0 3 A1 true -\n", "event 0 0 3 A1 yes\n", "event 0 0 set A1 yes -\n", "shown 0 A1:A2 1 46 B1 0 -\n", "shown 0 A1 1 46 B1 0\n", "shown 0 A1 1 DSUM B1 0 -\n", "login 0\n", "raw 0 0 0 0 0 0 - 0 0 0 0 0 0\n", "ru\n", "RUN\n", "foo\n"},
		"run": {"login\n", "login 00\n", "foo 1\n", "cell A1 \"5\"\n", "raw 1 0 0 0 0 0 - 0 0 0 0 0 0\n", "raw 8 0 1 1 1 1 - 0 0 0 3 0 0\n", "raw 0 0 0 0 0 0 0 0 0 0 0 0 0\n", "raw 0 0 0 0 0 0 0A 0 0 0 0 0 0\n", "raw 0 0 0 0 0 0 abc 0 0 0 0 0 0\n", "raw 0 0 0 0 0 0  0 0 0 0 0 0\n", "raw 256 0 0 0 0 0 - 0 0 0 0 0 0\n", "raw 0 0 0 0 0 0 - 0 0 0 0 0\n", "raw 0 0 0 0 0 0 - 0 0 0 0 0 0 0\n", "raw 0 0 0 0 0 0 - 0 -1 0 0 0 0\n", "raw 0 0 0 0 0 0 - 0 0 0 300 0 0\n", "raw 0 0 0 0 0 0 - 0 - 0 0 0 0\n", "raw 0 0 0 0 0 0 zz 0 0 0 0 0 0\n", "set 0 A1\n"},
	}
	begin := map[string]string{"": "", head: head, "run": head + tail}
	for place, l := range good {
		for _, line := range l {
			n := strings.Count(begin[place], "\n") + 1
			if _, at, e := lines.Parse(begin[place] + line + "?\n"); at != n+1 || e != api.ErrForm {
				t.Errorf("Parse with %q: %d, %d", line, at, e)
			}
		}
	}
	for place, l := range bad {
		for _, line := range l {
			n := strings.Count(begin[place], "\n") + 1
			if _, at, e := lines.Parse(begin[place] + line + "run\n"); at != n || e != api.ErrForm {
				t.Errorf("Parse with %q: %d, %d", line, at, e)
			}
		}
	}
	order := []string{"cell A1 \"1\"\n", "right A1 - - -\n", "release A1 1 - 0 live\n", "event 0 0 3 A1 yes 0\n", "shown 0 A1 1 46 B1 0 -\n", "run\n", "login 0\n"}
	for i, a := range order {
		for k, b := range order {
			_, at, e := lines.Parse(head + a + b + "?\n")
			want := 4
			switch {
			case i == 6:
				want = 2
			case i > k || i == 5 && k == 5 || i < 5 && k == 6:
				want = 3
			}
			if at != want || e != api.ErrForm {
				t.Errorf("Parse with %q, %q: %d, %d; want %d", a, b, at, e, want)
			}
		}
	}
}

// P42.1, P42.2: limits.
func TestLimits(t *testing.T) {
	x := exampleScript()
	for i := range 250 {
		x.Ops = append(x.Ops, api.Op{Kind: api.OpSet, Rect: sample.Rect("A1"), Input: strings.Repeat("x", 249)})
		if s, e := lines.Format(x); e != api.OK || len(s) != len(example)+(i+1)*(9+251+1) {
			t.Fatal("Format", i, len(s), e)
		}
	}
	s, _ := lines.Format(x)
	x.Ops = append(x.Ops, api.Op{Kind: api.OpSet, Rect: sample.Rect("A1"), Input: strings.Repeat("x", 200)})
	s, _ = lines.Format(x)
	for rest := api.MaxScript - len(s); rest > 0; rest = api.MaxScript - len(s) {
		x.Ops = append(x.Ops, api.Op{Kind: api.OpSet, Rect: sample.Rect("A1"), Input: strings.Repeat("y", max(0, min(rest-12, 240)))})
		if rest < 12 {
			x.Ops = x.Ops[:len(x.Ops)-1]
			x.Ops[len(x.Ops)-1].Input += strings.Repeat("z", rest)
		}
		s, _ = lines.Format(x)
	}
	if len(s) != api.MaxScript {
		t.Fatal("Format of a long script:", len(s))
	}
	if y, n, e := lines.Parse(s); !script.Equal(x, y) || n != 0 || e != api.OK {
		t.Error("Parse of a long script:", n, e)
	}
	x.Ops[5].Input += "x"
	if s, e := lines.Format(x); s != "" || e != api.ErrLong {
		t.Error("Format of a script that is too long:", len(s), e)
	}
	if y, n, e := lines.Parse(strings.Repeat("?", api.MaxScript+1)); !script.Equal(y, api.Script{}) || n != 0 || e != api.ErrLong {
		t.Error("Parse of too many bytes:", n, e)
	}
	if y, n, e := lines.Parse(strings.Repeat("\n", api.MaxScript)); !script.Equal(y, api.Script{}) || n != 1 || e != api.ErrForm {
		t.Error("Parse of many lines:", n, e)
	}
	if y, n, e := lines.Parse("book 1 0\nright A1:AMJ1024 - - -\nrun\n" + strings.Repeat("audit 0\n", api.MaxOps+1)); !script.Equal(y, api.Script{}) || n != 0 || e != api.ErrLong {
		t.Error("Parse of many operations:", n, e)
	}
	bad := exampleScript()
	bad.Book.Rules = nil
	if s, e := lines.Format(bad); s != "" || e != api.ErrArg {
		t.Error("Format", s, e)
	}
}

// P42.4, P42.5
func TestRandom(t *testing.T) {
	r := rand.New(rand.NewSource(1))
	for range 300 {
		b := sample.Used(r.Intn)
		x := api.Script{Book: b, Ops: sample.Ops(r.Intn, b.Users)}
		s, e := lines.Format(x)
		y, n, f := lines.Parse(s)
		if e != api.OK || f != api.OK || n != 0 || !script.Equal(x, y) {
			t.Fatal("Parse of Format:", s, e, n, f)
		}
		for range 20 {
			k := r.Intn(len(s))
			other := s[:k] + string("0123456789-,* AB\":\n"[r.Intn(19)]) + s[k+r.Intn(2):]
			y, n, e := lines.Parse(other)
			if e == api.OK {
				if again, _ := lines.Format(y); again != other {
					t.Fatal("Parse accepts other lines:", other)
				}
				continue
			}
			if n == 0 {
				continue
			}
			l := strings.SplitAfter(other, "\n")
			if _, again, _ := lines.Parse(strings.Join(l[:min(n, len(l))], "") + "?\n?\n"); again != n && n <= strings.Count(other, "\n") {
				t.Fatal("a fault depends on what follows:", other, n, again)
			}
			if _, before, _ := lines.Parse(strings.Join(l[:n-1], "") + "?\n"); before < n {
				t.Fatal("an earlier fault:", other, n, before)
			}
		}
	}
}

// P42.3
func TestReply(t *testing.T) {
	value := func(kind uint8, n int64, s string) api.Value { return api.Value{Kind: kind, Num: n, Text: s} }
	text := strings.Repeat("\"", 256)
	for i, x := range []struct {
		r    api.Reply
		want string
	}{
		{api.Reply{Grid: []api.Value{{}, value(api.Number, 1_5000, ""), value(api.Text, 0, "a"), value(api.Error, api.Denied, "")}}, "done grid 4 - 1.5 \"a\" #DENIED"},
		{api.Reply{Code: api.Syntax, At: 3}, "syntax at 3"}, {api.Reply{Count: 2}, "done count 2"}, {api.Reply{}, "done"}, {api.Reply{Code: api.Form}, "form"}, {api.Reply{Code: api.Unknown}, "unknown"}, {api.Reply{Code: api.Out}, "out"}, {api.Reply{Code: api.Full}, "full"}, {api.Reply{Code: api.Refused}, "refused"}, {api.Reply{Code: api.Syntax}, "syntax"}, {api.Reply{Code: api.Limit}, "limit"}, {api.Reply{Code: api.Missing}, "missing"},
		{api.Reply{Text: "=A1&\"x\""}, "done text \"=A1&\"\"x\"\"\""}, {api.Reply{Text: text}, "done text \"" + text + text + "\""},
		{api.Reply{Grid: []api.Value{value(api.Bool, 1, ""), value(api.Bool, 0, ""), value(api.Number, 0, ""), value(api.Number, -5000, ""), value(api.Number, 12_3400, ""), value(api.Number, 1, ""), value(api.Number, -math.MaxInt64, ""), value(api.Number, math.MaxInt64, ""), value(api.Number, -30_0000, "")}}, "done grid 9 TRUE FALSE 0 -0.5 12.34 0.0001 -922337203685477.5807 922337203685477.5807 -30"},
		{api.Reply{Grid: []api.Value{value(api.Error, 1, ""), value(api.Error, 2, ""), value(api.Error, 3, ""), value(api.Error, 4, ""), value(api.Error, 5, ""), value(api.Error, 6, ""), value(api.Text, 0, "")}}, "done grid 7 #DIV/0! #VALUE! #NUM! #N/A #REF! #CYCLE! \"\""},
		{api.Reply{Events: []api.Event{{Step: 4, User: 1, Kind: api.OpSet, Rect: sample.Rect("B1"), To: 3}, {Done: true}}}, "done events 2 event 4 1 3 B1 no 0,1 event 0 0 0 0,0,0,0 yes -"},
		{api.Reply{Code: api.Missing, At: 1, Text: " ", Count: 3, Grid: make([]api.Value, 1), Events: make([]api.Event, 1), Releases: []api.Release{{Step: 5, Call: api.Call{At: sample.Ref("A3"), Node: 1}, Fn: api.FnDSum, Rect: sample.Rect("B1:B3"), Grant: 2, To: 7}}}, "missing at 1 count 3 text \" \" grid 1 - events 1 event 0 0 0 0,0,0,0 no - releases 1 shown 5 A3 1 46 B1:B3 2 0-2"},
	} {
		if s, e := lines.Reply(x.r); s != x.want || e != api.OK {
			t.Errorf("Reply %d: %q, %d", i, s, e)
		}
	}
	for i, r := range []api.Reply{{Code: 9}, {Code: 255}, {At: -1}, {Count: -1}, {Text: "\n"}, {Text: text + "\""}, {Grid: []api.Value{{}, value(api.Number, math.MinInt64, "")}}, {Grid: []api.Value{value(5, 0, "")}}, {Grid: []api.Value{value(api.Bool, 2, "")}}, {Grid: []api.Value{value(api.Error, 8, "")}}, {Grid: []api.Value{value(api.Error, 0, "")}}, {Grid: []api.Value{value(api.Error, -1, "")}}, {Grid: []api.Value{value(api.Error, 7, "x")}}, {Grid: []api.Value{value(api.Text, 1, "")}}, {Grid: []api.Value{value(api.Text, 0, "\t")}}, {Grid: []api.Value{value(api.Text, 0, text+"x")}}, {Grid: []api.Value{value(api.Blank, 1, "")}}, {Grid: []api.Value{value(api.Blank, 0, "x")}}, {Grid: []api.Value{value(api.Number, 1, "x")}}, {Grid: []api.Value{value(api.Bool, 1, "x")}}} {
		if s, e := lines.Reply(r); s != "" || e != api.ErrArg {
			t.Errorf("Reply %d: %q, %d", i, s, e)
		}
	}
}

// P42.6: replies of runs of random scripts.
func TestReplies(t *testing.T) {
	r := rand.New(rand.NewSource(2))
	seen := map[string]api.Reply{}
	for range 60 {
		s, _ := session.New(sample.Random(r.Intn))
		users := s.Book().Users
		for n := range 15 {
			x := sample.Op(r.Intn, users)
			if n < users {
				x = api.Op{Kind: api.OpLogin, User: n}
			}
			if r.Intn(3) == 0 {
				x = op.Plain(api.Op{Kind: api.OpAudit, User: n % users})
			}
			reply := s.Do(x).Reply
			line, e := lines.Reply(reply)
			if e != api.OK || strings.Contains(line, "\n") {
				t.Fatal("Reply", reply, line, e)
			}
			if other, ok := seen[line]; ok && (other.Code != reply.Code || other.Text != reply.Text || other.Count != reply.Count || other.At != reply.At || !slices.Equal(other.Grid, reply.Grid) || !slices.Equal(other.Events, reply.Events) || !slices.Equal(other.Releases, reply.Releases)) {
				t.Fatal("different replies with the line", line)
			}
			seen[line] = reply
		}
	}
}
