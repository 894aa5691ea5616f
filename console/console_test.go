package console_test

import (
	"math/rand"
	"slices"
	"strings"
	"testing"

	"louvre/api"
	"louvre/book"
	"louvre/console"
	"louvre/lines"
	"louvre/op"
	"louvre/sample"
	"louvre/script"
)

// example is the book of DOC.md, and the operations of the chapter.
func example(t *testing.T) api.Script {
	t.Helper()
	s := api.Script{Book: sample.Book()}
	for _, line := range []string{"login 0", "login 1", "grant 0 B1:B3 1 1", "read 1 A3:A4"} {
		x, e := op.Parse(line)
		if e != api.OK {
			t.Fatal(line)
		}
		s.Ops = append(s.Ops, x)
	}
	return s
}

func begin(t *testing.T, s api.Script) *console.Console {
	t.Helper()
	c, e := console.New(s)
	if e != api.OK {
		t.Fatal(s, e)
	}
	return c
}

func ask(t *testing.T, c *console.Console, query string) []string {
	t.Helper()
	l, e := c.Ask(query)
	if e != api.OK {
		t.Fatal(query, e)
	}
	return l
}

// answers is what the example answers to each query.
var answers = map[string][]string{
	"circular": nil, "counts": {"0 0 0", "0 0 0", "0 0 0", "0 0 0"}, "covered": {"yes"}, "labels": {"A1 0-2", "B1 0", "A2 0", "B2 0", "A3 0,1", "A4 0,1"}, "low": {"0 4 0 same fair", "1 3 0 same unfair", "2 4 0 same fair"}, "match": {"yes"},
	"replies": {"done", "done", "done", "done grid 2 30 31"}, "shown": {"A3 1 1 30"}, "values": {"A1 5", "B1 10", "A2 15", "B2 20", "A3 30", "A4 31"},
	"why": {"A1 0 seen", "A1 1 seen", "A1 2 seen", "B1 0 seen", "B1 1 hidden B1", "B1 2 hidden B1", "A2 0 seen", "A2 1 hidden A2 B1", "A2 2 hidden A2 B1", "B2 0 seen", "B2 1 hidden B2", "B2 2 hidden B2", "A3 0 seen", "A3 1 seen A3/1", "A3 2 hidden A3 B1", "A4 0 seen", "A4 1 seen A3/1", "A4 2 hidden A4 A3 B1"},
}

// The table of examples, P43.2 and P43.3.
func TestExamples(t *testing.T) {
	queries := []string{"circular", "counts", "covered", "labels", "low", "match", "replies", "shown", "values", "why"}
	if l := console.Queries(); !slices.Equal(l, queries) {
		t.Error("Queries", l)
	}
	c := begin(t, example(t))
	report := ""
	for _, query := range queries {
		if l := ask(t, c, query); !slices.Equal(l, answers[query]) {
			t.Error(query, l)
		}
		report += query + ":\n"
		for _, line := range ask(t, c, query) {
			report += " " + line + "\n"
		}
	}
	text, _ := lines.Format(example(t))
	if s, e := console.Report(text); s != report || e != api.OK {
		t.Errorf("Report: %s, %d; want %s", s, e, report)
	}
	for _, query := range []string{"", "Values", "value", "values ", "all"} {
		if l, e := c.Ask(query); l != nil || e != api.ErrNone {
			t.Error("Ask", query, l, e)
		}
	}
}

// Other answers: comparisons, values of all kinds, cycles and counts.
func TestAnswers(t *testing.T) {
	s := api.Script{Book: sample.With(sample.Granted(), "C1 a b;C2 ';C3 TRUE;C4 #N/A;C5 1.50;C6 =C6;C7 =DSUM(B1:B3)&\"x\"")}
	for _, line := range []string{"login 0", "set 0 B2 \"25\"", "set 1 B2 \"26\"", "set 0 B3 \"=(\"", "login 0", "revoke 0 5"} {
		x, _ := op.Parse(line)
		s.Ops = append(s.Ops, x)
	}
	s.Ops = append(s.Ops, api.Op{})
	c := begin(t, s)
	for query, want := range map[string][]string{
		"circular": {"C6"}, "counts": {"0 0 0", "4 3 0", "0 0 0", "0 0 0", "0 0 0", "0 0 0", "0 0 0"}, "replies": {"done", "done count 4", "out", "syntax at 2", "out", "missing", "form"}, "shown": {"A3 1 1 35", "C7 1 1 35"}, "covered": {"yes"}, "match": {"yes"},
		"values": {"A1 5", "B1 10", "C1 a b", "A2 15", "B2 25", "C2 ", "A3 35", "C3 TRUE", "A4 36", "C4 #N/A", "C5 1.5", "C6 #CYCLE!", "C7 35x"},
		"labels": {"A1 0-2", "B1 0", "C1 0-2", "A2 0", "B2 0", "C2 0-2", "A3 0,1", "C3 0-2", "A4 0,1", "C4 0-2", "C5 0-2", "C6 0-2", "C7 0,1"},
		"low":    {"0 7 0 same fair", "1 0 0 same unfair", "2 7 0 same fair"},
	} {
		if l := ask(t, c, query); !slices.Equal(l, want) {
			t.Errorf("%s: %q", query, l)
		}
	}
	if l := ask(t, begin(t, api.Script{Book: sample.Granted()}), "low"); !slices.Equal(l, []string{"0 0 0 same fair", "1 0 0 same unfair", "2 0 0 same fair"}) {
		t.Errorf("low without operations: %q", l)
	}
	if l := ask(t, begin(t, api.Script{Book: sample.With(sample.Granted(), "B1 ;B2 ")}), "low"); !slices.Equal(l, []string{"0 0 0 same fair", "1 0 1 same fair", "2 0 0 same fair"}) {
		t.Errorf("low of a book without secrets: %q", l)
	}
	late := sample.Granted()
	late.Step = api.MaxStep / 2
	late.Log = []api.Event{{Step: api.MaxStep/2 - 1, Kind: api.OpSet, Rect: sample.Rect("A1"), To: 1}}
	c = begin(t, api.Script{Book: late, Ops: s.Ops})
	if !slices.Equal(ask(t, c, "covered"), []string{"yes"}) || !slices.Equal(ask(t, c, "match"), []string{"yes"}) {
		t.Error("a book at a late step")
	}
}

// P43.1, P43.3, R5
func TestFaults(t *testing.T) {
	bad, many, late := example(t), example(t), example(t)
	bad.Book.Rules = nil
	many.Ops = make([]api.Op, api.MaxOps+1)
	late.Book.Step = api.MaxStep/2 + 1
	for i, x := range []struct {
		s    api.Script
		want api.Errno
	}{{bad, book.Check(bad.Book)}, {api.Script{}, api.ErrArg}, {many, api.ErrLong}, {late, api.ErrLong}} {
		if c, e := console.New(x.s); c != nil || e != x.want {
			t.Error("New", i, c, e)
		}
	}
	text, _ := lines.Format(late)
	for s, want := range map[string]api.Errno{"": api.ErrForm, text: api.ErrLong, strings.Repeat("x", api.MaxScript+1): api.ErrLong, "book 0 0\nrun\n": api.ErrArg} {
		if r, e := console.Report(s); r != "" || e != want {
			t.Error("Report", r, e)
		}
	}
	var c *console.Console
	if l, e := c.Ask("values"); l != nil || e != api.ErrNil {
		t.Error("Ask", l, e)
	}
}

// R3: a console does not share memory with its script, nor answers with it.
func TestMemory(t *testing.T) {
	s := example(t)
	c := begin(t, s)
	s.Book.Entries[0].Input, s.Book.Rules[1].Rights.Read, s.Ops[2] = "99", 7, api.Op{}
	for query, want := range answers {
		if l := ask(t, c, query); !slices.Equal(l, want) {
			t.Error(query, l)
		}
	}
	ask(t, c, "values")[0] = "changed"
	if l := ask(t, c, "values"); l[0] != "A1 5" {
		t.Error("answers share memory:", l)
	}
}

// P43.4 to P43.6: W1 to W5 for scripts from any bytes, and for random books.
func TestRandom(t *testing.T) {
	r := rand.New(rand.NewSource(1))
	for i := range 60 {
		bytes := make([]byte, 20+r.Intn(150))
		r.Read(bytes)
		s := script.Read(string(bytes))
		if i%2 == 0 {
			s = api.Script{Book: sample.Random(r.Intn)}
			for n := range 12 {
				x := sample.Op(r.Intn, s.Book.Users)
				if n < s.Book.Users {
					x = api.Op{Kind: api.OpLogin, User: n}
				}
				s.Ops = append(s.Ops, x)
			}
		}
		c, d := begin(t, s), begin(t, s)
		queries := console.Queries()
		for _, query := range queries {
			if query != "low" || i%3 == 0 {
				ask(t, c, query)
			}
		}
		slices.Reverse(queries)
		for _, query := range queries {
			if !slices.Equal(ask(t, c, query), ask(t, d, query)) {
				t.Fatal("the order of queries matters:", s, query)
			}
		}
		if !slices.Equal(ask(t, c, "match"), []string{"yes"}) || !slices.Equal(ask(t, c, "covered"), []string{"yes"}) {
			t.Fatal("match or covered:", s)
		}
		for user, line := range ask(t, c, "low") {
			if words := strings.Fields(line); len(words) != 5 || words[0] != string(rune('0'+user)) || words[3] != "same" {
				t.Fatal("low", s, line)
			}
		}
		checkEntries(t, c, s.Book.Users)
	}
}

// checkEntries checks that labels, values and why are about the same entries.
func checkEntries(t *testing.T, c *console.Console, users int) {
	labels, values, reasons := ask(t, c, "labels"), ask(t, c, "values"), ask(t, c, "why")
	if len(values) != len(labels) || len(reasons) != users*len(labels) {
		t.Fatal("entries:", labels, values, reasons)
	}
	for i, line := range labels {
		at, set, _ := strings.Cut(line, " ")
		if !strings.HasPrefix(values[i], at+" ") {
			t.Fatal("values", line, values[i])
		}
		for user := range users {
			words := strings.Fields(reasons[i*users+user])
			x, e := op.Parse("grant 0 A1 1 " + set)
			if e != api.OK || words[0] != at || words[1] != string(rune('0'+user)) || (words[2] == "seen") != (x.To>>user&1 == 1) {
				t.Fatal("why", line, words)
			}
		}
	}
}
