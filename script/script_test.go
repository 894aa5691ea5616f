package script_test

import (
	"math/rand"
	"reflect"
	"slices"
	"strings"
	"testing"

	"louvre/api"
	"louvre/book"
	"louvre/op"
	"louvre/rect"
	"louvre/sample"
	"louvre/script"
	"louvre/session"
)

// example is the script of the chapter.
func example() api.Script {
	return api.Script{
		Book: api.Book{Users: 1, Entries: sample.Entries("A1 5"), Rules: []api.Rule{sample.Rule("A1:AMJ1024", 1, 1, 0)}},
		Ops:  []api.Op{{Kind: api.OpLogin}, {Kind: api.OpRead, User: -1, Rect: sample.Rect("A1")}},
	}
}

// exampleBytes is the bytes of the script of the chapter.
func exampleBytes() string {
	return "\x01\x01" + "\x01\x01" + "\x01\x01\x01\x01\x01\x01\x35" + "\x01\x01" + "\x01\x01\x01\x01\x02\x04\x00\x02\x04\x00\x01\x01\x01\x01\x00" + "\x00" + "\x00" + "\x00" + "\x00" + "\x01\x02" + "\x01\x01\x00" + "\x01\x05\x01\x03\x08\xff\xff\xff\xff\xff\xff\xff\xff\x01\x01\x01\x01\x01\x01\x01\x01"
}

// The table of examples.
func TestExamples(t *testing.T) {
	s, e := script.Encode(example())
	if s != exampleBytes() || e != api.OK {
		t.Errorf("Encode: %q, %d", s, e)
	}
	if x, e := script.Decode(s); !script.Equal(x, example()) || e != api.OK {
		t.Error("Decode", x, e)
	}
	for i, s := range []string{s[:len(s)-1], s + "\x00", "\x02\x00\x01" + s[2:], "", "\x00", strings.Repeat("\x08\xff\xff\xff\xff\xff\xff\xff\xff", 100), strings.Replace(s, "\x01\x03", "\x01\x07", 1), strings.Replace(s, "\x00\x01\x05", "\x01\x01\x00\x01\x05", 1), "\x09" + s, strings.Replace(s, "\x35", "\x0a", 1)} {
		if x, e := script.Decode(s); !reflect.DeepEqual(x, api.Script{}) || e != api.ErrForm {
			t.Error("Decode", i, x, e)
		}
	}
	want := api.Script{Book: api.Book{Users: 1, Rules: []api.Rule{{Rect: sample.Whole()}}}}
	if x := script.Read(""); !script.Equal(x, want) {
		t.Error("Read", x)
	}
}

// P41.2: limits and errors.
func TestLimits(t *testing.T) {
	x := example()
	x.Book.Entries = nil
	x.Ops = slices.Repeat([]api.Op{{Kind: api.OpAudit}}, api.MaxOps)
	if script.Check(x) != api.OK {
		t.Error("Check of 4,096 operations")
	}
	x.Ops = append(x.Ops, api.Op{})
	bad := example()
	bad.Book.Entries[0].Input = "=("
	late := example()
	late.Book.Step = api.MaxStep/2 + 1
	for i, y := range []struct {
		s                  api.Script
		check, encode, run api.Errno
	}{{x, api.ErrLong, api.ErrLong, api.ErrLong}, {bad, api.ErrForm, api.ErrForm, api.ErrForm}, {api.Script{}, api.ErrArg, api.ErrArg, api.ErrArg}, {late, api.OK, api.OK, api.ErrLong}} {
		if e := script.Check(y.s); e != y.check {
			t.Error("Check", i, e)
		}
		if s, e := script.Encode(y.s); e != y.encode || e != api.OK && s != "" {
			t.Error("Encode", i, s, e)
		}
		if l, e := script.Run(y.s); l != nil || e != y.run {
			t.Error("Run", i, l, e)
		}
	}
	// Each operation has 6 bytes and those of its input: the script has just the greatest length, then one byte more.
	long := example()
	for range 255 {
		long.Ops = append(long.Ops, api.Op{Kind: 99, Input: strings.Repeat("y", 250)})
	}
	s, e := script.Encode(long)
	if e != api.OK {
		t.Fatal("Encode", e)
	}
	long.Ops = append(long.Ops, api.Op{Kind: 99, Input: strings.Repeat("y", api.MaxScript-len(s)-6)})
	s, e = script.Encode(long)
	if len(s) != api.MaxScript || e != api.OK {
		t.Error("Encode of a long script:", len(s), e)
	}
	if x, e := script.Decode(s); !script.Equal(x, long) || e != api.OK {
		t.Error("Decode of a long script:", e)
	}
	long.Ops[0].Index = 1
	if s, e := script.Encode(long); s != "" || e != api.ErrLong {
		t.Error("Encode of a script that is too long:", len(s), e)
	}
	if x, e := script.Decode(s + "\x00"); !reflect.DeepEqual(x, api.Script{}) || e != api.ErrLong {
		t.Error("Decode of bytes that are too long:", e)
	}
}

// P41.2, P41.5, P41.6
func TestRandom(t *testing.T) {
	r := rand.New(rand.NewSource(1))
	before := ""
	for range 400 {
		b := sample.Used(r.Intn)
		x := api.Script{Book: b, Ops: sample.Ops(r.Intn, b.Users)}
		s, e := script.Encode(x)
		y, f := script.Decode(s)
		if e != api.OK || f != api.OK || !script.Equal(x, y) {
			t.Fatal("Decode of Encode:", x, y, e, f)
		}
		if before != "" && (strings.HasPrefix(s, before) || strings.HasPrefix(before, s)) && s != before {
			t.Fatal("the bytes of a script begin those of another one")
		}
		before = s
		for range 20 {
			k := r.Intn(len(s))
			other := s[:k] + string([]byte{byte(r.Intn(6))}) + s[k+r.Intn(2):]
			if y, e := script.Decode(other); e == api.OK {
				if again, e := script.Encode(y); again != other || e != api.OK || script.Equal(x, y) != (other == s) {
					t.Fatal("Decode accepts other bytes:", x, y)
				}
			} else if e != api.ErrForm || !reflect.DeepEqual(y, api.Script{}) {
				t.Fatal("Decode", y, e)
			}
		}
		checkEqual(t, x, y, r)
	}
}

// checkEqual checks that scripts with a difference are not equal.
func checkEqual(t *testing.T, x, y api.Script, r *rand.Rand) {
	if len(y.Ops) == 0 {
		return
	}
	op := &y.Ops[r.Intn(len(y.Ops))]
	for i, change := range []func(){func() { op.Kind++ }, func() { op.User++ }, func() { op.Rect.R2++ }, func() { op.Input += "x" }, func() { op.Rights.Own++ }, func() { op.Fns++ }, func() { op.To++ }, func() { op.Index++ }, func() { y.Book.Step++ }, func() { y.Ops = y.Ops[1:] }} {
		old, ops := *op, y.Ops
		step := y.Book.Step
		change()
		if script.Equal(x, y) || script.Equal(y, x) {
			t.Fatal("Equal", i)
		}
		*op, y.Ops, y.Book.Step = old, ops, step
	}
	if !script.Equal(x, y) {
		t.Fatal("Equal")
	}
}

// P41.3: scripts that are read from bytes.
func TestRead(t *testing.T) {
	rights := func(a, b, c uint64) api.Rights { return api.Rights{Read: a, Write: b, Own: c} }
	for bytes, want := range map[string]api.Script{
		// 2 users, crowds 3 2 1; one further rule: B3 to C5, crowds 1 0 3; three entries, one of them replaced by nothing; one grant; two operations.
		"\x05\x03\x06\x05" + "\x01" + "\x01\x02\x01\x02\x01\x00\x03" + "\x03" + "\x00\x00\x01\x0d" + "\x01\x01\x06\x02\x03\x00\x04" + "\x00\x00\x00" + "\x01" + "\x01\x00\x00\x02\x1e\x03\x01" + "\x02\x01\x02\x03\x0a\x00\x01" + "\x07\x00\x00\x00\x00\x00\x20\x01": {
			Book: api.Book{Users: 2, Rules: []api.Rule{{Rect: sample.Whole(), Rights: rights(3, 2, 1)}, {Rect: sample.Rect("B3:C5"), Rights: rights(1, 0, 3)}}, Entries: sample.Entries("B2 =C4+A1"), Grants: []api.Grant{{Rect: sample.Rect("B1:B3"), Fns: 31, To: 3, By: 1}}},
			Ops:  []api.Op{{Kind: api.OpSet, User: 1, Rect: sample.Rect("C4"), Input: "=IFERROR(A2,0)"}, {Kind: api.OpGrant, Rect: sample.Rect("A1"), Fns: 2, To: 1}},
		},
		// Bytes that end in the middle of an operation, which then has zeros.
		"\x03" + "\x0f\x0f\x0f" + "\x00\x00\x00" + "\x06": {Book: api.Book{Users: 4, Rules: []api.Rule{{Rect: sample.Whole(), Rights: rights(15, 15, 15)}}}, Ops: []api.Op{{Kind: api.OpRule, Rect: sample.Rect("A1")}}},
		"\x00\x01\x01\x01\x00\x00\x00\x08\x00\x07" + "\x03\x00\x02\x03\x01\x02" + "\x05\x00\x01\x01" + "\x04\x00\x01\x01\x00\x00" + "\x09\x00" + "\x01\x00": {
			Book: api.Book{Users: 1, Rules: []api.Rule{{Rect: sample.Whole(), Rights: rights(1, 1, 1)}}},
			Ops:  []api.Op{{Kind: api.OpRevoke, Index: 3}, {Kind: api.OpClear, Rect: sample.Rect("C4:D6")}, {Kind: api.OpFormula, Rect: sample.Rect("B2")}, {Kind: api.OpRead, Rect: sample.Rect("B2")}, {Kind: api.OpAudit}, {Kind: api.OpLogout}},
		},
	} {
		if x := script.Read(bytes); !script.Equal(x, want) {
			t.Errorf("Read(%q): %v, want %v", bytes, x, want)
		}
	}
	inputs := []string{"", "7", "x", "TRUE", "#N/A", "=C2", "=C2+A4", "=SUM(B1:C3)", "=DSUM(A1)", "=DCOUNT(C4:D4)", "=IFERROR(B2,0)", "=1/A1"}
	bytes := []string{"\x00", "\x01\x07", "\x02", "\x03", "\x04", "\x05\x02\x01", "\x06\x02\x01\x00\x03", "\x07\x01\x00\x01\x02", "\x08\x00\x00\x00\x00", "\x09\x02\x03\x01\x00", "\x0a\x01\x01", "\x0b\x00\x00"}
	for i, want := range inputs {
		x := script.Read("\x00\x01\x01\x01\x00\x00\x00" + "\x02\x00\x00\x00" + bytes[i])
		if len(x.Ops) != 1 || x.Ops[0].Input != want {
			t.Error("content", i, x.Ops)
		}
	}
}

// P41.4, P41.7, P41.8
func TestAny(t *testing.T) {
	r := rand.New(rand.NewSource(2))
	for range 150 {
		l := make([]byte, r.Intn(120))
		r.Read(l)
		x := script.Read(string(l))
		if e := script.Check(x); e != api.OK || x.Book.Step != 0 || x.Book.Log != nil || x.Book.Releases != nil {
			t.Fatal("Read", l, x, e)
		}
		for _, y := range x.Ops {
			target, ok := op.Target(y)
			if op.Check(y) != api.OK || y.User < 0 || y.User >= x.Book.Users || ok && rect.Check(target) != api.OK {
				t.Fatal("an operation", y)
			}
		}
		a, e := script.Run(x)
		b, f := script.Run(x)
		s, _ := session.New(x.Book)
		c, _ := s.Run(x.Ops...)
		if len(a) != len(x.Ops) || e != api.OK || f != api.OK || !reflect.DeepEqual(a, b) || !reflect.DeepEqual(a, c) {
			t.Fatal("Run", x, a, e)
		}
	}
	l := make([]byte, 40000)
	for i := range l {
		l[i] = 9
	}
	if x := script.Read(string(l)); len(x.Ops) != api.MaxOps || book.Check(x.Book) != api.OK {
		t.Error("Read of many bytes:", len(x.Ops))
	}
}
