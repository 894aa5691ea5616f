package op_test

import (
	"math"
	"math/rand"
	"strings"
	"testing"

	"louvre/api"
	"louvre/op"
	"louvre/rect"
	"louvre/sample"
)

var one = sample.Rect("B2")

// full is an operation all of whose fields are used by no kind.
var full = api.Op{User: 1, Rect: one, Input: "x", Rights: api.Rights{Read: 1, Write: 2, Own: 4}, Fns: 3, To: 5, Index: 6}

// P29.1
func TestCheck(t *testing.T) {
	long := strings.Repeat("x", 256)
	outside := api.Rect{C1: -5, R1: 9999, C2: -5, R2: 9999}
	for _, x := range []struct {
		x    api.Op
		want api.Errno
	}{
		{api.Op{Kind: api.OpLogin}, api.OK}, {api.Op{Kind: api.OpLogout, User: math.MinInt}, api.OK}, {api.Op{Kind: api.OpSet, Rect: one}, api.OK}, {api.Op{Kind: api.OpSet, Rect: one, Input: long}, api.OK}, {api.Op{Kind: api.OpSet, Rect: outside, Input: "=("}, api.OK}, {api.Op{Kind: api.OpSet}, api.OK}, {api.Op{Kind: api.OpClear}, api.OK}, {api.Op{Kind: api.OpRead, Rect: sample.Rect("A1:B9")}, api.OK}, {api.Op{Kind: api.OpRead, Rect: outside}, api.OK}, {api.Op{Kind: api.OpFormula, Rect: outside}, api.OK}, {api.Op{Kind: api.OpRule, Rights: api.Rights{Read: math.MaxUint64}}, api.OK}, {api.Op{Kind: api.OpGrant, Fns: 31, To: math.MaxUint64}, api.OK}, {api.Op{Kind: api.OpRevoke, Index: -7}, api.OK}, {api.Op{Kind: api.OpAudit, User: 99}, api.OK},
		{api.Op{}, api.ErrForm}, {api.Op{Kind: 11}, api.ErrForm}, {api.Op{Kind: 255}, api.ErrForm}, {api.Op{Kind: api.OpLogin, Index: 1}, api.ErrForm}, {api.Op{Kind: api.OpSet, Rect: sample.Rect("A1:A2")}, api.ErrForm}, {api.Op{Kind: api.OpSet, Rect: sample.Rect("A1:B1")}, api.ErrForm}, {api.Op{Kind: api.OpFormula, Rect: sample.Rect("A1:A2")}, api.ErrForm}, {api.Op{Kind: api.OpFormula, Rect: sample.Rect("A1:B1")}, api.ErrForm}, {api.Op{Kind: api.OpSet, Rect: one, Input: long + "x"}, api.ErrForm}, {api.Op{Kind: api.OpSet, Rect: one, Input: "a\n"}, api.ErrForm}, {api.Op{Kind: api.OpSet, Rect: one, Input: "\x7f"}, api.ErrForm}, {api.Op{Kind: api.OpGrant}, api.ErrForm}, {api.Op{Kind: api.OpGrant, Fns: 32}, api.ErrForm}, {api.Op{Kind: api.OpGrant, Fns: 255}, api.ErrForm},
	} {
		if e := op.Check(x.x); e != x.want {
			t.Error("Check", x.x, e)
		}
	}
	// Each field that a kind does not use makes an operation ill formed.
	uses := map[uint8]string{api.OpLogin: "", api.OpLogout: "", api.OpSet: "RI", api.OpClear: "R", api.OpRead: "R", api.OpFormula: "R", api.OpRule: "RG", api.OpGrant: "RFT", api.OpRevoke: "X", api.OpAudit: ""}
	for kind, fields := range uses {
		for field, change := range map[string]func(x *api.Op){"R": func(x *api.Op) { x.Rect = one }, "I": func(x *api.Op) { x.Input = "x" }, "G": func(x *api.Op) { x.Rights.Own = 1 }, "F": func(x *api.Op) { x.Fns = 1 }, "T": func(x *api.Op) { x.To = 1 }, "X": func(x *api.Op) { x.Index = 1 }} {
			x := api.Op{Kind: kind}
			if kind == api.OpGrant {
				x.Fns = 2
			}
			change(&x)
			if e := op.Check(x); (e == api.OK) != strings.Contains(fields, field) {
				t.Error("Check", x, e)
			}
		}
	}
}

// P29.2, P29.5, P29.6
func TestPlain(t *testing.T) {
	for kind := range 256 {
		x := full
		x.Kind = uint8(kind)
		want := api.Op{Kind: x.Kind, User: 1}
		target := true
		switch x.Kind {
		case api.OpLogin, api.OpLogout, api.OpAudit:
			target = false
		case api.OpSet:
			want.Rect, want.Input = one, "x"
		case api.OpClear, api.OpRead, api.OpFormula:
			want.Rect = one
		case api.OpRule:
			want.Rect, want.Rights = one, full.Rights
		case api.OpGrant:
			want.Rect, want.Fns, want.To = one, 3, 5
		case api.OpRevoke:
			target, want.Index = false, 6
		default:
			target, want.User = false, 0
		}
		p := op.Plain(x)
		if p != want || op.Plain(p) != p {
			t.Error("Plain", kind, p)
		}
		r, ok := op.Target(x)
		if ok != target || ok && r != one || !ok && r != (api.Rect{}) {
			t.Error("Target", kind, r, ok)
		}
		mutates := kind == 3 || kind == 4 || kind == 7 || kind == 8 || kind == 9
		if op.Mutates(x) != mutates || op.Mutates(p) != mutates || mutates && !ok && x.Kind != api.OpRevoke {
			t.Error("Mutates", kind)
		}
		if s, f := op.Target(p); s != r || f != ok {
			t.Error("Target of Plain", kind)
		}
	}
}

// P29.3
func TestLines(t *testing.T) {
	for s, x := range map[string]api.Op{
		"set 1 B2 \"=A1&\"\"x\"\"\"": {Kind: api.OpSet, User: 1, Rect: one, Input: "=A1&\"x\""}, "rule 0 A1:B3 0-2 0 -": {Kind: api.OpRule, Rect: sample.Rect("A1:B3"), Rights: api.Rights{Read: 7, Write: 1}}, "read -1 0,1,2,2": {Kind: api.OpRead, User: -1, Rect: api.Rect{R1: 1, C2: 2, R2: 2}}, "grant 2 A1 3 -": {Kind: api.OpGrant, User: 2, Rect: sample.Rect("A1"), Fns: 3}, "revoke 0 -1": {Kind: api.OpRevoke, Index: -1},
		"login 0": {Kind: api.OpLogin}, "logout 63": {Kind: api.OpLogout, User: 63}, "audit -9223372036854775808": {Kind: api.OpAudit, User: math.MinInt}, "clear 1 A1:AMJ1024": {Kind: api.OpClear, User: 1, Rect: sample.Whole()}, "formula 0 0,0,0,0": {Kind: api.OpFormula}, "set 0 A1 \"\"": {Kind: api.OpSet, Rect: sample.Rect("A1")}, "set 0 A1 \"a  b \"": {Kind: api.OpSet, Rect: sample.Rect("A1"), Input: "a  b "}, "grant 0 A1 31 *": {Kind: api.OpGrant, Rect: sample.Rect("A1"), Fns: 31, To: math.MaxUint64}, "read 0 2,1,1,1": {Kind: api.OpRead, Rect: api.Rect{C1: 2, R1: 1, C2: 1, R2: 1}}, "read 0 9223372036854775807,-9223372036854775808,1,1025": {Kind: api.OpRead, Rect: api.Rect{C1: math.MaxInt, R1: math.MinInt, C2: 1, R2: 1025}},
	} {
		if got, e := op.Format(x); got != s || e != api.OK {
			t.Error("Format", x, got, e)
		}
		if got, e := op.Parse(s); got != x || e != api.OK {
			t.Error("Parse", s, got, e)
		}
	}
	for _, s := range []string{
		"", " ", "login", "login ", "login 0 ", " login 0", "login  0", "Login 0", "login 00", "login -0", "login +0", "login 0x1", "login 0 0", "login x", "login 99999999999999999999", "foo 0", "audit 00", "set 0 A1 x", "set 0 A1", "set 0 A1 ", "set 0 A1 \"", "set 0 A1 \"x\" ", "set 0 A1 \"x\" y", "set 0 A1:A2 \"\"", "set 0 A1  \"\"", "set 0 A1 \"\n\"", "set 0 A1 \"a\"b\"", "set 0 A1 \"" + strings.Repeat("x", 257) + "\"", "read 0 1,1,1,1", "read 0 a1", "read 0 A1:A1", "read 0 B2:A1", "read 0 A9999", "read 0 1,2,3", "read 0 1,2,3,4,5", "read 0 0,01,0,0", "read 0 0,+1,0,0", "read 0 0,,0,0", "read 0", "read 0 A1 A1", "formula 0 A1:B1", "rule 0 A1 - -", "rule 0 A1 - - - -", "rule 0 A1 1,0 - -", "rule 0 A1 0,1,2 - -", "grant 0 A1 0 -", "grant 0 A1 32 -", "grant 0 A1 257 -", "grant 0 A1 -1 -", "grant 0 A1 1", "grant 0 A1 01 -", "grant 0 A1 1 x", "revoke 0", "revoke 0 1 1", "revoke 0 A1", "login 0\n", "\x00 0", "clear 0 A1 \"\"",
	} {
		if x, e := op.Parse(s); x != (api.Op{}) || e != api.ErrForm {
			t.Errorf("Parse(%q): %v, %d", s, x, e)
		}
	}
	for _, x := range []api.Op{{}, {Kind: 11}, full, {Kind: api.OpSet, Rect: sample.Rect("A1:A2")}, {Kind: api.OpGrant}} {
		if s, e := op.Format(x); s != "" || e != api.ErrForm {
			t.Error("Format", x, s, e)
		}
	}
}

// P29.4, P29.5
func TestRandom(t *testing.T) {
	r := rand.New(rand.NewSource(1))
	for range 20000 {
		x := sample.Op(r.Intn, 4)
		if r.Intn(9) == 0 {
			x.User = int(r.Uint64())
		}
		if r.Intn(9) == 0 && (x.Kind == api.OpRead || x.Kind == api.OpRule) {
			x.Rect = api.Rect{C1: int(r.Uint64()), R1: r.Intn(3), C2: r.Intn(2000), R2: r.Intn(2000)}
		}
		s, e := op.Format(x)
		if e != op.Check(x) {
			t.Fatal("Format", x, s, e)
		}
		if e != api.OK {
			continue
		}
		if op.Plain(x) != x {
			t.Fatal("Plain", x)
		}
		if y, e := op.Parse(s); y != x || e != api.OK {
			t.Fatal("Parse", s, y, e)
		}
		k := r.Intn(len(s))
		other := s[:k] + string("0123456789-,* AB\":setx"[r.Intn(22)]) + s[k+1:]
		if y, e := op.Parse(other); e == api.OK {
			if back, _ := op.Format(y); back != other {
				t.Fatal("Parse accepts", other, y)
			}
		}
	}
	if r, ok := op.Target(api.Op{Kind: api.OpSet, Rect: rect.One(api.Ref{Col: -1, Row: 7})}); r != (api.Rect{C1: -1, R1: 7, C2: -1, R2: 7}) || !ok {
		t.Error("Target of an operation outside of the sheet:", r, ok)
	}
}
