package script

import (
	"cmp"
	"slices"
	"strconv"

	"louvre/api"
	"louvre/op"
)

// source is the bytes from which a script is read that may be any.
type source struct {
	rest  string
	users int
}

// Read returns the script that is read from any bytes.
func Read(s string) api.Script {
	g := &source{rest: s}
	g.users = 1 + g.take(4)
	b := api.Book{Users: g.users}
	b.Rules = []api.Rule{{Rect: api.Rect{C1: 1, R1: 1, C2: api.MaxCol, R2: api.MaxRow}, Rights: g.rights()}}
	for range g.take(3) {
		b.Rules = append(b.Rules, api.Rule{Rect: g.field(), Rights: g.rights()})
	}
	b.Entries = g.entries()
	for range g.take(3) {
		b.Grants = append(b.Grants, api.Grant{Rect: g.field(), Fns: g.fns(), To: g.crowd(), By: g.take(g.users)})
	}
	var l []api.Op
	for g.rest != "" && len(l) < api.MaxOps {
		l = append(l, g.op())
	}
	return api.Script{Book: b, Ops: l}
}

// take returns the next byte modulo n, 0 if there is none.
func (g *source) take(n int) int {
	if g.rest == "" {
		return 0
	}
	c := int(g.rest[0])
	g.rest = g.rest[1:]
	return c % n
}

// spot returns an address.
func (g *source) spot() api.Ref {
	return api.Ref{Col: 1 + g.take(3), Row: 1 + g.take(4)}
}

// field returns a range.
func (g *source) field() api.Rect {
	at := g.spot()
	return api.Rect{C1: at.Col, R1: at.Row, C2: at.Col + g.take(2), R2: at.Row + g.take(3)}
}

// crowd returns a set of users.
func (g *source) crowd() uint64 {
	return uint64(g.take(1 << g.users))
}

// rights returns rights of three sets of users.
func (g *source) rights() api.Rights {
	return api.Rights{Read: g.crowd(), Write: g.crowd(), Own: g.crowd()}
}

// fns returns a set of functions.
func (g *source) fns() uint8 {
	return uint8(1 + g.take(31))
}

// content returns an input.
func (g *source) content() string {
	switch k := g.take(12); k {
	case 0:
		return ""
	case 1:
		return strconv.Itoa(g.take(10))
	case 2:
		return "x"
	case 3:
		return "TRUE"
	case 4:
		return "#N/A"
	case 5:
		return "=" + name(g.spot())
	case 6:
		return "=" + name(g.spot()) + "+" + name(g.spot())
	case 10:
		return "=IFERROR(" + name(g.spot()) + ",0)"
	case 11:
		return "=1/" + name(g.spot())
	default:
		return "=" + []string{"SUM", "DSUM", "DCOUNT"}[k-7] + "(" + area(g.field()) + ")"
	}
}

// entries returns entries in their order; of several ones for an address the last one counts.
func (g *source) entries() []api.Entry {
	inputs := map[api.Ref]string{}
	for range g.take(8) {
		at := g.spot()
		inputs[at] = g.content()
	}
	var l []api.Entry
	for at, input := range inputs {
		if input != "" {
			l = append(l, api.Entry{At: at, Input: input})
		}
	}
	slices.SortFunc(l, func(a, b api.Entry) int {
		return cmp.Or(cmp.Compare(a.At.Row, b.At.Row), cmp.Compare(a.At.Col, b.At.Col))
	})
	return l
}

// op returns a well-formed operation.
func (g *source) op() api.Op {
	x := api.Op{Kind: uint8(1 + g.take(int(api.Ops))), User: g.take(g.users)}
	switch x.Kind {
	case api.OpSet, api.OpFormula:
		at := g.spot()
		x.Rect = api.Rect{C1: at.Col, R1: at.Row, C2: at.Col, R2: at.Row}
	default:
		if _, ok := op.Target(x); ok {
			x.Rect = g.field()
		}
	}
	switch x.Kind {
	case api.OpSet:
		x.Input = g.content()
	case api.OpRule:
		x.Rights = g.rights()
	case api.OpGrant:
		x.Fns, x.To = g.fns(), g.crowd()
	case api.OpRevoke:
		x.Index = g.take(4)
	}
	return x
}

// name returns the text of an address; its column has one letter.
func name(at api.Ref) string {
	return string(rune('A'+at.Col-1)) + strconv.Itoa(at.Row)
}

// area returns the text of a range.
func area(r api.Rect) string {
	first, last := api.Ref{Col: r.C1, Row: r.R1}, api.Ref{Col: r.C2, Row: r.R2}
	if first == last {
		return name(first)
	}
	return name(first) + ":" + name(last)
}
