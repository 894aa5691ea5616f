package sample

import (
	"louvre/addr"
	"louvre/api"
	"louvre/rect"
)

// Pick returns a number from 0 to n - 1.
type Pick func(n int) int

// The addresses of random books are in the first columns and rows.
const (
	cols = 4
	rows = 5
)

// Area is the range in which random books have their cells.
func Area() api.Rect {
	return api.Rect{C1: 1, R1: 1, C2: cols, R2: rows}
}

// Random returns a small book; in every other one an owner hides a range from all others, and grants aggregates over it.
func Random(pick Pick) api.Book {
	b := api.Book{Users: 1 + pick(4)}
	b.Rules = []api.Rule{{Rect: Whole(), Rights: rights(pick, b.Users)}}
	for range pick(4) {
		b.Rules = append(b.Rules, api.Rule{Rect: place(pick), Rights: rights(pick, b.Users)})
	}
	if owner := pick(b.Users); pick(2) == 0 {
		area, only := released(pick), uint64(1)<<owner
		b.Rules = append(b.Rules, api.Rule{Rect: area, Rights: api.Rights{Read: only, Write: only, Own: only}})
		b.Grants = append(b.Grants, api.Grant{Rect: area, Fns: uint8(1 + pick(31)), To: crowd(pick, b.Users), By: owner})
	}
	inputs := map[api.Ref]string{}
	for range pick(cols * rows) {
		inputs[spot(pick)] = input(pick)
	}
	b.Entries = listed(inputs)
	for range pick(6) {
		b.Grants = append(b.Grants, api.Grant{Rect: released(pick), Fns: uint8(1 + pick(31)), To: crowd(pick, b.Users), By: pick(b.Users), Revoked: pick(9) == 0})
	}
	return b
}

// Op returns an operation on a book with so many users; few are refused in every book, or not well formed.
func Op(pick Pick, users int) api.Op {
	x := api.Op{Kind: uint8(1 + pick(int(api.Ops))), User: pick(users)}
	switch x.Kind {
	case api.OpSet:
		x.Rect, x.Input = rect.One(spot(pick)), input(pick)
		if pick(12) == 0 {
			x.Input = []string{"=1+", "=FOO(1)", "=A1:B2", "=DSUM(1)"}[pick(4)]
		}
	case api.OpClear, api.OpRead:
		x.Rect = place(pick)
	case api.OpFormula:
		x.Rect = rect.One(spot(pick))
	case api.OpRule:
		x.Rect, x.Rights = place(pick), rights(pick, users)
	case api.OpGrant:
		x.Rect, x.Fns, x.To = released(pick), uint8(1+pick(31)), crowd(pick, users)
	case api.OpRevoke:
		x.Index = pick(4)
	}
	switch pick(60) {
	case 0:
		x.User = users
	case 1:
		x.Rect.C2 = api.MaxCol + 1
	case 2:
		x.Index++
	case 3:
		x.To |= 1 << users
	}
	return x
}

// spot returns an address.
func spot(pick Pick) api.Ref {
	return api.Ref{Col: 1 + pick(cols), Row: 1 + pick(rows)}
}

// place returns a range.
func place(pick Pick) api.Rect {
	a, b := spot(pick), spot(pick)
	return api.Rect{C1: min(a.Col, b.Col), R1: min(a.Row, b.Row), C2: max(a.Col, b.Col), R2: max(a.Row, b.Row)}
}

// released returns one of a few ranges, for released functions and their grants.
func released(pick Pick) api.Rect {
	return Rect([]string{"A1:B2", "B1:B3", "C1"}[pick(3)])
}

// crowd returns a set of users.
func crowd(pick Pick, users int) uint64 {
	return uint64(pick(1 << users))
}

// rights returns rights that many users have.
func rights(pick Pick, users int) api.Rights {
	all := uint64(1)<<users - 1
	most := func() uint64 {
		if pick(2) == 0 {
			return all
		}
		return crowd(pick, users)
	}
	return api.Rights{Read: most(), Write: most(), Own: most()}
}

// input returns the input of a cell.
func input(pick Pick) string {
	a, b := name(rect.One(spot(pick))), name(rect.One(spot(pick)))
	r, d := name(place(pick)), name(released(pick))
	fn := []string{"DSUM", "DCOUNT", "DAVG", "DMIN", "DMAX"}[pick(5)]
	l := []string{"", "7", "-2.5", "x", "TRUE", "#N/A", "=" + a, "=" + a + "+" + b, "=SUM(" + r + ")", "=" + fn + "(" + d + ")", "=" + fn + "(" + d + ")+" + a, "=IFERROR(" + a + ",0)", "=1/" + a, "=IF(" + a + ">1," + fn + "(" + d + ")," + b + ")", "=COUNTBLANK(" + r + ")&\"y\""}
	return l[pick(len(l))]
}

// name returns the text of a range.
func name(r api.Rect) string {
	s, _ := rect.Format(r)
	return s
}

// Cells returns all addresses of the area of random books, and one beside it.
func Cells() []api.Ref {
	var l []api.Ref
	for i := range cols * rows {
		l = append(l, api.Ref{Col: 1 + i%cols, Row: 1 + i/cols})
	}
	at, _ := addr.Parse("H9")
	return append(l, at)
}
