package agg

import (
	"slices"

	"louvre/api"
	"louvre/dec"
	"louvre/rect"
	"louvre/val"
)

// value returns the value of a function for valid arguments.
func value(fn uint8, args []api.Arg) api.Value {
	switch fn {
	case api.FnCount, api.FnDCount:
		return count(args, func(v api.Value) bool { return v.Kind == api.Number })
	case api.FnCountA:
		return count(args, func(v api.Value) bool { return true })
	case api.FnCountBlank:
		a := areaOf(args[0])
		return number(size(a) - len(a.Cells))
	case api.FnLarge, api.FnSmall:
		return ranked(fn, args)
	case api.FnIndex:
		return index(areaOf(args[0]), args[1:])
	case api.FnMatch:
		return match(args[0].V, areaOf(args[1]))
	case api.FnCountIf:
		return countIf(areaOf(args[0]), args[1].V)
	}
	l, fail, ok := Numbers(args...)
	if !ok {
		return fail
	}
	return ofNumbers()[fn](l)
}

// ofNumbers returns the functions of numbers alone.
func ofNumbers() map[uint8]func(l []int64) api.Value {
	return map[uint8]func(l []int64) api.Value{
		api.FnSum: sum, api.FnDSum: sum,
		api.FnProduct: product,
		api.FnAverage: mean, api.FnDAvg: mean,
		api.FnMin: least, api.FnDMin: least,
		api.FnMax: greatest, api.FnDMax: greatest,
		api.FnMedian: median,
	}
}

// sum is SUM.
func sum(l []int64) api.Value {
	return result(dec.Sum(l...))
}

// product is PRODUCT.
func product(l []int64) api.Value {
	if len(l) == 0 {
		return val.Make(0)
	}
	p, ok := int64(api.Unit), true
	for _, n := range l {
		if p, ok = dec.Mul(p, n); !ok {
			break
		}
	}
	return result(p, ok)
}

// mean is AVERAGE.
func mean(l []int64) api.Value {
	if len(l) == 0 {
		return val.Fail(api.Div)
	}
	return result(dec.Mean(l...))
}

// least is MIN.
func least(l []int64) api.Value {
	if len(l) == 0 {
		return val.Make(0)
	}
	return val.Make(slices.Min(l))
}

// greatest is MAX.
func greatest(l []int64) api.Value {
	if len(l) == 0 {
		return val.Make(0)
	}
	return val.Make(slices.Max(l))
}

// median is MEDIAN.
func median(l []int64) api.Value {
	if len(l) == 0 {
		return val.Fail(api.Num)
	}
	slices.Sort(l)
	return result(dec.Mean(l[(len(l)-1)/2], l[len(l)/2]))
}

// ranked is LARGE and SMALL.
func ranked(fn uint8, args []api.Arg) api.Value {
	l, fail, ok := Numbers(args[0])
	if !ok {
		return fail
	}
	k, fail, ok := whole(args[1].V)
	if !ok {
		return fail
	}
	if k < 1 || k > int64(len(l)) {
		return val.Fail(api.Num)
	}
	slices.Sort(l)
	if fn == api.FnLarge {
		slices.Reverse(l)
	}
	return val.Make(l[k-1])
}

// count returns how many values of the arguments that are not blank are of a kind.
func count(args []api.Arg, kind func(v api.Value) bool) api.Value {
	n := 0
	for _, a := range args {
		for _, c := range areaOf(a).Cells {
			if kind(c.V) {
				n++
			}
		}
	}
	return number(n)
}

// countIf is COUNTIF.
func countIf(a api.Area, v api.Value) api.Value {
	if v.Kind == api.Error {
		return v
	}
	n := 0
	if equal(api.Value{}, v) {
		n = size(a) - len(a.Cells)
	}
	for _, c := range a.Cells {
		if equal(c.V, v) {
			n++
		}
	}
	return number(n)
}

// match is MATCH.
func match(v api.Value, a api.Area) api.Value {
	if v.Kind == api.Error {
		return v
	}
	blank := equal(api.Value{}, v)
	next := 0 // the position of the first address that was not looked at
	for _, c := range a.Cells {
		i := position(a.Rect, c.At)
		if blank && i > next {
			break
		}
		if equal(c.V, v) {
			return number(i + 1)
		}
		next = i + 1
	}
	if blank && next < size(a) {
		return number(next + 1)
	}
	return val.Fail(api.NA)
}

// index is INDEX.
func index(a api.Area, args []api.Arg) api.Value {
	var l []int64
	for _, x := range args {
		n, fail, ok := whole(x.V)
		if !ok {
			return fail
		}
		l = append(l, n)
	}
	at, ok := place(a.Rect, l)
	if !ok {
		return val.Fail(api.Bad)
	}
	for _, c := range a.Cells {
		if c.At == at {
			return c.V
		}
	}
	return api.Value{}
}

// place returns the address of a range that has a number, or a row and a column, from 1 on.
func place(r api.Rect, l []int64) (api.Ref, bool) {
	cols, rows := int64(r.C2-r.C1+1), int64(r.R2-r.R1+1)
	i := l[0] - 1
	if len(l) == 2 {
		if l[0] < 1 || l[0] > rows || l[1] < 1 || l[1] > cols {
			return api.Ref{}, false
		}
		i = i*cols + l[1] - 1
	}
	if i < 0 || i >= rows*cols {
		return api.Ref{}, false
	}
	return api.Ref{Col: r.C1 + int(i%cols), Row: r.R1 + int(i/cols)}, true
}

// equal reports whether two values are equal; error values are not.
func equal(a, b api.Value) bool {
	c, e := val.Compare(a, b)
	return e == api.OK && c == 0
}

// size returns the number of addresses of an area.
func size(a api.Area) int {
	n, _ := rect.Area(a.Rect)
	return n
}

// number returns a number of values.
func number(n int) api.Value {
	return val.Make(int64(n) * api.Unit)
}

// result returns a result of package dec.
func result(n int64, ok bool) api.Value {
	if !ok {
		return val.Fail(api.Num)
	}
	return val.Make(n)
}
