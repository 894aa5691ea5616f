package fnum

import (
	"louvre/api"
	"louvre/dec"
	"louvre/val"
)

// operator returns the value of an operator for valid operands.
type operator func(a, b api.Value) api.Value

// operators returns the operators by their numbers.
func operators() [api.Ge + 1]operator {
	return [...]operator{
		api.Add: arithmetic(func(x, y int64) api.Value { return number(dec.Add(x, y)) }),
		api.Sub: arithmetic(func(x, y int64) api.Value { return number(dec.Sub(x, y)) }),
		api.Mul: arithmetic(func(x, y int64) api.Value { return number(dec.Mul(x, y)) }),
		api.Quo: arithmetic(quotient),
		api.Pow: arithmetic(power),
		api.Cat: joined,
		api.Eq:  comparison(func(c int) bool { return c == 0 }),
		api.Ne:  comparison(func(c int) bool { return c != 0 }),
		api.Lt:  comparison(func(c int) bool { return c < 0 }),
		api.Le:  comparison(func(c int) bool { return c <= 0 }),
		api.Gt:  comparison(func(c int) bool { return c > 0 }),
		api.Ge:  comparison(func(c int) bool { return c >= 0 }),
	}
}

// arithmetic returns the operator that converts its operands to numbers.
func arithmetic(f func(x, y int64) api.Value) operator {
	return func(a, b api.Value) api.Value {
		var x, y int64
		if fail, ok := fill([]api.Value{a, b}, &x, &y); !ok {
			return fail
		}
		return f(x, y)
	}
}

// comparison returns the operator that says something about val.Compare of its operands.
func comparison(holds func(c int) bool) operator {
	return func(a, b api.Value) api.Value {
		for _, v := range []api.Value{a, b} {
			if v.Kind == api.Error {
				return v
			}
		}
		c, _ := val.Compare(a, b)
		return val.Truth(holds(c))
	}
}

// joined returns the texts of both operands, joined.
func joined(a, b api.Value) api.Value {
	text := api.Value{Kind: api.Text}
	for _, v := range []api.Value{a, b} {
		s := val.ToText(v)
		if s.Kind == api.Error {
			return s
		}
		text.Text += s.Text
	}
	if len(text.Text) > api.MaxText {
		return val.Fail(api.Val)
	}
	return text
}
