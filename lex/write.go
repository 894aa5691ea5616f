package lex

import (
	"slices"
	"strings"

	"louvre/api"
	"louvre/dec"
	"louvre/glyph"
	"louvre/rect"
	"louvre/val"
)

// Write writes tokens as a text.
func Write(l ...api.Token) (string, api.Errno) {
	var b strings.Builder
	size := 0
	for _, t := range l {
		s := written(t)
		if !occurs(t, s) {
			return "", api.ErrArg
		}
		size += len(s)
		if size <= api.MaxInput {
			b.WriteString(s)
		}
	}
	if size > api.MaxInput {
		return "", api.ErrLong
	}
	read, _, e := Tokens(b.String())
	if e != api.OK || !slices.EqualFunc(read, l, same) {
		return "", api.ErrForm
	}
	return b.String(), api.OK
}

// written returns the text of a token; of one that does not occur it may return anything.
func written(t api.Token) string {
	s := ""
	switch t.Kind {
	case api.TkNumber:
		s = dec.Format(t.Num)
	case api.TkText:
		s, _ = glyph.Quote(t.Text)
	case api.TkBool:
		s = val.Show(api.Value{Kind: api.Bool, Num: t.Num})
	case api.TkError:
		s = val.Show(val.Fail(t.Num))
	case api.TkRef, api.TkRange:
		s, _ = rect.Format(t.Rect)
	case api.TkName:
		s = t.Text
	default:
		for _, x := range symbols {
			if x.kind == t.Kind && x.num == t.Num {
				s = x.text
			}
		}
	}
	return s
}

// occurs reports whether a token, written as s, is in the result of Tokens for some formula.
func occurs(t api.Token, s string) bool {
	if t.Kind == api.TkName {
		s += "("
	}
	l, _, e := Tokens(s)
	return e == api.OK && len(l) > 0 && same(l[0], t)
}

// same reports whether two tokens are the same, wherever they begin.
func same(a, b api.Token) bool {
	a.At, b.At = 0, 0
	return a == b
}
