package glyph_test

import (
	"math/rand"
	"strings"
	"testing"

	"louvre/api"
	"louvre/glyph"
)

// random returns a string of some of these bytes.
func random(r *rand.Rand, bytes string, most int) string {
	l := make([]byte, r.Intn(most+1))
	for i := range l {
		l[i] = bytes[r.Intn(len(bytes))]
	}
	return string(l)
}

// every is all bytes.
func every() string {
	l := make([]byte, 256)
	for i := range l {
		l[i] = byte(i)
	}
	return string(l)
}

// P4.1
func TestCheck(t *testing.T) {
	x := func(n int, s string) string { return strings.Repeat(s, n) }
	for s, want := range map[string]api.Errno{
		"":                      api.OK,
		x(256, "x"):             api.OK,
		x(257, "x"):             api.ErrLong,
		"\x1f":                  api.ErrForm,
		x(257, "\x1f"):          api.ErrLong,
		x(255, "x") + "\x7f":    api.ErrForm,
		" ~":                    api.OK,
		"é":                     api.ErrForm,
		"a\nb":                  api.ErrForm,
		"\x00":                  api.ErrForm,
		"a" + x(254, " ") + "b": api.OK,
	} {
		if e := glyph.Check(s); e != want {
			t.Errorf("Check(%q): %d, want %d", s, e, want)
		}
	}
	for i := range 256 {
		if e := glyph.Check(string([]byte{byte(i)})); (e == api.OK) != (i >= 32 && i <= 126) {
			t.Error("Check of the byte", i, e)
		}
	}
}

// P4.2, P4.7
func TestCapitals(t *testing.T) {
	if s := glyph.Upper("aZ_1"); s != "AZ_1" {
		t.Error("Upper", s)
	}
	if s := glyph.Lower("aZ_1"); s != "az_1" {
		t.Error("Lower", s)
	}
	all := every()
	up, low := glyph.Upper(all), glyph.Lower(all)
	for i := range 256 {
		c := byte(i)
		u, l := c, c
		if c >= 'a' && c <= 'z' {
			u = c - 32
		}
		if c >= 'A' && c <= 'Z' {
			l = c + 32
		}
		if up[i] != u || low[i] != l {
			t.Error("the byte", i, up[i], low[i])
		}
	}
	if glyph.Upper(up) != up || glyph.Lower(low) != low || glyph.Upper(low) != up {
		t.Error("Upper and Lower are not idempotent")
	}
}

// P4.3, P4.8
func TestCompare(t *testing.T) {
	for _, x := range []struct {
		a, b string
		want int
	}{{"a", "B", -1}, {"Ab", "aB", 0}, {"a", "", 1}, {"", "", 0}, {"_", "a", 1}, {"ab", "ABC", -1}, {"\x00", "", 1}, {"\xff", "z", 1}, {"[", "z", 1}} {
		if c := glyph.Compare(x.a, x.b); c != x.want {
			t.Error("Compare", x, c)
		}
	}
	r := rand.New(rand.NewSource(1))
	for range 20000 {
		a, b, c := random(r, "aAbB_[", 3), random(r, "aAbB_[", 3), random(r, "aAbB_[", 3)
		ab := glyph.Compare(a, b)
		if ab != -glyph.Compare(b, a) || (ab == 0) != (glyph.Upper(a) == glyph.Upper(b)) || ab < -1 || ab > 1 {
			t.Fatal("Compare", a, b, ab)
		}
		if ab <= 0 && glyph.Compare(b, c) <= 0 && glyph.Compare(a, c) > 0 {
			t.Fatal("Compare is not transitive:", a, b, c)
		}
	}
}

// P4.4, P4.7
func TestTrim(t *testing.T) {
	for s, want := range map[string]string{"  a   b ": "a b", "": "", " ": "", "    ": "", "a": "a", "a b": "a b", "\ta\t": "\ta\t", "a \t  b": "a \t b", "\xa0 ": "\xa0"} {
		if got := glyph.Trim(s); got != want {
			t.Errorf("Trim(%q): %q", s, got)
		}
	}
	r := rand.New(rand.NewSource(2))
	for range 20000 {
		s := random(r, "   aB\t", 9)
		got := glyph.Trim(s)
		if got != strings.Join(strings.FieldsFunc(s, func(c rune) bool { return c == ' ' }), " ") {
			t.Fatalf("Trim(%q): %q", s, got)
		}
		if glyph.Trim(got) != got || glyph.Upper(got) != glyph.Trim(glyph.Upper(s)) {
			t.Fatalf("Trim(%q) again", s)
		}
	}
}

// P4.5, P4.6
func TestQuote(t *testing.T) {
	for s, want := range map[string]string{"a\"b": "\"a\"\"b\"", "": "\"\"", "\"": "\"\"\"\"", " ": "\" \""} {
		if got, e := glyph.Quote(s); got != want || e != api.OK {
			t.Error("Quote", s, got, e)
		}
		if got, e := glyph.Unquote(want); got != s || e != api.OK {
			t.Error("Unquote", want, got, e)
		}
	}
	for s, want := range map[string]api.Errno{strings.Repeat("x", 257): api.ErrLong, strings.Repeat("\n", 257): api.ErrLong, "\n": api.ErrForm, "\x7f": api.ErrForm} {
		if got, e := glyph.Quote(s); got != "" || e != want {
			t.Errorf("Quote(%q): %q, %d", s, got, e)
		}
	}
	long := strings.Repeat("x", 257)
	for s, want := range map[string]api.Errno{"": api.ErrForm, "\"": api.ErrForm, "\"\"\"": api.ErrForm, "a": api.ErrForm, "\"a": api.ErrForm, "a\"": api.ErrForm, "\"a\"b\"": api.ErrForm, "\"\"\"a\"\"\"\"\"": api.OK, "\"a\n\"": api.ErrForm, "\"\x7f\"": api.ErrForm,
		"\"" + long + "\"": api.ErrLong, "\"" + long + "\"\"": api.ErrForm, "\"" + long + "\t\"": api.ErrForm, "\"\"\"\"\"": api.ErrForm, " \"\"": api.ErrForm} {
		if got, e := glyph.Unquote(s); e != want || e != api.OK && got != "" {
			t.Errorf("Unquote(%q): %q, %d", s, got, e)
		}
	}
	quotes := strings.Repeat("\"", 256)
	if s, e := glyph.Quote(quotes); len(s) != 514 || e != api.OK {
		t.Error("Quote of 256 quotes:", len(s), e)
	} else if s, e := glyph.Unquote(s); s != quotes || e != api.OK {
		t.Error("Unquote of 256 quotes:", len(s), e)
	}
	r := rand.New(rand.NewSource(3))
	for range 20000 {
		s := random(r, "\"\"a ~", 6)
		q, _ := glyph.Quote(s)
		if back, e := glyph.Unquote(q); back != s || e != api.OK {
			t.Fatal("Unquote of Quote:", s, q, back, e)
		}
		text, e := glyph.Unquote(s)
		if again, _ := glyph.Quote(text); e == api.OK && again != s {
			t.Fatal("Quote of Unquote:", s, text, again)
		}
	}
}
