package dec_test

import (
	"math/big"
	"math/rand"
	"strings"
	"testing"

	"louvre/api"
	"louvre/dec"
)

// The table of examples of the chapter.
func TestExamples(t *testing.T) {
	const none = "false"
	got := func(v int64, ok bool) string {
		if !ok && v == 0 {
			return none
		}
		return dec.Format(v)
	}
	n := func(s string) int64 {
		v, e := dec.Parse(s)
		if e != api.OK {
			t.Fatal(s, e)
		}
		return v
	}
	for _, x := range []struct{ name, got, want string }{
		{"Add", got(dec.Add(n("1.5"), n("2.25"))), "3.75"},
		{"Sub", got(dec.Sub(n("1"), n("1.0001"))), "-0.0001"},
		{"Add", got(dec.Add(n("922337203685477.5807"), n("0.0001"))), none},
		{"Mul", got(dec.Mul(n("1.5"), n("2.5"))), "3.75"},
		{"Mul", got(dec.Mul(n("0.0001"), n("0.5"))), "0.0001"},
		{"Mul", got(dec.Mul(n("-0.0001"), n("0.5"))), "-0.0001"},
		{"Mul", got(dec.Mul(n("0.0001"), n("0.4999"))), "0"},
		{"Quo", got(dec.Quo(n("1"), n("3"))), "0.3333"},
		{"Quo", got(dec.Quo(n("2"), n("3"))), "0.6667"},
		{"Quo", got(dec.Quo(n("-1"), n("8000"))), "-0.0001"},
		{"Quo", got(dec.Quo(n("1"), 0)), none},
		{"Quo", got(dec.Quo(least, n("-1"))), none},
		{"Round", got(dec.Round(n("2.5"), 0)), "3"},
		{"Round", got(dec.Round(n("-1.2345"), 3)), "-1.235"},
		{"Round", got(dec.Round(n("1234.5"), -2)), "1200"},
		{"Round", got(dec.Round(n("50"), -2)), "100"},
		{"Round", got(dec.Round(n("1.2345"), 9)), "1.2345"},
		{"Round", got(dec.Round(greatest, -15)), none},
		{"Round", got(dec.Round(n("400000000000000"), -15)), "0"},
		{"Round", got(dec.Round(greatest, -16)), "0"},
		{"Trunc", dec.Format(dec.Trunc(n("-1.9"))), "-1"},
		{"Floor", got(dec.Floor(n("-1.9"))), "-2"},
		{"Floor", got(dec.Floor(n("2"))), "2"},
		{"Floor", got(dec.Floor(-greatest)), none},
		{"Sqrt", got(dec.Sqrt(n("2"))), "1.4142"},
		{"Sqrt", got(dec.Sqrt(n("0.0001"))), "0.01"},
		{"Sqrt", got(dec.Sqrt(n("-1"))), none},
		{"Power", got(dec.Power(n("2"), 10)), "1024"},
		{"Power", got(dec.Power(n("2"), -2)), "0.25"},
		{"Power", got(dec.Power(n("0.01"), 3)), "0"},
		{"Power", got(dec.Power(0, 0)), "1"},
		{"Power", got(dec.Power(0, -1)), none},
		{"Power", got(dec.Power(n("10"), 15)), none},
		{"Power", got(dec.Power(n("1"), 1001)), none},
		{"Sum", got(dec.Sum(n("922337203685477"), n("1"), n("-922337203685477"))), "1"},
		{"Mean", got(dec.Mean(n("1"), n("2"), n("2"))), "1.6667"},
		{"Mean", got(dec.Mean(n("0.0001"), 0)), "0.0001"},
		{"Mean", got(dec.Mean()), none},
		{"Parse", dec.Format(n("-0012.34565")), "-12.3457"},
		{"Parse", dec.Format(n("-0")), "0"},
		{"Format", dec.Format(0), "0"},
		{"Format", dec.Format(-5000), "-0.5"},
		{"Format", dec.Format(12_3400), "12.34"},
		{"Format", dec.Format(least), "-922337203685477.5808"},
	} {
		if x.got != x.want {
			t.Errorf("%s: %s, want %s", x.name, x.got, x.want)
		}
	}
}

// P1.6
func TestParse(t *testing.T) {
	for _, s := range []string{"", "-", ".", "1.", ".5", "-.5", "+1", "1.-5", "--1", "1.2.3", " 1", "1 ", "1e3", "0x1", "1,5", "1_0", "x", "\x00", "٣", "1.x", "99999999999999999999."} {
		if v, e := dec.Parse(s); v != 0 || e != api.ErrForm {
			t.Errorf("Parse(%q): %d, %d", s, v, e)
		}
	}
	for _, s := range []string{"922337203685477.5808", "922337203685477.58075", "-922337203685477.5808", "-922337203685477.58075", "922337203685478", "1" + strings.Repeat("0", 1000), "9999999999999999999999.5"} {
		if v, e := dec.Parse(s); v != 0 || e != api.ErrRange {
			t.Errorf("Parse(%q): %d, %d", s, v, e)
		}
	}
	for s, want := range map[string]int64{
		"922337203685477.5807":    greatest,
		"922337203685477.580749":  greatest,
		"-922337203685477.580749": -greatest,
		"0.00004999":              0,
		"-0.00005":                -1,
		"0.99995":                 1_0000,
		strings.Repeat("0", 1000) + "7." + strings.Repeat("9", 3) + strings.Repeat("0", 1000): 7_9990,
	} {
		if v, e := dec.Parse(s); v != want || e != api.OK {
			t.Errorf("Parse(%q): %d, %d", s, v, e)
		}
	}
}

// P1.6: what is read is the number that the text says, rounded.
func TestParseExact(t *testing.T) {
	r := rand.New(rand.NewSource(3))
	for range 20000 {
		whole, part := digits(r, 1+r.Intn(18)), digits(r, 1+r.Intn(8))
		d := new(big.Int).Exp(number(10), number(int64(len(part))), nil)
		n, _ := new(big.Int).SetString(whole+part, 10)
		s := whole + "." + part
		if r.Intn(2) == 0 {
			s, n = "-"+s, n.Neg(n)
		}
		v, e := dec.Parse(s)
		w, in := want(rounded(n.Mul(n, number(10000)), d))
		if v != w || (e == api.OK) != in || !in && e != api.ErrRange {
			t.Fatal("Parse", s, v, e, "want", w, in)
		}
	}
}

func digits(r *rand.Rand, n int) string {
	s := ""
	for range n {
		s += string("0123456789005599"[r.Intn(16)])
	}
	return s
}

// P1.7, P1.8
func TestFormat(t *testing.T) {
	pairs(func(a, _ int64) {
		s := dec.Format(a)
		if v, e := dec.Parse(s); a != least && (v != a || e != api.OK) {
			t.Fatal("Parse of Format of", a, "is", v, e)
		}
		body := strings.TrimPrefix(s, "-")
		whole, part, point := strings.Cut(body, ".")
		if strings.HasPrefix(s, "-") != (a < 0) || whole == "" || len(whole) > 1 && whole[0] == '0' || point && (part == "" || len(part) > 4 || strings.HasSuffix(part, "0")) {
			t.Fatal("Format of", a, "is", s)
		}
	})
	for _, s := range []string{"007.10", "0.0", "-1.50", "12", "-0", "0000.0001"} {
		v, _ := dec.Parse(s)
		if short := dec.Format(v); len(short) > len(s) {
			t.Error("Format of", s, "is", short)
		}
	}
}
