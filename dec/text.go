package dec

import (
	"math"
	"strconv"
	"strings"

	"louvre/api"
)

// Parse reads a number.
func Parse(s string) (int64, api.Errno) {
	digits, negative := strings.CutPrefix(s, "-")
	whole, part, point := strings.Cut(digits, ".")
	if !allDigits(whole) || point && !allDigits(part) {
		return 0, api.ErrForm
	}
	m, ok := scaled(whole, part)
	if !ok {
		return 0, api.ErrRange
	}
	if negative {
		return -m, api.OK
	}
	return m, api.OK
}

// allDigits reports whether s is one or more digits.
func allDigits(s string) bool {
	for i := range len(s) {
		if s[i] < '0' || s[i] > '9' {
			return false
		}
	}
	return s != ""
}

// scaled returns the number with these digits before and behind the point, rounded to four places; false: it is too great.
func scaled(whole, part string) (int64, bool) {
	m, ok := int64(0), true
	push := func(digit int64) {
		if m > (math.MaxInt64-digit)/10 {
			ok = false
			return
		}
		m = m*10 + digit
	}
	for i := range len(whole) {
		push(digitAt(whole, i))
	}
	for i := range decimals {
		push(digitAt(part, i))
	}
	// The first digit that is left decides: half is rounded away from zero.
	if ok && digitAt(part, decimals) >= 5 {
		m, ok = Add(m, 1)
	}
	return m, ok
}

// digitAt returns the digit i of s, 0 behind its end.
func digitAt(s string, i int) int64 {
	if i >= len(s) {
		return 0
	}
	return int64(s[i] - '0')
}

// Format writes a number.
func Format(a int64) string {
	m := size(a)
	text := strconv.FormatUint(m/api.Unit, 10)
	if a < 0 {
		text = "-" + text
	}
	rest := m % api.Unit
	if rest == 0 {
		return text
	}
	part := [decimals]byte{}
	for i := range decimals {
		part[decimals-1-i] = byte('0' + rest%10)
		rest /= 10
	}
	return text + "." + strings.TrimRight(string(part[:]), "0")
}
