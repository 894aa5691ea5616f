package group_test

import (
	"math"
	"math/bits"
	"math/rand"
	"slices"
	"strings"
	"testing"

	"louvre/api"
	"louvre/group"
)

// sets calls f for all sets of few users, and for random ones.
func sets(f func(set uint64)) {
	for set := range uint64(1 << 10) {
		f(set)
		f(^set)
		f(set << 54)
		f(bits.ReverseBytes64(set))
	}
	r := rand.New(rand.NewSource(1))
	for range 5000 {
		f(r.Uint64())
		f(r.Uint64() & r.Uint64() & r.Uint64())
		f(r.Uint64() | r.Uint64() | r.Uint64())
	}
}

// P18.1
func TestOf(t *testing.T) {
	for _, x := range []struct {
		users []int
		set   uint64
		e     api.Errno
	}{
		{nil, 0, api.OK}, {[]int{3, 0, 3}, 9, api.OK}, {[]int{63}, 1 << 63, api.OK}, {[]int{64}, 0, api.ErrRange}, {[]int{0, -1}, 0, api.ErrRange}, {[]int{1, math.MaxInt}, 0, api.ErrRange}, {[]int{math.MinInt, 1}, 0, api.ErrRange},
	} {
		if set, e := group.Of(x.users...); set != x.set || e != x.e {
			t.Error("Of", x, set, e)
		}
	}
	for n, want := range map[int]uint64{0: 0, 1: 1, 3: 7, 63: math.MaxUint64 >> 1, 64: math.MaxUint64} {
		if set, e := group.All(n); set != want || e != api.OK {
			t.Error("All", n, set, e)
		}
	}
	for _, n := range []int{-1, 65, math.MaxInt, math.MinInt} {
		if set, e := group.All(n); set != 0 || e != api.ErrRange {
			t.Error("All", n, set, e)
		}
	}
}

// P18.2, P18.4
func TestMembers(t *testing.T) {
	sets(func(set uint64) {
		l := group.Members(set)
		if !slices.IsSorted(l) || len(l) != bits.OnesCount64(set) {
			t.Fatal("Members", set, l)
		}
		if back, e := group.Of(l...); back != set || e != api.OK {
			t.Fatal("Of(Members)", set, back, e)
		}
		for u := range 64 {
			if group.Has(set, u) != slices.Contains(l, u) {
				t.Fatal("Has", set, u)
			}
		}
		for _, u := range []int{-1, 64, math.MaxInt, math.MinInt} {
			if group.Has(set, u) {
				t.Fatal("Has", set, u)
			}
		}
	})
}

// P18.2, P18.5, P18.6
func TestMeet(t *testing.T) {
	if group.Meet() != math.MaxUint64 || group.Meet(7, 12) != 4 || group.Meet(9) != 9 || group.Meet(1, 2) != 0 {
		t.Error("Meet")
	}
	r := rand.New(rand.NewSource(2))
	for range 5000 {
		l := make([]uint64, r.Intn(5))
		for i := range l {
			l[i] = r.Uint64() | r.Uint64()
		}
		set := group.Meet(l...)
		for u := range 64 {
			all := !slices.ContainsFunc(l, func(x uint64) bool { return !group.Has(x, u) })
			if group.Has(set, u) != all {
				t.Fatal("Meet", l, u)
			}
		}
		l = append(l, l...)
		slices.Reverse(l)
		if group.Meet(l...) != set {
			t.Fatal("Meet depends on order or repetition", l)
		}
	}
}

// P18.3, P18.4
func TestText(t *testing.T) {
	for set, want := range map[uint64]string{0: "-", 9: "0,3", 15: "0-3", math.MaxUint64: "*", 3: "0,1", 1 + 1<<62 + 1<<63: "0,62,63", 7: "0-2", 1: "0", 1<<4 - 1 + 1<<5 + 1<<7 + 1<<8: "0-3,5,7,8", math.MaxUint64 - 1: "1-63", math.MaxUint64 >> 1: "0-62", 7<<61 + 1: "0,61-63", 1 << 63: "63"} {
		if s := group.Format(set); s != want {
			t.Error("Format", set, s)
		}
	}
	texts := map[string]bool{}
	sets(func(set uint64) {
		s := group.Format(set)
		if back, e := group.Parse(s); back != set || e != api.OK {
			t.Fatal("Parse(Format)", set, s, back, e)
		}
		texts[s] = true
	})
	for _, s := range []string{"", "0,1,2", "00", "2,1", "0-63", "0-1", "1-1", "2-0", "0,0", ",", "0,", ",0", "64", "62-64", "-1", "0--2", "+1", "0 ", " 0", "0, 3", "x", "**", "--", "-,0", "0-", "0-2,3", "0-2,2", "0-2-4", "01-03", "99999999999999999999", "0,62-63", "1e1", strings.Repeat("0,", 100000)} {
		if set, e := group.Parse(s); set != 0 || e != api.ErrForm {
			t.Error("Parse", s, set, e)
		}
	}
	r := rand.New(rand.NewSource(3))
	for range 50000 {
		s := ""
		for range 1 + r.Intn(6) {
			s += []string{"0", "1", "2", "3", "6", ",", ",", "-", "-", "*"}[r.Intn(10)]
		}
		set, e := group.Parse(s)
		if e == api.OK && group.Format(set) != s {
			t.Fatal("Parse accepts", s)
		}
		if e != api.OK && texts[s] {
			t.Fatal("Parse does not accept", s)
		}
	}
}
