package roster_test

import (
	"math"
	"math/rand"
	"testing"

	"louvre/api"
	"louvre/roster"
)

// The table of examples.
func TestExamples(t *testing.T) {
	r, e := roster.New(3)
	if e != api.OK {
		t.Fatal(e)
	}
	for i, x := range []struct{ got, want api.Errno }{{r.Login(1), api.OK}, {r.Login(1), api.ErrState}, {r.Login(3), api.ErrRange}, {r.Logout(0), api.ErrState}} {
		if x.got != x.want {
			t.Error(i, x)
		}
	}
	if r.In() != 2 {
		t.Error("In", r.In())
	}
	for i, x := range []struct{ got, want api.Errno }{{r.Login(0), api.OK}, {r.Logout(1), api.OK}} {
		if x.got != x.want {
			t.Error(i, x)
		}
	}
	if r.In() != 1 {
		t.Error("In", r.In())
	}
}

// P28.1
func TestNew(t *testing.T) {
	for _, n := range []int{0, -1, 65, math.MaxInt, math.MinInt} {
		if r, e := roster.New(n); r != nil || e != api.ErrRange {
			t.Error("New", n, r, e)
		}
	}
	for n := 1; n <= 64; n++ {
		r, e := roster.New(n)
		if e != api.OK || r.In() != 0 {
			t.Fatal("New", n, e)
		}
		for _, user := range []int{n, n + 1, -1, 64, math.MaxInt, math.MinInt} {
			if r.Login(user) != api.ErrRange || r.Logout(user) != api.ErrRange {
				t.Error("a roster of", n, "users has the user", user)
			}
		}
		if r.Login(n-1) != api.OK || r.In() != 1<<(n-1) {
			t.Error("Login", n-1, r.In())
		}
	}
}

// P28.2 to P28.5, against a set.
func TestRandom(t *testing.T) {
	p := rand.New(rand.NewSource(1))
	r, _ := roster.New(64)
	in := uint64(0)
	for range 20000 {
		user := p.Intn(64)
		if p.Intn(2) == 0 {
			want := api.OK
			if in>>user&1 == 1 {
				want = api.ErrState
			}
			if e := r.Login(user); e != want {
				t.Fatal("Login", user, e)
			}
			in |= 1 << user
		} else {
			want := api.OK
			if in>>user&1 == 0 {
				want = api.ErrState
			}
			if e := r.Logout(user); e != want {
				t.Fatal("Logout", user, e)
			}
			in &^= 1 << user
		}
		if r.In() != in {
			t.Fatal("In", r.In(), in)
		}
		c := r.Copy()
		if c.In() != in {
			t.Fatal("Copy", c.In(), in)
		}
		if c.Login(user) != api.OK {
			c.Logout(user)
		}
		if r.In() != in || c.In() == in {
			t.Fatal("Copy is not independent")
		}
	}
}

// R5
func TestNil(t *testing.T) {
	var r *roster.Roster
	if r.Login(-1) != api.ErrNil || r.Logout(99) != api.ErrNil || r.In() != 0 || r.Copy() != nil {
		t.Error("methods of nil")
	}
}
