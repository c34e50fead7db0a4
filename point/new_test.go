package point_test

import (
	"math"
	"reflect"
	"slices"
	"testing"

	"tutor/api"
	"tutor/point"
)

// ways are the three ways to search.
func ways() []int {
	return []int{api.Linear, api.Binary, api.Exponential}
}

// made is a search that New must tell.
func made(t *testing.T, how, n int) *point.Search {
	t.Helper()
	s, e := point.New(how, n)
	if s == nil || e != api.OK {
		t.Fatalf("New(%d, %d): %v, %d", how, n, s, e)
	}
	return s
}

// The promises name these numbers.
func TestNumbers(t *testing.T) {
	got := []int{api.Linear, api.Binary, api.Exponential, api.MaxWord}
	if want := []int{1, 2, 3, 4096}; !slices.Equal(got, want) {
		t.Errorf("numbers are %v, not %v", got, want)
	}
	errors := []api.Errno{api.OK, api.ErrArg, api.ErrMany, api.ErrNil, api.ErrTime}
	if want := []api.Errno{0, 1, 3, 5, 7}; !slices.Equal(errors, want) {
		t.Errorf("errors are %v, not %v", errors, want)
	}
}

// The signatures are given: what is built on them must not break.
func TestSignatures(t *testing.T) {
	for _, c := range []struct{ got, want any }{
		{point.New, (func(how, n int) (*point.Search, api.Errno))(nil)},
		{(*point.Search).Ask, (func(s *point.Search) (i int, more bool))(nil)},
		{(*point.Search).Tell, (func(s *point.Search, v bool) api.Errno)(nil)},
		{(*point.Search).Found, (func(s *point.Search) (i int, ok bool))(nil)},
		{(*point.Search).Asked, (func(s *point.Search) int)(nil)},
		{point.Beginnings, (func(w []int) [][]int)(nil)},
		{point.Ends, (func(w []int) [][]int)(nil)},
	} {
		if g, w := reflect.TypeOf(c.got), reflect.TypeOf(c.want); g != w {
			t.Errorf("%v, not %v", g, w)
		}
	}
}

// P12.1, each number at its limits, one beyond them, and far off; where both
// errors apply, ErrArg is told.
func TestNew(t *testing.T) {
	told := map[api.Errno]int{}
	for _, how := range []int{math.MinInt, -3, -1, 0, 1, 2, 3, 4, 5, 64, math.MaxInt} {
		for _, n := range []int{math.MinInt, -4096, -1, 0, 1, 2, 3, 4095, 4096, 4097, 65536, math.MaxInt} {
			want := api.OK
			if how < 1 || how > 3 || n <= 0 {
				want = api.ErrArg
			} else if n > 4096 {
				want = api.ErrMany
			}
			s, e := point.New(how, n)
			if e != want || (s != nil) != (want == api.OK) {
				t.Errorf("New(%d, %d): %v, %d, not %d", how, n, s, e, want)
			}
			told[e]++
		}
	}
	for _, e := range []api.Errno{api.OK, api.ErrArg, api.ErrMany} {
		if told[e] < 9 {
			t.Errorf("error %d was told %d times: that tells little", e, told[e])
		}
	}
}

// P12.1, told by hand.
func TestNewFaults(t *testing.T) {
	for _, c := range []struct {
		how, n int
		want   api.Errno
	}{
		{0, 1, api.ErrArg}, {4, 1, api.ErrArg}, {-1, 1, api.ErrArg}, {5, 8, api.ErrArg},
		{api.Linear, 0, api.ErrArg}, {api.Binary, 0, api.ErrArg}, {api.Exponential, 0, api.ErrArg},
		{api.Linear, -1, api.ErrArg}, {api.Binary, -1, api.ErrArg}, {api.Exponential, -1, api.ErrArg},
		{api.Linear, 1, api.OK}, {api.Binary, 1, api.OK}, {api.Exponential, 1, api.OK},
		{api.Linear, 2, api.OK}, {api.Binary, 2, api.OK}, {api.Exponential, 2, api.OK},
		{api.Linear, 4096, api.OK}, {api.Binary, 4096, api.OK}, {api.Exponential, 4096, api.OK},
		{api.Linear, 4097, api.ErrMany}, {api.Binary, 4097, api.ErrMany}, {api.Exponential, 4097, api.ErrMany},
		{0, 4097, api.ErrArg}, {4, 4097, api.ErrArg}, {-1, 4097, api.ErrArg}, {0, 0, api.ErrArg}, {4, -1, api.ErrArg},
	} {
		if s, e := point.New(c.how, c.n); e != c.want || (s != nil) != (e == api.OK) {
			t.Errorf("New(%d, %d): %v, %d, not %d", c.how, c.n, s, e, c.want)
		}
	}
}

// P12.1: what every call on a nil object answers, again and again.
func TestNil(t *testing.T) {
	var s *point.Search
	for range 2 {
		if i, more := s.Ask(); i != 0 || more {
			t.Errorf("Ask: %d, %v", i, more)
		}
		for _, v := range []bool{true, false} {
			if e := s.Tell(v); e != api.ErrNil {
				t.Errorf("Tell(%v): %d", v, e)
			}
		}
		if i, ok := s.Found(); i != 0 || ok {
			t.Errorf("Found: %d, %v", i, ok)
		}
		if n := s.Asked(); n != 0 {
			t.Errorf("Asked: %d", n)
		}
	}
}

// What an object answers that New did not make is open; but no call panics.
func TestNotMade(t *testing.T) {
	for _, v := range []bool{true, false} {
		var s point.Search
		for range 3 {
			s.Ask()
			s.Tell(v)
			s.Found()
			s.Asked()
		}
	}
}

// P12.1: of 0 and of n is not asked: a search over one place alone has ended
// from the beginning on, and has found 0.
func TestOnePlace(t *testing.T) {
	for _, how := range ways() {
		ended(t, made(t, how, 1), 0, 0)
	}
}

// Of two places one is asked for, whoever asks.
func TestTwoPlaces(t *testing.T) {
	for _, how := range ways() {
		for found, v := range []bool{true, false} {
			s := made(t, how, 2)
			step(t, s, 1, v)
			ended(t, s, found, 1)
		}
	}
}

// P12.1: New is pure: two searches share nothing, whatever is told to which
// one, and when.
func TestTwoSearchesShareNothing(t *testing.T) {
	for _, one := range ways() {
		for _, other := range ways() {
			for n := 1; n <= 9; n++ {
				for found := range n {
					mixed(t, one, other, n, found)
				}
			}
		}
	}
}

// mixed goes on with two searches by turns, of which each is told something
// else.
func mixed(t *testing.T, one, other, n, found int) {
	t.Helper()
	a, b := made(t, one, n), made(t, other, n)
	pa, pb := plain{how: one, n: n}, plain{how: other, n: n}
	for !pa.over() || !pb.over() {
		if i, more := pa.ask(); more {
			step(t, a, i, i > found)
			pa.tell(i > found)
		}
		if i, more := pb.ask(); more {
			step(t, b, i, i > n-1-found)
			pb.tell(i > n-1-found)
		}
	}
	ended(t, a, found, len(pa.told))
	ended(t, b, n-1-found, len(pb.told))
}
