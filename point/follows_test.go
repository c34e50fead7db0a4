package point_test

import (
	"math/bits"
	"math/rand/v2"
	"testing"

	"tutor/api"
	"tutor/point"
)

// bound reads P12.5: how often a search asks at most.
func bound(how, n int) int {
	switch how {
	case api.Linear:
		return n - 1
	case api.Binary:
		return bits.Len(uint(n - 1))
	}
	return 2*bits.Len(uint(n)) + 1
}

// goThrough tells a search what said says of each place that it asks for, and
// holds P12.5. It tells the place that is found, and how often was asked.
func goThrough(t *testing.T, how, n int, said func(i int) bool) (found, asked int) {
	t.Helper()
	s := made(t, how, n)
	was := make([]int8, n+1)
	was[0], was[n] = -1, 1
	for range bound(how, n) + 1 {
		i, more := s.Ask()
		if !more {
			break
		}
		if i <= 0 || i >= n || was[i] != 0 {
			t.Fatalf("way %d, n %d: asks for %d, of which it is %d", how, n, i, was[i])
		}
		was[i] = -1
		v := said(i)
		if v {
			was[i] = 1
		}
		if e := s.Tell(v); e != api.OK {
			t.Fatalf("way %d, n %d: Tell(%v) of %d: %d", how, n, v, i, e)
		}
		asked++
	}
	found, ok := s.Found()
	if !ok || s.Asked() != asked || asked > bound(how, n) {
		t.Fatalf("way %d, n %d: %d, %v behind %d asks (counted %d, %d at most)", how, n, found, ok, asked, s.Asked(), bound(how, n))
	}
	if found < 0 || found >= n || was[found] != -1 || was[found+1] != 1 {
		t.Fatalf("way %d, n %d: found %d", how, n, found)
	}
	return found, asked
}

// P12.5: all that can be said of the places, lies too.
func TestEndsWhateverIsSaid(t *testing.T) {
	for _, how := range ways() {
		for n := 1; n <= 12; n++ {
			for said := range 1 << (n - 1) {
				goThrough(t, how, n, func(i int) bool { return said>>(i-1)&1 == 1 })
			}
		}
	}
}

// P12.5: what is told by chance, more often yes or more often no.
func TestEndsWhateverIsDrawn(t *testing.T) {
	draw := rand.New(rand.NewPCG(12, 5))
	for _, how := range ways() {
		for range 3000 {
			n := 1 + draw.IntN(api.MaxWord)
			yes := draw.IntN(101)
			goThrough(t, how, n, func(int) bool { return draw.IntN(100) < yes })
		}
	}
}

// P12.5: where it is no up to some place and yes behind it, each search finds
// that place; so they find the same one.
func TestFindsThePlace(t *testing.T) {
	for _, how := range ways() {
		for n := 1; n <= api.MaxWord; n++ {
			if n > 130 && n != 255 && n != 256 && n != 257 && n < api.MaxWord-1 {
				continue
			}
			most := 0
			for place := range n {
				found, asked := goThrough(t, how, n, func(i int) bool { return i > place })
				if found != place {
					t.Fatalf("way %d, n %d: found %d, not %d", how, n, found, place)
				}
				most = max(most, asked)
			}
			if how != api.Exponential && most != bound(how, n) {
				t.Errorf("way %d, n %d: asks %d times at most, not %d", how, n, most, bound(how, n))
			}
		}
	}
}

// What a search asks for hangs on what was told alone: not on what is asked in
// between, nor on another search that was told the same.
func TestSameToldSameAsked(t *testing.T) {
	draw := rand.New(rand.NewPCG(12, 6))
	for _, how := range ways() {
		for range 200 {
			n := 1 + draw.IntN(500)
			a, b := made(t, how, n), made(t, how, n)
			for {
				chat(b, draw.IntN(4))
				i, more := a.Ask()
				if j, also := b.Ask(); j != i || also != more {
					t.Fatalf("way %d, n %d: %d, %v and %d, %v", how, n, i, more, j, also)
				}
				if !more {
					break
				}
				v := draw.IntN(2) == 0
				if e, other := a.Tell(v), b.Tell(v); e != api.OK || other != api.OK {
					t.Fatalf("way %d, n %d: %d and %d", how, n, e, other)
				}
			}
			i, _ := a.Found()
			ended(t, b, i, a.Asked())
		}
	}
}

// chat calls what changes nothing.
func chat(s *point.Search, often int) {
	for range often {
		s.Ask()
		s.Found()
		s.Asked()
	}
}
