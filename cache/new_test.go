package cache_test

import (
	"math"
	"reflect"
	"slices"
	"testing"

	"tutor/api"
	"tutor/cache"
)

// made is a cache that New must tell.
func made(t *testing.T, kind, k, o, most int) *cache.Cache {
	t.Helper()
	c, e := cache.New(kind, k, o, most)
	if c == nil || e != api.OK {
		t.Fatalf("New(%d, %d, %d, %d): %v, %d", kind, k, o, most, c, e)
	}
	return c
}

// equalLists holds nil and empty lists for the same.
func equalLists(a, b [][]int) bool {
	return slices.EqualFunc(a, b, slices.Equal[[]int])
}

// The promises name these numbers.
func TestNumbers(t *testing.T) {
	got := []int{api.Dfa, api.Mealy, api.MaxNodes, api.MaxAlphabet, api.MaxOutputs, api.MaxWord}
	if want := []int{1, 2, 1048576, 64, 64, 4096}; !slices.Equal(got, want) {
		t.Errorf("numbers are %v, not %v", got, want)
	}
	errors := []api.Errno{api.OK, api.ErrArg, api.ErrLong, api.ErrMany, api.ErrNil, api.ErrSymbol, api.ErrKind, api.ErrOut, api.ErrAnswer, api.ErrFull, api.ErrClash}
	if want := []api.Errno{0, 1, 2, 3, 5, 10, 30, 33, 100, 110, 111}; !slices.Equal(errors, want) {
		t.Errorf("errors are %v, not %v", errors, want)
	}
}

// The signatures are given: what is built on them must not break.
func TestSignatures(t *testing.T) {
	for _, c := range []struct{ got, want any }{
		{cache.New, (func(kind, k, o, most int) (*cache.Cache, api.Errno))(nil)},
		{(*cache.Cache).Put, (func(c *cache.Cache, w, out []int) api.Errno)(nil)},
		{(*cache.Cache).Get, (func(c *cache.Cache, w []int) (out []int, ok bool))(nil)},
		{(*cache.Cache).Has, (func(c *cache.Cache, w []int) bool)(nil)},
		{(*cache.Cache).Nodes, (func(c *cache.Cache) int)(nil)},
		{(*cache.Cache).Hits, (func(c *cache.Cache) int)(nil)},
		{(*cache.Cache).Misses, (func(c *cache.Cache) int)(nil)},
		{(*cache.Cache).Words, (func(c *cache.Cache) [][]int)(nil)},
	} {
		if g, w := reflect.TypeOf(c.got), reflect.TypeOf(c.want); g != w {
			t.Errorf("%v, not %v", g, w)
		}
	}
}

// P11.1, each number at its limits, one beyond them, and far off; of several
// faults the first one is told.
func TestNew(t *testing.T) {
	far := []int{math.MinInt, -1, 0, 1, 2, 3, 63, 64, 65, api.MaxNodes - 1, api.MaxNodes, api.MaxNodes + 1, math.MaxInt}
	told := map[api.Errno]int{}
	for _, kind := range []int{math.MinInt, -1, 0, api.Dfa, api.Mealy, 3, math.MaxInt} {
		for _, k := range far {
			for _, o := range far {
				for _, most := range far {
					want := plainNew(kind, k, o, most)
					c, e := cache.New(kind, k, o, most)
					if e != want || (c != nil) != (want == api.OK) {
						t.Errorf("New(%d, %d, %d, %d): %v, %d, not %d", kind, k, o, most, c, e, want)
					}
					told[e]++
				}
			}
		}
	}
	enough(t, told, 20, api.OK, api.ErrKind, api.ErrArg, api.ErrOut, api.ErrMany)
}

func plainNew(kind, k, o, most int) api.Errno {
	if kind != 1 && kind != 2 {
		return api.ErrKind
	}
	if k < 1 || k > 64 {
		return api.ErrArg
	}
	if kind == 1 && o != 2 || kind == 2 && (o < 1 || o > 64) {
		return api.ErrOut
	}
	if most < 1 || most > 1048576 {
		return api.ErrMany
	}
	return api.OK
}

// P11.1: one fault each, told by hand.
func TestNewFaults(t *testing.T) {
	for _, c := range []struct {
		kind, k, o, most int
		want             api.Errno
	}{
		{api.Dfa, 1, 2, 1, api.OK}, {api.Dfa, 64, 2, 1048576, api.OK}, {api.Mealy, 1, 1, 1, api.OK}, {api.Mealy, 64, 64, 1048576, api.OK},
		{0, 1, 2, 1, api.ErrKind}, {3, 1, 2, 1, api.ErrKind}, {-1, 1, 2, 1, api.ErrKind},
		{api.Dfa, 0, 2, 1, api.ErrArg}, {api.Dfa, 65, 2, 1, api.ErrArg}, {api.Mealy, 0, 2, 1, api.ErrArg}, {api.Mealy, 65, 2, 1, api.ErrArg},
		{api.Dfa, 1, 1, 1, api.ErrOut}, {api.Dfa, 1, 3, 1, api.ErrOut}, {api.Dfa, 1, 64, 1, api.ErrOut},
		{api.Mealy, 1, 0, 1, api.ErrOut}, {api.Mealy, 1, 65, 1, api.ErrOut},
		{api.Dfa, 1, 2, 0, api.ErrMany}, {api.Dfa, 1, 2, 1048577, api.ErrMany}, {api.Mealy, 1, 1, 0, api.ErrMany}, {api.Mealy, 1, 1, 1048577, api.ErrMany},
		{0, 0, 0, 0, api.ErrKind}, {api.Dfa, 0, 0, 0, api.ErrArg}, {api.Mealy, 65, 65, 0, api.ErrArg}, {api.Dfa, 1, 0, 0, api.ErrOut}, {api.Mealy, 1, 65, 1048577, api.ErrOut},
	} {
		if got, e := cache.New(c.kind, c.k, c.o, c.most); e != c.want || (got != nil) != (e == api.OK) {
			t.Errorf("New(%d, %d, %d, %d): %v, %d, not %d", c.kind, c.k, c.o, c.most, got, e, c.want)
		}
	}
}

// P11.1: New is pure: what is done to one object is not seen in another.
func TestNewOnesAreApart(t *testing.T) {
	for _, kind := range []int{api.Dfa, api.Mealy} {
		a, b := made(t, kind, 2, 2, 9), made(t, kind, 2, 2, 9)
		puts(t, a, api.OK, []int{1}, []int{1})
		a.Get([]int{1})
		a.Get([]int{0})
		if b.Nodes() != 1 || b.Has([]int{1}) || b.Hits() != 0 || b.Misses() != 0 {
			t.Errorf("kind %d: the other one has %d nodes, %d hits, %d misses", kind, b.Nodes(), b.Hits(), b.Misses())
		}
		puts(t, b, api.OK, []int{1}, []int{0})
		gets(t, a, []int{1}, []int{1}, true)
	}
}

// P11.1, P11.2: an object that keeps nothing; but of a Mealy's empty word
// something is kept (P11.4), so that is the one word that it tells (P11.5).
func TestNewKeepsNothing(t *testing.T) {
	for _, k := range []int{1, 2, 64} {
		for _, most := range []int{1, 2, api.MaxNodes} {
			d, m := made(t, api.Dfa, k, 2, most), made(t, api.Mealy, k, 2, most)
			if l := d.Words(); len(l) != 0 {
				t.Errorf("a Dfa's words: %v", l)
			}
			if l := m.Words(); !equalLists(l, [][]int{{}}) {
				t.Errorf("a Mealy's words: %v", l)
			}
			for _, c := range []*cache.Cache{d, m} {
				if c.Nodes() != 1 || c.Hits() != 0 || c.Misses() != 0 || c.Has([]int{0}) || c.Has([]int{k - 1}) {
					t.Errorf("%d nodes, %d hits, %d misses", c.Nodes(), c.Hits(), c.Misses())
				}
			}
			if d.Has(nil) || d.Has([]int{}) || !m.Has(nil) || !m.Has([]int{}) {
				t.Errorf("the empty word: %v of a Dfa, %v of a Mealy", d.Has(nil), m.Has(nil))
			}
			gets(t, d, nil, nil, false)
			gets(t, m, nil, nil, true)
		}
	}
}

// P11.1: every call on a nil object, whatever is handed in.
func TestNil(t *testing.T) {
	var c *cache.Cache
	for range 2 {
		for _, w := range [][]int{nil, {}, {0}, {0, 1}, {-1}, {64}, make([]int, api.MaxWord), make([]int, api.MaxWord+1)} {
			for _, out := range [][]int{nil, {0}, {1}, {2}, {0, 1}, w} {
				puts(t, c, api.ErrNil, w, out)
			}
			gets(t, c, w, nil, false)
			if c.Has(w) {
				t.Errorf("Has(%.20v)", w)
			}
		}
		if c.Nodes() != 0 || c.Hits() != 0 || c.Misses() != 0 || len(c.Words()) != 0 {
			t.Errorf("%d nodes, %d hits, %d misses, words %v", c.Nodes(), c.Hits(), c.Misses(), c.Words())
		}
	}
}

// What an object answers that New did not make is open, but that it answers is
// not.
func TestZeroValue(t *testing.T) {
	c := new(cache.Cache)
	for _, w := range [][]int{nil, {0}, {-1}, make([]int, api.MaxWord+1)} {
		for _, out := range [][]int{nil, {0}, {7, 8}} {
			c.Put(w, out)
		}
		c.Get(w)
		c.Has(w)
		c.Words()
	}
	c.Nodes()
	c.Hits()
	c.Misses()
}
