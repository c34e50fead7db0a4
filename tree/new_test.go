package tree_test

import (
	"fmt"
	"math"
	"reflect"
	"slices"
	"testing"

	"tutor/api"
	"tutor/cache"
	"tutor/tree"
)

// made is a tree that New must tell.
func made(t *testing.T, kind, k, o int) *tree.Tree {
	t.Helper()
	x, e := tree.New(kind, k, o)
	if x == nil || e != api.OK {
		t.Fatalf("New(%d, %d, %d): %v, %d", kind, k, o, x, e)
	}
	return x
}

// cut tells a list of numbers, but not much more of it than one reads.
func cut[T any](l []T) string {
	s := fmt.Sprint(l)
	if len(s) > 300 {
		return fmt.Sprintf("%s.. (%d in all)", s[:300], len(l))
	}
	return s
}

// repeat is a list that says n times x.
func repeat(x, n int) []int {
	return slices.Repeat([]int{x}, n)
}

// The promises name these numbers.
func TestNumbers(t *testing.T) {
	got := []int{api.Dfa, api.Mealy, api.MaxStates, api.MaxWord, api.MaxAlphabet, api.MaxOutputs}
	if want := []int{1, 2, 1024, 4096, 64, 64}; !slices.Equal(got, want) {
		t.Errorf("numbers are %v, not %v", got, want)
	}
	errors := []api.Errno{api.OK, api.ErrArg, api.ErrLong, api.ErrMany, api.ErrNil, api.ErrTime, api.ErrSymbol, api.ErrTwice, api.ErrKind, api.ErrState, api.ErrOut, api.ErrAnswer, api.ErrClash}
	if want := []api.Errno{0, 1, 2, 3, 5, 7, 10, 21, 30, 32, 33, 100, 111}; !slices.Equal(errors, want) {
		t.Errorf("errors are %v, not %v", errors, want)
	}
}

// The signatures are given: what is built on them must not break.
func TestSignatures(t *testing.T) {
	for _, c := range []struct{ got, want any }{
		{tree.New, (func(kind, k, o int) (*tree.Tree, api.Errno))(nil)},
		{(*tree.Tree).Sift, (func(t *tree.Tree, w []int) api.Errno)(nil)},
		{(*tree.Tree).Ask, (func(t *tree.Tree) (q []int, more bool))(nil)},
		{(*tree.Tree).Tell, (func(t *tree.Tree, out []int) api.Errno)(nil)},
		{(*tree.Tree).Leaf, (func(t *tree.Tree) (s int, ok bool))(nil)},
		{(*tree.Tree).Split, (func(t *tree.Tree, s int, d, w, was, now []int) (fresh int, e api.Errno))(nil)},
		{(*tree.Tree).Access, (func(t *tree.Tree, s int) ([]int, api.Errno))(nil)},
		{(*tree.Tree).Common, (func(t *tree.Tree, s, u int) ([]int, api.Errno))(nil)},
		{(*tree.Tree).Count, (func(t *tree.Tree) int)(nil)},
		{(*tree.Tree).Depth, (func(t *tree.Tree) int)(nil)},
	} {
		if g, w := reflect.TypeOf(c.got), reflect.TypeOf(c.want); g != w {
			t.Errorf("%v, not %v", g, w)
		}
	}
}

// P14.1, each number at its limits, one beyond them, and far off; of several
// faults the first one is told, as cache.New tells it.
func TestNew(t *testing.T) {
	far := []int{math.MinInt, -1, 0, 1, 2, 3, 63, 64, 65, 66, math.MaxInt}
	told := map[api.Errno]int{}
	for _, kind := range []int{math.MinInt, -1, 0, api.Dfa, api.Mealy, 3, math.MaxInt} {
		for _, k := range far {
			for _, o := range far {
				want := plainNew(kind, k, o)
				x, e := tree.New(kind, k, o)
				if e != want || (x != nil) != (want == api.OK) {
					t.Errorf("New(%d, %d, %d): %v, %d, not %d", kind, k, o, x, e, want)
				}
				if _, of := cache.New(kind, k, o, 1); of != e {
					t.Errorf("New(%d, %d, %d): %d, but cache.New: %d", kind, k, o, e, of)
				}
				told[e]++
			}
		}
	}
	enough(t, told, 20, api.OK, api.ErrKind, api.ErrArg, api.ErrOut)
}

func plainNew(kind, k, o int) api.Errno {
	if kind != 1 && kind != 2 {
		return api.ErrKind
	}
	if k < 1 || k > 64 {
		return api.ErrArg
	}
	if kind == 1 && o != 2 || kind == 2 && (o < 1 || o > 64) {
		return api.ErrOut
	}
	return api.OK
}

// P14.1: one fault each, and two at once, told by hand.
func TestNewFaults(t *testing.T) {
	for _, c := range []struct {
		kind, k, o int
		want       api.Errno
	}{
		{api.Dfa, 1, 2, api.OK}, {api.Dfa, 64, 2, api.OK}, {api.Mealy, 1, 1, api.OK}, {api.Mealy, 64, 64, api.OK},
		{0, 1, 2, api.ErrKind}, {3, 1, 2, api.ErrKind}, {-1, 1, 2, api.ErrKind},
		{api.Dfa, 0, 2, api.ErrArg}, {api.Dfa, 65, 2, api.ErrArg}, {api.Mealy, 0, 2, api.ErrArg}, {api.Mealy, 65, 2, api.ErrArg},
		{api.Dfa, 1, 1, api.ErrOut}, {api.Dfa, 1, 3, api.ErrOut}, {api.Dfa, 1, 64, api.ErrOut},
		{api.Mealy, 1, 0, api.ErrOut}, {api.Mealy, 1, 65, api.ErrOut},
		{0, 0, 0, api.ErrKind}, {3, 1, 65, api.ErrKind}, {0, 65, 2, api.ErrKind}, {api.Dfa, 0, 0, api.ErrArg}, {api.Mealy, 65, 65, api.ErrArg},
	} {
		if x, e := tree.New(c.kind, c.k, c.o); e != c.want || (x != nil) != (e == api.OK) {
			t.Errorf("New(%d, %d, %d): %v, %d, not %d", c.kind, c.k, c.o, x, e, c.want)
		}
	}
}

// P14.1: one leaf, state 0, whose access word is the empty one; nothing is
// sifted.
func TestNewTree(t *testing.T) {
	for _, k := range []int{1, 2, 3, 17, 64} {
		for _, x := range []*tree.Tree{made(t, api.Dfa, k, 2), made(t, api.Mealy, k, 1), made(t, api.Mealy, k, 64)} {
			counts(t, x, 1)
			deep(t, x, 0)
			accesses(t, x, 0, nil, api.OK)
			accesses(t, x, 1, nil, api.ErrState)
			commons(t, x, 0, 0, nil, api.ErrArg)
			asks(t, x, nil, false)
			comes(t, x, 0, false)
			tells(t, x, api.ErrTime, []int{0})
		}
	}
}

// P14.1: New is pure: what is done to one object is not seen in another.
func TestNewOnesAreApart(t *testing.T) {
	a, b := made(t, api.Dfa, 2, 2), made(t, api.Dfa, 2, 2)
	splits(t, a, 0, nil, []int{1}, []int{0}, []int{1}, 1)
	sifts(t, a, []int{0, 1})
	counts(t, b, 1)
	deep(t, b, 0)
	asks(t, b, nil, false)
	sifts(t, b, []int{1})
	comes(t, b, 0, true)
	asks(t, a, []int{0, 1}, true)
	comes(t, a, 0, false)
}

// P14.1: every call on a nil object, whatever is handed in.
func TestNil(t *testing.T) {
	var x *tree.Tree
	lists := [][]int{nil, {}, {0}, {1}, {0, 1}, {-1}, {64}, make([]int, api.MaxWord), make([]int, api.MaxWord+1)}
	for range 2 {
		for _, w := range lists {
			if e := x.Sift(w); e != api.ErrNil {
				t.Errorf("Sift(%s): %d", cut(w), e)
			}
			tells(t, x, api.ErrNil, w)
			for _, s := range []int{math.MinInt, -1, 0, 1, math.MaxInt} {
				for _, d := range lists[:7] {
					refusesSplit(t, x, api.ErrNil, s, d, w, []int{0}, []int{1})
					refusesSplit(t, x, api.ErrNil, s, w, d, w, d)
				}
			}
		}
		for _, s := range []int{math.MinInt, -1, 0, 1, math.MaxInt} {
			accesses(t, x, s, nil, api.ErrNil)
			for _, u := range []int{-1, 0, 1} {
				commons(t, x, s, u, nil, api.ErrNil)
			}
		}
		asks(t, x, nil, false)
		comes(t, x, 0, false)
		counts(t, x, 0)
		deep(t, x, 0)
	}
}

// What an object answers that New did not make is open, but that it answers is
// not.
func TestZeroValue(t *testing.T) {
	x := new(tree.Tree)
	for _, w := range [][]int{nil, {0}, {-1}, make([]int, api.MaxWord+1)} {
		x.Sift(w)
		x.Ask()
		x.Tell(w)
		x.Leaf()
		for s := range 3 {
			x.Split(s-1, w, w, []int{0}, []int{1})
			x.Access(s - 1)
			x.Common(s-1, 0)
			x.Common(0, s-1)
		}
	}
	x.Count()
	x.Depth()
}
