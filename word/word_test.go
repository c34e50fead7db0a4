package word_test

import (
	"math"
	"reflect"
	"slices"
	"testing"

	"tutor/api"
	"tutor/word"
)

// same makes a list of n numbers that are all x.
func same(n, x int) []int {
	return slices.Repeat([]int{x}, n)
}

// alike holds lists of lists against each other; nil and empty are alike.
func alike(a, b [][]int) bool {
	return slices.EqualFunc(a, b, func(x, y []int) bool { return slices.Equal(x, y) })
}

// The promises name these numbers.
func TestLimits(t *testing.T) {
	got := []int{api.MaxAlphabet, api.MaxWord, api.MaxCount, api.MaxWords}
	if want := []int{64, 4096, 1 << 40, 65536}; !slices.Equal(got, want) {
		t.Errorf("limits are %v, not %v", got, want)
	}
	errors := []api.Errno{api.OK, api.ErrArg, api.ErrLong, api.ErrMany, api.ErrSymbol, api.ErrOver}
	if want := []api.Errno{0, 1, 2, 3, 10, 11}; !slices.Equal(errors, want) {
		t.Errorf("errors are %v, not %v", errors, want)
	}
}

// P1.1.
func TestCheck(t *testing.T) {
	wrongAt := func(n, at, x int) []int {
		w := same(n, 0)
		w[at] = x
		return w
	}
	for _, c := range []struct {
		name string
		w    []int
		k    int
		at   int
		e    api.Errno
	}{
		{"nil", nil, 1, 0, api.OK},
		{"empty", []int{}, 2, 0, api.OK},
		{"ordinary", []int{0, 1, 2, 1}, 3, 0, api.OK},
		{"one symbol", []int{0, 0}, 1, 0, api.OK},
		{"MaxAlphabet", []int{0, 63}, api.MaxAlphabet, 0, api.OK},
		{"MaxWord", same(api.MaxWord, 1), 2, 0, api.OK},

		{"k is 0", nil, 0, 0, api.ErrArg},
		{"k is below 0", []int{0}, -1, 0, api.ErrArg},
		{"k is the least number", []int{0}, math.MinInt, 0, api.ErrArg},
		{"k is above MaxAlphabet", []int{0}, api.MaxAlphabet + 1, 0, api.ErrArg},
		{"k is the greatest number", []int{0}, math.MaxInt, 0, api.ErrArg},
		{"above MaxWord", same(api.MaxWord+1, 0), 1, 0, api.ErrLong},
		{"a symbol that is k", []int{0, 2}, 2, 1, api.ErrSymbol},
		{"a symbol that is MaxAlphabet", []int{63, 63, 64}, api.MaxAlphabet, 2, api.ErrSymbol},
		{"a symbol below 0", []int{-1}, 2, 0, api.ErrSymbol},
		{"the least number", []int{1, math.MinInt}, 2, 1, api.ErrSymbol},
		{"the greatest number", []int{1, 1, math.MaxInt}, 2, 2, api.ErrSymbol},
		{"the first of several", []int{0, 5, -1, 7}, 2, 1, api.ErrSymbol},
		{"the last place", wrongAt(api.MaxWord, api.MaxWord-1, 2), 2, api.MaxWord - 1, api.ErrSymbol},

		{"ErrArg ahead of ErrLong", same(api.MaxWord+1, 0), 0, 0, api.ErrArg},
		{"ErrArg ahead of ErrSymbol", []int{0, 99}, 65, 0, api.ErrArg},
		{"ErrLong ahead of ErrSymbol", wrongAt(api.MaxWord+1, 7, 9), 2, 0, api.ErrLong},
	} {
		if at, e := word.Check(c.w, c.k); at != c.at || e != c.e {
			t.Errorf("%s: %d, %d, not %d, %d", c.name, at, e, c.at, c.e)
		}
	}
}

// P1.2.
func TestCompare(t *testing.T) {
	for _, c := range []struct {
		a, b []int
		want int
	}{
		{nil, nil, 0},
		{nil, []int{}, 0},
		{[]int{1, 2}, []int{1, 2}, 0},
		{nil, []int{0}, -1},
		{[]int{1}, []int{0, 0}, -1},
		{[]int{9, 9}, []int{0, 0, 0}, -1},
		{[]int{0, 1}, []int{1, 0}, -1},
		{[]int{0, 0}, []int{0, 1}, -1},
		{[]int{2, 5, 9, 9}, []int{2, 6, 0, 0}, -1},
		{[]int{-3}, []int{-2}, -1},
		{[]int{-1}, []int{0}, -1},
		{[]int{math.MinInt}, []int{math.MaxInt}, -1},
		{[]int{math.MinInt}, []int{1}, -1},
		{same(api.MaxWord+1, 99), same(api.MaxWord+2, -99), -1},
		{same(2*api.MaxWord, 5), same(2*api.MaxWord, 6), -1},
	} {
		if got := word.Compare(c.a, c.b); got != c.want {
			t.Errorf("Compare(%v, %v) is %d, not %d", c.a, c.b, got, c.want)
		}
		if got := word.Compare(c.b, c.a); got != -c.want {
			t.Errorf("Compare(%v, %v) is %d, not %d", c.b, c.a, got, -c.want)
		}
	}
}

// P1.3.
func TestJoin(t *testing.T) {
	for _, c := range []struct {
		l    [][]int
		want []int
	}{
		{nil, nil},
		{[][]int{nil}, nil},
		{[][]int{nil, {}, nil}, nil},
		{[][]int{{3, 1}}, []int{3, 1}},
		{[][]int{{1, 2}, {3}}, []int{1, 2, 3}},
		{[][]int{{3}, {1, 2}}, []int{3, 1, 2}},
		{[][]int{nil, {-1}, {}, {math.MaxInt, 7}, {0}}, []int{-1, math.MaxInt, 7, 0}},
		{[][]int{same(api.MaxWord, 1), same(api.MaxWord, 2)}, append(same(api.MaxWord, 1), same(api.MaxWord, 2)...)},
	} {
		if got := word.Join(c.l...); !slices.Equal(got, c.want) {
			t.Errorf("Join(%v) is %v, not %v", c.l, got, c.want)
		}
	}
}

// P1.3.
func TestPrefixesAndSuffixes(t *testing.T) {
	for _, c := range []struct {
		w          []int
		begin, end [][]int
	}{
		{nil, [][]int{{}}, [][]int{{}}},
		{[]int{}, [][]int{{}}, [][]int{{}}},
		{[]int{7}, [][]int{{}, {7}}, [][]int{{}, {7}}},
		{[]int{1, 2, 3}, [][]int{{}, {1}, {1, 2}, {1, 2, 3}}, [][]int{{}, {3}, {2, 3}, {1, 2, 3}}},
		{[]int{-5, math.MaxInt}, [][]int{{}, {-5}, {-5, math.MaxInt}}, [][]int{{}, {math.MaxInt}, {-5, math.MaxInt}}},
	} {
		if got := word.Prefixes(c.w); !alike(got, c.begin) {
			t.Errorf("Prefixes(%v) is %v, not %v", c.w, got, c.begin)
		}
		if got := word.Suffixes(c.w); !alike(got, c.end) {
			t.Errorf("Suffixes(%v) is %v, not %v", c.w, got, c.end)
		}
	}
}

// P1.3: of any lists, so of those above MaxWord, too.
func TestPrefixesAndSuffixesOfALongList(t *testing.T) {
	w := make([]int, api.MaxWord+1)
	for i := range w {
		w[i] = i - 9
	}
	begin, end := word.Prefixes(w), word.Suffixes(w)
	if len(begin) != len(w)+1 || len(end) != len(w)+1 {
		t.Fatal(len(begin), len(end))
	}
	for n := range len(w) + 1 {
		if !slices.Equal(begin[n], w[:n]) || !slices.Equal(end[n], w[len(w)-n:]) {
			t.Fatalf("of %d symbols", n)
		}
	}
}

// P1.8: the order is one, of lists that are no words, too.
func TestOrderIsOne(t *testing.T) {
	l := [][]int{nil}
	for i := 0; len(l) < 1+4+16+64; i++ {
		for _, x := range []int{-2, 0, 1, math.MaxInt} {
			l = append(l, append(slices.Clone(l[i]), x))
		}
	}
	for _, a := range l {
		for _, b := range l {
			ab := word.Compare(a, b)
			if ab < -1 || ab > 1 || ab != -word.Compare(b, a) || (ab == 0) != slices.Equal(a, b) {
				t.Fatal(a, b, ab)
			}
			for _, c := range l {
				if ab < 0 && word.Compare(b, c) < 0 && word.Compare(a, c) != -1 {
					t.Fatal(a, b, c)
				}
			}
		}
	}
}

// The signatures are given: what is built on them must not break.
func TestSignatures(t *testing.T) {
	for _, c := range []struct{ got, want any }{
		{word.Check, (func([]int, int) (int, api.Errno))(nil)},
		{word.Compare, (func([]int, []int) int)(nil)},
		{word.Join, (func(...[]int) []int)(nil)},
		{word.Prefixes, (func([]int) [][]int)(nil)},
		{word.Suffixes, (func([]int) [][]int)(nil)},
		{word.Next, (func([]int, int) ([]int, api.Errno))(nil)},
		{word.Add, (func(int, int) (int, api.Errno))(nil)},
		{word.Mul, (func(int, int) (int, api.Errno))(nil)},
		{word.Count, (func(int, int) (int, api.Errno))(nil)},
		{word.At, (func(int, int) ([]int, api.Errno))(nil)},
		{word.Rank, (func([]int, int) (int, api.Errno))(nil)},
		{word.All, (func(int, int) ([][]int, api.Errno))(nil)},
	} {
		if g, w := reflect.TypeOf(c.got), reflect.TypeOf(c.want); g != w {
			t.Errorf("%v, not %v", g, w)
		}
	}
}
