package word_test

import (
	"math"
	"slices"
	"testing"

	"tutor/api"
	"tutor/word"
)

// upTo lists the words over k symbols with at most n symbols: each word of one
// length with each symbol behind it gives those of the next one, in the order.
func upTo(k, n int) [][]int {
	all, last := [][]int{{}}, [][]int{{}}
	for range n {
		var longer [][]int
		for _, w := range last {
			for x := range k {
				longer = append(longer, append(slices.Clone(w), x))
			}
		}
		all, last = append(all, longer...), longer
	}
	return all
}

// P1.4.
func TestNext(t *testing.T) {
	for _, c := range []struct {
		name string
		w    []int
		k    int
		want []int
	}{
		{"within a length", []int{0, 1}, 2, []int{1, 0}},
		{"a longer one", []int{1, 1}, 2, []int{0, 0, 0}},
		{"of the empty one", nil, 2, []int{0}},
		{"of the empty one, one symbol", []int{}, 1, []int{0}},
		{"one symbol", []int{0, 0}, 1, []int{0, 0, 0}},
		{"the last place alone", []int{2, 1, 0}, 3, []int{2, 1, 1}},
		{"the middle", []int{0, 2, 2}, 3, []int{1, 0, 0}},
		{"MaxAlphabet", []int{0, 63}, api.MaxAlphabet, []int{1, 0}},
		{"MaxAlphabet, a longer one", []int{63}, api.MaxAlphabet, []int{0, 0}},
		{"comes to MaxWord", same(api.MaxWord-1, 1), 2, same(api.MaxWord, 0)},
		{"comes to MaxWord, one symbol", same(api.MaxWord-1, 0), 1, same(api.MaxWord, 0)},
		{"at MaxWord", same(api.MaxWord, 0), 2, append(same(api.MaxWord-1, 0), 1)},
		{"at MaxWord, the first place", append([]int{0}, same(api.MaxWord-1, 1)...), 2, append([]int{1}, same(api.MaxWord-1, 0)...)},
	} {
		if got, e := word.Next(c.w, c.k); !slices.Equal(got, c.want) || e != api.OK {
			t.Errorf("%s: %v, %d", c.name, got, e)
		}
	}
}

// P1.4, P1.6: the errors of a word come first, as Check tells them.
func TestErrorsOfWords(t *testing.T) {
	tooLong := same(api.MaxWord+1, 1)
	for _, c := range []struct {
		name       string
		w          []int
		k          int
		next, rank api.Errno
	}{
		{"k is 0", nil, 0, api.ErrArg, api.ErrArg},
		{"k is below 0", []int{0}, -2, api.ErrArg, api.ErrArg},
		{"k is above MaxAlphabet", []int{0}, 65, api.ErrArg, api.ErrArg},
		{"a symbol that is k", []int{0, 2}, 2, api.ErrSymbol, api.ErrSymbol},
		{"a symbol below 0", []int{-1, 0}, 2, api.ErrSymbol, api.ErrSymbol},
		{"above MaxWord", same(api.MaxWord+1, 0), 2, api.ErrLong, api.ErrLong},
		{"ErrArg ahead of ErrLong", tooLong, 0, api.ErrArg, api.ErrArg},
		{"ErrArg ahead of ErrSymbol", []int{-1}, 65, api.ErrArg, api.ErrArg},
		{"ErrLong ahead of ErrSymbol", tooLong, 1, api.ErrLong, api.ErrLong},
		{"ErrSymbol ahead of ErrLong and ErrOver", append(same(api.MaxWord-1, 1), 2), 2, api.ErrSymbol, api.ErrSymbol},
		{"the last word", same(api.MaxWord, 1), 2, api.ErrLong, api.ErrOver},
		{"the last word over MaxAlphabet", same(api.MaxWord, 63), 64, api.ErrLong, api.ErrOver},
		{"the last word over one symbol", same(api.MaxWord, 0), 1, api.ErrLong, api.OK},
	} {
		if got, e := word.Next(c.w, c.k); got != nil || e != c.next {
			t.Errorf("Next, %s: %v, %d, not %d", c.name, got, e, c.next)
		}
		if got, e := word.Rank(c.w, c.k); e != c.rank || e != api.OK && got != 0 {
			t.Errorf("Rank, %s: %d, %d, not %d", c.name, got, e, c.rank)
		}
	}
}

// P1.8: no word is between a word and its Next.
func TestNothingBetween(t *testing.T) {
	for _, c := range []struct{ k, n int }{{1, 9}, {2, 6}, {3, 4}, {4, 3}} {
		all := upTo(c.k, c.n)
		for i, w := range all[:len(all)-1] {
			next, e := word.Next(w, c.k)
			if e != api.OK || !slices.Equal(next, all[i+1]) || word.Compare(w, next) != -1 {
				t.Fatal(c.k, w, next, e)
			}
			for _, v := range all {
				if word.Compare(w, v) < 0 && word.Compare(v, next) < 0 {
					t.Fatal(w, v, next)
				}
			}
		}
	}
}

// P1.6.
func TestAt(t *testing.T) {
	for _, c := range []struct {
		k, i int
		want []int
		e    api.Errno
	}{
		{2, 4, []int{0, 1}, api.OK},
		{2, 0, nil, api.OK},
		{2, 1, []int{0}, api.OK},
		{2, 6, []int{1, 1}, api.OK},
		{2, 7, []int{0, 0, 0}, api.OK},
		{3, 11, []int{2, 1}, api.OK},
		{1, 0, nil, api.OK},
		{1, 3, []int{0, 0, 0}, api.OK},
		{api.MaxAlphabet, 64, []int{63}, api.OK},
		{api.MaxAlphabet, 65, []int{0, 0}, api.OK},
		{1, api.MaxWord, same(api.MaxWord, 0), api.OK},
		{2, most - 2, same(39, 1), api.OK},
		{2, most - 1, same(40, 0), api.OK},
		{2, most, append(same(39, 0), 1), api.OK},
		{1, api.MaxWord + 1, nil, api.ErrLong},
		{1, most, nil, api.ErrLong},
		{1, most + 1, nil, api.ErrOver}, // ahead of ErrLong
		{2, most + 1, nil, api.ErrOver},
		{api.MaxAlphabet, most + 1, nil, api.ErrOver},
		{api.MaxAlphabet, math.MaxInt, nil, api.ErrOver},
		{0, 0, nil, api.ErrArg},
		{-1, 5, nil, api.ErrArg},
		{api.MaxAlphabet + 1, 5, nil, api.ErrArg},
		{2, -1, nil, api.ErrArg},
		{1, math.MinInt, nil, api.ErrArg},
		{0, most + 1, nil, api.ErrArg}, // ahead of ErrOver
		{65, math.MaxInt, nil, api.ErrArg},
	} {
		if got, e := word.At(c.k, c.i); !slices.Equal(got, c.want) || e != c.e {
			t.Errorf("At(%d, %d) is %v, %d, not %v, %d", c.k, c.i, got, e, c.want, c.e)
		}
	}
}

// P1.6.
func TestRank(t *testing.T) {
	for _, c := range []struct {
		w    []int
		k    int
		want int
		e    api.Errno
	}{
		{[]int{0, 1}, 2, 4, api.OK},
		{nil, 2, 0, api.OK},
		{[]int{}, 1, 0, api.OK},
		{[]int{1, 0}, 2, 5, api.OK},
		{[]int{2, 1}, 3, 11, api.OK},
		{[]int{63}, api.MaxAlphabet, 64, api.OK},
		{same(api.MaxWord, 0), 1, api.MaxWord, api.OK},
		{same(39, 1), 2, most - 2, api.OK},
		{same(40, 0), 2, most - 1, api.OK},
		{append(same(39, 0), 1), 2, most, api.OK},
		{append(same(38, 0), 1, 0), 2, 0, api.ErrOver},
		{same(41, 0), 2, 0, api.ErrOver},
		{same(8, 63), api.MaxAlphabet, 0, api.ErrOver},
		{same(api.MaxWord, 0), 2, 0, api.ErrOver}, // 2^4096 wraps round
	} {
		if got, e := word.Rank(c.w, c.k); got != c.want || e != c.e {
			t.Errorf("Rank(%v, %d) is %d, %d, not %d, %d", c.w, c.k, got, e, c.want, c.e)
		}
	}
}

// P1.9, and that At and Rank count the words in the order of P1.2.
func TestAtAndRankUndoOneAnother(t *testing.T) {
	for k := 1; k <= api.MaxAlphabet; k++ {
		for i, w := range upTo(k, 2) {
			hold(t, k, i, w)
		}
	}
	for i, w := range upTo(2, 9) {
		hold(t, 2, i, w)
	}
	for k := 2; k <= api.MaxAlphabet; k++ {
		for i := most; i > 0; i = i/3 - 1 {
			w, e := word.At(k, i)
			if e != api.OK {
				t.Fatal(k, i, e)
			}
			hold(t, k, i, w)
		}
		last, _ := word.At(k, most)
		behind, _ := word.Next(last, k)
		if got, e := word.Rank(behind, k); got != 0 || e != api.ErrOver {
			t.Fatal(k, got, e)
		}
	}
}

func hold(t *testing.T, k, i int, w []int) {
	t.Helper()
	if got, e := word.At(k, i); !slices.Equal(got, w) || e != api.OK {
		t.Fatalf("At(%d, %d) is %v, %d, not %v", k, i, got, e, w)
	}
	if got, e := word.Rank(w, k); got != i || e != api.OK {
		t.Fatalf("Rank(%v, %d) is %d, %d, not %d", w, k, got, e, i)
	}
}

// P1.7.
func TestAll(t *testing.T) {
	for _, c := range []struct{ k, n int }{
		{2, 0}, {2, 1}, {2, 2}, {1, 0}, {1, 7}, {3, 4}, {7, 3},
		{api.MaxAlphabet, 0}, {api.MaxAlphabet, 1}, {api.MaxAlphabet, 2},
		{2, 15}, {39, 3},
	} {
		if got, e := word.All(c.k, c.n); !alike(got, upTo(c.k, c.n)) || e != api.OK {
			t.Errorf("All(%d, %d): %d words, %d", c.k, c.n, len(got), e)
		}
	}
	if got, e := word.All(2, 1); !alike(got, [][]int{{}, {0}, {1}}) || e != api.OK {
		t.Error(got, e)
	}
}

// P1.7.
func TestAllErrors(t *testing.T) {
	for _, c := range []struct {
		k, n int
		e    api.Errno
	}{
		{0, 1, api.ErrArg},
		{-3, 1, api.ErrArg},
		{65, 0, api.ErrArg},
		{2, -1, api.ErrArg},
		{math.MinInt, math.MinInt, api.ErrArg},
		{0, math.MaxInt, api.ErrArg},
		{2, 40, api.ErrOver}, // ahead of ErrMany
		{1, most, api.ErrOver},
		{1, math.MaxInt, api.ErrOver},
		{api.MaxAlphabet, math.MaxInt, api.ErrOver},
		{2, 39, api.ErrMany},
		{1, most - 1, api.ErrMany},
		{1, api.MaxWords, api.ErrMany},
		{2, 16, api.ErrMany},
		{40, 3, api.ErrMany},
		{api.MaxAlphabet, 3, api.ErrMany},
	} {
		if got, e := word.All(c.k, c.n); got != nil || e != c.e {
			t.Errorf("All(%d, %d) is %d words, %d, not %d", c.k, c.n, len(got), e, c.e)
		}
	}
}

// P1.7 names no greatest length: over one symbol words go beyond MaxWord.
func TestAllBeyondMaxWord(t *testing.T) {
	l, e := word.All(1, api.MaxWord+1)
	if len(l) != api.MaxWord+2 || e != api.OK {
		t.Fatal(len(l), e)
	}
	for n, w := range l {
		if !slices.Equal(w, same(n, 0)) {
			t.Fatal(n, len(w))
		}
	}
}

// P1.7: MaxWords is itself allowed. Only over one symbol are there just so many
// words; they are many bytes, of which nobody but the system's zero pages
// knows as long as nothing is written, so their symbols are left alone here.
func TestAllMaxWords(t *testing.T) {
	if testing.Short() {
		t.Skip("takes some seconds")
	}
	l, e := word.All(1, api.MaxWords-1)
	if len(l) != api.MaxWords || e != api.OK {
		t.Fatal(len(l), e)
	}
	for n, w := range l {
		if len(w) != n {
			t.Fatal(n, len(w))
		}
	}
}
