package cache_test

import (
	"math"
	"slices"
	"testing"

	"tutor/api"
	"tutor/cache"
	"tutor/word"
)

func gets(t *testing.T, c *cache.Cache, w, want []int, wantOk bool) {
	t.Helper()
	if out, ok := c.Get(w); ok != wantOk || !slices.Equal(out, want) {
		t.Fatalf("Get(%.20v): %.20v, %v, not %.20v, %v", w, out, ok, want, wantOk)
	}
}

func has(t *testing.T, c *cache.Cache, want bool, l ...[]int) {
	t.Helper()
	for _, w := range l {
		if got := c.Has(w); got != want {
			t.Fatalf("Has(%.20v): %v", w, got)
		}
	}
}

func counted(t *testing.T, c *cache.Cache, hits, misses int) {
	t.Helper()
	if c.Hits() != hits || c.Misses() != misses {
		t.Fatalf("%d hits, %d misses, not %d, %d", c.Hits(), c.Misses(), hits, misses)
	}
}

// noWords are no words over 2 symbols.
func noWords() [][]int {
	return [][]int{
		{-1}, {2}, {64}, {0, -1}, {0, 1, 2}, {2, 0}, {math.MinInt}, {math.MaxInt}, {0, math.MaxInt},
		repeat(0, api.MaxWord+1), repeat(1, api.MaxWord+1), repeat(-1, api.MaxWord+1), repeat(0, 100000),
	}
}

// P11.2, P11.4: of a Dfa, what was Put is kept, and neither a beginning of it
// nor a longer word.
func TestDfaGet(t *testing.T) {
	c := made(t, api.Dfa, 2, 2, 99)
	puts(t, c, api.OK, []int{0, 1}, []int{1})
	puts(t, c, api.OK, []int{1, 1, 0}, []int{0})
	gets(t, c, []int{0, 1}, []int{1}, true)
	gets(t, c, []int{1, 1, 0}, []int{0}, true)
	others := append([][]int{nil, {0}, {1}, {1, 0}, {1, 1}, {0, 0}, {0, 1, 0}, {0, 1, 1}, {1, 1, 1}, {1, 1, 0, 0}, {1, 1, 0, 1}}, noWords()...)
	for _, w := range others {
		gets(t, c, w, nil, false)
	}
	has(t, c, true, []int{0, 1}, []int{1, 1, 0})
	has(t, c, false, others...)
	puts(t, c, api.OK, nil, []int{0})
	gets(t, c, nil, []int{0}, true)
	gets(t, c, []int{}, []int{0}, true)
	has(t, c, true, nil, []int{})
}

// P11.2, P11.4: of a Mealy, with a word each of its beginnings is kept.
func TestMealyGet(t *testing.T) {
	c := made(t, api.Mealy, 2, 4, 99)
	gets(t, c, nil, nil, true)
	puts(t, c, api.OK, []int{0, 1, 1}, []int{3, 0, 2})
	puts(t, c, api.OK, []int{1, 0}, []int{0, 1})
	for n := range 4 {
		gets(t, c, []int{0, 1, 1}[:n], []int{3, 0, 2}[:n], true)
		has(t, c, true, []int{0, 1, 1}[:n])
	}
	gets(t, c, []int{1}, []int{0}, true)
	gets(t, c, []int{1, 0}, []int{0, 1}, true)
	others := append([][]int{{0, 0}, {1, 1}, {0, 1, 0}, {0, 1, 1, 0}, {0, 1, 1, 1}, {1, 0, 0}, {1, 0, 1}}, noWords()...)
	for _, w := range others {
		gets(t, c, w, nil, false)
	}
	has(t, c, false, others...)
	puts(t, c, api.OK, []int{0, 1, 1, 0}, []int{3, 0, 2, 1})
	gets(t, c, []int{0, 1, 1, 0}, []int{3, 0, 2, 1}, true)
	gets(t, c, []int{0, 1, 1}, []int{3, 0, 2}, true)
}

// P11.4: of a list that is no word nothing is kept, in a fresh cache and in
// one that has the longest words.
func TestNoWordIsKept(t *testing.T) {
	for _, kind := range []int{api.Dfa, api.Mealy} {
		c := made(t, kind, 2, 2, api.MaxNodes)
		for x := range 2 {
			has(t, c, false, noWords()...)
			for _, w := range noWords() {
				gets(t, c, w, nil, false)
			}
			out := repeat(1, api.MaxWord)
			if kind == api.Dfa {
				out = out[:1]
			}
			puts(t, c, api.OK, repeat(x, api.MaxWord), out)
		}
		counted(t, c, 0, 2*len(noWords()))
	}
}

// P11.4: Get alone counts, each time, whatever it is handed.
func TestCounts(t *testing.T) {
	for _, kind := range []int{api.Dfa, api.Mealy} {
		c := made(t, kind, 2, 2, 9)
		puts(t, c, api.OK, []int{0}, []int{1})
		hits, misses := 0, 0
		for range 5 {
			gets(t, c, []int{0}, []int{1}, true)
			gets(t, c, []int{0}, []int{1}, true)
			hits += 2
			counted(t, c, hits, misses)
			for _, w := range [][]int{{1}, {0, 0}, {-1}, {2}, repeat(0, api.MaxWord+1)} {
				gets(t, c, w, nil, false)
				misses++
				counted(t, c, hits, misses)
			}
			if _, ok := c.Get(nil); ok {
				hits++
			} else {
				misses++
			}
			counted(t, c, hits, misses)
			has(t, c, true, []int{0})
			has(t, c, false, []int{1}, []int{-1}, []int{0, 0})
			has(t, c, kind == api.Mealy, nil)
			puts(t, c, api.OK, []int{0}, []int{1})
			puts(t, c, api.ErrClash, []int{0}, []int{0})
			puts(t, c, api.ErrSymbol, []int{2}, []int{0})
			puts(t, c, api.ErrAnswer, []int{1}, []int{2})
			c.Nodes()
			c.Words()
			c.Hits()
			c.Misses()
			counted(t, c, hits, misses)
		}
	}
}

// P11.4: a word that is Put makes of a miss a hit, from then on.
func TestMissThenHit(t *testing.T) {
	c := made(t, api.Dfa, 1, 2, 9)
	gets(t, c, []int{0}, nil, false)
	puts(t, c, api.OK, []int{0}, []int{0})
	gets(t, c, []int{0}, []int{0}, true)
	counted(t, c, 1, 1)
}

// P11.5: a Dfa's words, in the order, whatever the one in which they came.
func TestDfaWords(t *testing.T) {
	c := made(t, api.Dfa, 3, 2, 99)
	var l [][]int
	for i, w := range [][]int{{2, 1}, {0, 0, 0}, {1}, {0, 2}, {2}, {2, 0}, {}, {0, 0}, {1, 2, 2}, {1, 0, 0}} {
		puts(t, c, api.OK, w, []int{i % 2})
		l = append(l, w)
		slices.SortFunc(l, word.Compare)
		words(t, c, l...)
	}
	words(t, c, []int{}, []int{1}, []int{2}, []int{0, 0}, []int{0, 2}, []int{2, 0}, []int{2, 1}, []int{0, 0, 0}, []int{1, 0, 0}, []int{1, 2, 2})
}

// P11.5: a Mealy's words, without beginnings of others.
func TestMealyWords(t *testing.T) {
	c := made(t, api.Mealy, 3, 2, 99)
	words(t, c, nil)
	puts(t, c, api.OK, nil, nil)
	words(t, c, nil)
	puts(t, c, api.OK, []int{2, 1}, []int{0, 1})
	words(t, c, []int{2, 1})
	puts(t, c, api.OK, []int{2}, []int{0})
	words(t, c, []int{2, 1})
	puts(t, c, api.OK, []int{1}, []int{1})
	words(t, c, []int{1}, []int{2, 1})
	puts(t, c, api.OK, []int{2, 0}, []int{0, 0})
	words(t, c, []int{1}, []int{2, 0}, []int{2, 1})
	puts(t, c, api.OK, []int{1, 2, 2}, []int{1, 0, 1})
	words(t, c, []int{2, 0}, []int{2, 1}, []int{1, 2, 2})
	puts(t, c, api.OK, []int{2, 1, 0}, []int{0, 1, 1})
	puts(t, c, api.OK, []int{0}, []int{0})
	words(t, c, []int{0}, []int{2, 0}, []int{1, 2, 2}, []int{2, 1, 0})
}

// P11.5: all symbols of the greatest alphabet, from the last one on.
func TestWordsOfManySymbols(t *testing.T) {
	for _, kind := range []int{api.Dfa, api.Mealy} {
		c := made(t, kind, 64, 2, api.MaxNodes)
		var want [][]int
		for x := 63; x >= 0; x-- {
			puts(t, c, api.OK, []int{x * 37 % 64}, []int{x % 2})
			want = append(want, []int{63 - x})
		}
		words(t, c, want...)
		nodes(t, c, 65)
		for x := range 64 {
			gets(t, c, []int{x * 37 % 64}, []int{x % 2}, true)
		}
	}
}
