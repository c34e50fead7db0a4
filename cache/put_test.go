package cache_test

import (
	"math"
	"slices"
	"testing"

	"tutor/api"
	"tutor/cache"
	"tutor/word"
)

func puts(t *testing.T, c *cache.Cache, want api.Errno, w, out []int) {
	t.Helper()
	if got := c.Put(w, out); got != want {
		t.Fatalf("Put(%.20v, %.20v): %d, not %d", w, out, got, want)
	}
}

func nodes(t *testing.T, c *cache.Cache, want int) {
	t.Helper()
	if got := c.Nodes(); got != want {
		t.Fatalf("%d nodes, not %d", got, want)
	}
}

func words(t *testing.T, c *cache.Cache, want ...[]int) {
	t.Helper()
	if got := c.Words(); !equalLists(got, want) {
		t.Fatalf("words are %.100v, not %.100v", got, want)
	}
}

// refuses holds that Put tells an error and that nothing changes by it.
func refuses(t *testing.T, c *cache.Cache, want api.Errno, w, out []int) {
	t.Helper()
	count, before, hits, misses := c.Nodes(), c.Words(), c.Hits(), c.Misses()
	var kept [][]int
	asked := slices.Concat(before, [][]int{nil, {0}, {1}, {0, 0}, {0, 1}, {1, 1}, w[:min(len(w), 3)], w})
	for _, v := range asked {
		out, ok := c.Get(v)
		if ok {
			hits++
		} else {
			misses++
		}
		kept = append(kept, out)
		if c.Has(v) != ok {
			t.Fatalf("Has(%.20v) is %v", v, !ok)
		}
	}
	puts(t, c, want, w, out)
	nodes(t, c, count)
	words(t, c, before...)
	if c.Hits() != hits || c.Misses() != misses {
		t.Fatalf("Put(%.20v, %.20v): %d hits, %d misses, not %d, %d", w, out, c.Hits(), c.Misses(), hits, misses)
	}
	for i, v := range asked {
		has := c.Has(v)
		if out, ok := c.Get(v); ok != has || !slices.Equal(out, kept[i]) {
			t.Fatalf("Put(%.20v, %.20v): of %.20v %.20v, %v is told, not %.20v", w, out, v, out, ok, kept[i])
		}
	}
}

func repeat(x, n int) []int {
	return slices.Repeat([]int{x}, n)
}

// some are caches of both Kinds, with something in them.
func some(t *testing.T, k, o, most int) (d, m *cache.Cache) {
	t.Helper()
	d, m = made(t, api.Dfa, k, 2, most), made(t, api.Mealy, k, o, most)
	puts(t, d, api.OK, repeat(0, 2), []int{1})
	puts(t, m, api.OK, repeat(0, 2), repeat(o-1, 2))
	return d, m
}

// The chapter's examples.
func TestExamples(t *testing.T) {
	c := made(t, api.Mealy, 2, 2, 9)
	puts(t, c, api.OK, []int{0, 1}, []int{1, 0})
	nodes(t, c, 3)
	gets(t, c, []int{0}, []int{1}, true)
	refuses(t, c, api.ErrClash, []int{0}, []int{0})
	refuses(t, made(t, api.Dfa, 1, 2, 2), api.ErrFull, []int{0, 0}, []int{1})
}

// P11.3: lists that are no words: word.Check's error, ahead of all others.
func TestPutNoWord(t *testing.T) {
	for _, k := range []int{1, 2, 63, 64} {
		d, m := some(t, k, 2, 3)
		for _, c := range []*cache.Cache{d, m} {
			for _, out := range [][]int{nil, {0}, {1}, {2}, {-1}, {0, 0, 0}, repeat(1, api.MaxWord+1)} {
				for _, x := range []int{-1, k, k + 1, math.MinInt, math.MaxInt} {
					refuses(t, c, api.ErrSymbol, []int{x}, out)
					refuses(t, c, api.ErrSymbol, []int{0, x}, out)
					refuses(t, c, api.ErrSymbol, []int{x, 0, 0}, out)
					refuses(t, c, api.ErrSymbol, append(repeat(0, api.MaxWord-1), x), out)
					refuses(t, c, api.ErrLong, append(repeat(0, api.MaxWord), x), out)
				}
				refuses(t, c, api.ErrLong, repeat(0, api.MaxWord+1), out)
				refuses(t, c, api.ErrLong, repeat(k, api.MaxWord+904), out)
			}
		}
	}
}

// P11.3: of a Dfa just one number fits, 0 or 1, whatever the word is.
func TestPutDfaAnswers(t *testing.T) {
	for _, w := range [][]int{nil, {}, {0}, {1}, {0, 0}, {0, 1}, {1, 1, 1}, repeat(1, api.MaxWord)} {
		for _, most := range []int{3, 4, api.MaxNodes} {
			d, _ := some(t, 2, 2, most)
			for _, out := range [][]int{nil, {}, {-1}, {2}, {math.MinInt}, {math.MaxInt}, {0, 0}, {1, 1}, {0, 1}, {0, 0, 0}, {1, 2}, repeat(0, api.MaxWord)} {
				refuses(t, d, api.ErrAnswer, w, out)
			}
		}
		for x := range 2 {
			c := made(t, api.Dfa, 2, 2, api.MaxNodes)
			puts(t, c, api.OK, w, []int{x})
			gets(t, c, w, []int{x}, true)
			words(t, c, w)
			nodes(t, c, len(w)+1)
		}
	}
}

// P11.3: of a Mealy as many numbers as symbols fit, each from 0 to o - 1.
func TestPutMealyAnswers(t *testing.T) {
	for _, o := range []int{1, 2, 3, 63, 64} {
		for _, n := range []int{0, 1, 2, 3, 7, api.MaxWord} {
			for _, most := range []int{3, 4, api.MaxNodes} {
				_, m := some(t, 2, o, most)
				w := repeat(0, n)
				refuses(t, m, api.ErrAnswer, w, repeat(o-1, n+1))
				if n == 0 {
					continue
				}
				refuses(t, m, api.ErrAnswer, w, repeat(o-1, n-1))
				refuses(t, m, api.ErrAnswer, w, nil)
				for _, x := range []int{-1, o, o + 1, math.MinInt, math.MaxInt} {
					refuses(t, m, api.ErrAnswer, w, append(repeat(o-1, n-1), x))
					refuses(t, m, api.ErrAnswer, w, append([]int{x}, repeat(o-1, n-1)...))
				}
			}
			c := made(t, api.Mealy, 2, o, api.MaxNodes)
			puts(t, c, api.OK, repeat(1, n), repeat(o-1, n))
			gets(t, c, repeat(1, n), repeat(o-1, n), true)
			words(t, c, repeat(1, n))
			nodes(t, c, n+1)
		}
	}
}

// P11.3: the same again changes nothing, as often as one likes; nor does a
// full cache mind it.
func TestPutTheSame(t *testing.T) {
	d, m := some(t, 2, 3, 3)
	for range 3 {
		puts(t, d, api.OK, []int{0, 0}, []int{1})
		puts(t, m, api.OK, []int{0, 0}, []int{2, 2})
		puts(t, m, api.OK, []int{0}, []int{2})
		puts(t, m, api.OK, nil, nil)
		words(t, d, []int{0, 0})
		words(t, m, []int{0, 0})
		nodes(t, d, 3)
		nodes(t, m, 3)
	}
	// A Dfa's beginnings have nodes, but nothing is kept of them till it is Put.
	puts(t, d, api.OK, []int{0}, []int{0})
	puts(t, d, api.OK, nil, []int{1})
	nodes(t, d, 3)
	words(t, d, nil, []int{0}, []int{0, 0})
	gets(t, d, nil, []int{1}, true)
	gets(t, d, []int{0}, []int{0}, true)
	gets(t, d, []int{0, 0}, []int{1}, true)
}

// P11.3: of a Dfa a word clashes with itself alone.
func TestDfaClashes(t *testing.T) {
	c := made(t, api.Dfa, 2, 2, 99)
	said := map[string][]int{}
	for i, w := range lists(3, 0, 1) {
		puts(t, c, api.OK, w, []int{i * i % 3 % 2})
		said[spelt(w)] = []int{i * i % 3 % 2}
	}
	nodes(t, c, 15)
	for _, w := range lists(3, 0, 1) {
		out := said[spelt(w)]
		refuses(t, c, api.ErrClash, w, []int{1 - out[0]})
		puts(t, c, api.OK, w, out)
		gets(t, c, w, out, true)
	}
}

func spelt(w []int) string {
	var b []byte
	for _, x := range w {
		b = append(b, byte('a'+x))
	}
	return string(b)
}

// P11.3: of a Mealy otherwise may be kept of the word itself, of a beginning
// of it, or of a longer one.
func TestMealyClashes(t *testing.T) {
	c := made(t, api.Mealy, 2, 3, 99)
	puts(t, c, api.OK, []int{0, 1, 0}, []int{2, 0, 1})
	for at := range 3 {
		for x := range 3 {
			out := []int{2, 0, 1}
			if out[at] == x {
				continue
			}
			out[at] = x
			refuses(t, c, api.ErrClash, []int{0, 1, 0}, out)
			refuses(t, c, api.ErrClash, []int{0, 1, 0, 1}, append(out, 0))
			refuses(t, c, api.ErrClash, []int{0, 1, 0}[:at+1], out[:at+1])
		}
	}
	// Symbols and not places tell: elsewhere anything may be said.
	refuses(t, c, api.ErrClash, []int{0, 0}, []int{1, 0})
	puts(t, c, api.OK, []int{0, 0}, []int{2, 1})
	puts(t, c, api.OK, []int{1, 1, 0}, []int{0, 1, 2})
	puts(t, c, api.OK, []int{0, 1, 1}, []int{2, 0, 0})
	words(t, c, []int{0, 0}, []int{0, 1, 0}, []int{0, 1, 1}, []int{1, 1, 0})
	nodes(t, c, 9)
}

// P11.3: a longer word that clashes only at its very end, or at its first
// symbol, near the limit.
func TestLongClashes(t *testing.T) {
	c := made(t, api.Mealy, 1, 2, api.MaxNodes)
	n := api.MaxWord
	puts(t, c, api.OK, repeat(0, n), repeat(1, n))
	nodes(t, c, n+1)
	refuses(t, c, api.ErrClash, repeat(0, n), append(repeat(1, n-1), 0))
	refuses(t, c, api.ErrClash, repeat(0, n), append([]int{0}, repeat(1, n-1)...))
	refuses(t, c, api.ErrClash, []int{0}, []int{0})
	refuses(t, c, api.ErrAnswer, repeat(0, n), repeat(1, n-1))
	refuses(t, c, api.ErrLong, repeat(0, n+1), repeat(1, n+1))
	puts(t, c, api.OK, repeat(0, n-1), repeat(1, n-1))
	gets(t, c, repeat(0, n), repeat(1, n), true)
	gets(t, c, repeat(0, n-1), repeat(1, n-1), true)
	gets(t, c, repeat(0, n+1), nil, false)
}

// P11.3: Nodes just at most, and one above it.
func TestFull(t *testing.T) {
	for _, kind := range []int{api.Dfa, api.Mealy} {
		said := func(n int) []int {
			if kind == api.Dfa {
				return []int{1}
			}
			return repeat(1, n)
		}
		for most := 1; most <= 40; most++ {
			c := made(t, kind, 2, 2, most)
			refuses(t, c, api.ErrFull, repeat(0, most), said(most))
			puts(t, c, api.OK, repeat(0, most-1), said(most-1))
			nodes(t, c, most)
			refuses(t, c, api.ErrFull, repeat(0, most), said(most))
			refuses(t, c, api.ErrFull, append(repeat(0, most-1), 1), said(most))
			refuses(t, c, api.ErrFull, []int{1}, said(1))
			puts(t, c, api.OK, repeat(0, most/2), said(most/2))
			nodes(t, c, most)
		}
		// Beginnings that are there take no room.
		c := made(t, kind, 2, 2, 6)
		puts(t, c, api.OK, []int{0, 0, 0}, said(3))
		refuses(t, c, api.ErrFull, []int{1, 0, 0}, said(3))
		refuses(t, c, api.ErrFull, []int{0, 1, 0, 0}, said(4))
		puts(t, c, api.OK, []int{0, 1, 0}, said(3))
		nodes(t, c, 6)
		puts(t, c, api.OK, []int{0, 1}, said(2))
		refuses(t, c, api.ErrFull, []int{0, 1, 1}, said(3))
	}
	puts(t, made(t, api.Dfa, 1, 2, 1), api.OK, nil, []int{0})
	puts(t, made(t, api.Mealy, 1, 1, 1), api.OK, nil, nil)
}

// P11.3: which error comes first where several stand.
func TestFirstError(t *testing.T) {
	m := made(t, api.Mealy, 2, 2, 3)
	puts(t, m, api.OK, []int{0, 0}, []int{1, 1})
	refuses(t, m, api.ErrSymbol, []int{0, 0, 2}, []int{0, 2})
	refuses(t, m, api.ErrSymbol, []int{0, 0, 2}, []int{0, 0, 0})
	refuses(t, m, api.ErrAnswer, []int{0, 0, 1}, []int{0, 0})
	refuses(t, m, api.ErrAnswer, []int{0, 0, 1}, []int{0, 0, 2})
	refuses(t, m, api.ErrAnswer, []int{1, 1}, []int{1, 2})
	refuses(t, m, api.ErrClash, []int{0, 0, 1}, []int{0, 0, 0})
	refuses(t, m, api.ErrClash, []int{0, 1}, []int{0, 0})
	refuses(t, m, api.ErrFull, []int{0, 0, 1}, []int{1, 1, 0})
	refuses(t, m, api.ErrFull, []int{0, 1}, []int{1, 0})
	d := made(t, api.Dfa, 2, 2, 3)
	puts(t, d, api.OK, []int{0, 0}, []int{1})
	refuses(t, d, api.ErrLong, repeat(2, api.MaxWord+1), []int{2})
	refuses(t, d, api.ErrSymbol, []int{0, 0, 2}, []int{2})
	refuses(t, d, api.ErrAnswer, []int{0, 0, 1}, []int{2})
	refuses(t, d, api.ErrAnswer, []int{0, 0}, []int{0, 0})
	refuses(t, d, api.ErrClash, []int{0, 0}, []int{0})
	refuses(t, d, api.ErrFull, []int{0, 0, 1}, []int{0})
}

// P11.2: as many nodes as there may be, and not one more.
func TestMostNodes(t *testing.T) {
	for _, kind := range []int{api.Dfa, api.Mealy} {
		c := made(t, kind, 64, 2, api.MaxNodes)
		said := func(n int) []int {
			if kind == api.Dfa {
				return []int{1}
			}
			return repeat(1, n)
		}
		var long [][]int
		for i := range 257 {
			w := repeat(i%64, api.MaxWord)
			w[1] = i / 64
			long = append(long, w)
		}
		for _, w := range long[:256] {
			puts(t, c, api.OK, w, said(len(w)))
		}
		missing := api.MaxNodes - c.Nodes()
		refuses(t, c, api.ErrFull, long[256][:missing+2], said(missing+2))
		puts(t, c, api.OK, long[256][:missing+1], said(missing+1))
		nodes(t, c, api.MaxNodes)
		refuses(t, c, api.ErrFull, long[256][:missing+2], said(missing+2))
		long[256] = long[256][:missing+1]
		for _, w := range long {
			gets(t, c, w, said(len(w)), true)
			puts(t, c, api.OK, w, said(len(w)))
		}
		slices.SortFunc(long, word.Compare)
		words(t, c, long...)
	}
}
