package cache_test

import (
	"math/rand/v2"
	"slices"
	"testing"

	"tutor/api"
	"tutor/cache"
	"tutor/word"
)

// pair is a word and what is said of it.
type pair struct {
	w, out []int
}

// plain reads the chapter: all it has is what was Put without an error.
type plain struct {
	kind, k, o, most int
	puts             []pair
	hits, misses     int
}

func begins(w, longer []int) bool {
	return len(w) <= len(longer) && slices.Equal(w, longer[:len(w)])
}

// keptOf reads P11.2.
func (p *plain) keptOf(w []int) (out []int, ok bool) {
	for _, x := range p.puts {
		if p.kind == api.Dfa && slices.Equal(w, x.w) {
			return x.out, true
		}
		if p.kind == api.Mealy && begins(w, x.w) {
			return x.out[:len(w)], true
		}
	}
	return nil, p.kind == api.Mealy && len(w) == 0
}

// beginnings lists, in the order, those of all words that were Put.
func (p *plain) beginnings() [][]int {
	l := [][]int{nil}
	for _, x := range p.puts {
		l = append(l, word.Prefixes(x.w)...)
	}
	slices.SortFunc(l, word.Compare)
	return slices.CompactFunc(l, slices.Equal[[]int])
}

func (p *plain) fits(w, out []int) bool {
	if p.kind == api.Dfa {
		return len(out) == 1 && (out[0] == 0 || out[0] == 1)
	}
	return len(out) == len(w) && !slices.ContainsFunc(out, func(x int) bool { return x < 0 || x >= p.o })
}

// clashes reads P11.3's word for it.
func (p *plain) clashes(w, out []int) bool {
	if p.kind == api.Dfa {
		was, ok := p.keptOf(w)
		return ok && was[0] != out[0]
	}
	for n := range len(w) + 1 {
		if was, ok := p.keptOf(w[:n]); ok && !slices.Equal(was, out[:n]) {
			return true
		}
	}
	return false
}

func (p *plain) put(w, out []int) api.Errno {
	if _, e := word.Check(w, p.k); e != api.OK {
		return e
	}
	if !p.fits(w, out) {
		return api.ErrAnswer
	}
	if p.clashes(w, out) {
		return api.ErrClash
	}
	p.puts = append(p.puts, pair{slices.Clone(w), slices.Clone(out)})
	if len(p.beginnings()) > p.most {
		p.puts = p.puts[:len(p.puts)-1]
		return api.ErrFull
	}
	return api.OK
}

func (p *plain) get(w []int) (out []int, ok bool) {
	out, ok = p.keptOf(w)
	if ok {
		p.hits++
	} else {
		p.misses++
	}
	return out, ok
}

// words reads P11.5.
func (p *plain) words() [][]int {
	var kept, l [][]int
	for _, w := range p.beginnings() {
		if _, ok := p.keptOf(w); ok {
			kept = append(kept, w)
		}
	}
	for _, w := range kept {
		hidden := slices.ContainsFunc(kept, func(v []int) bool { return len(v) > len(w) && begins(w, v) })
		if p.kind == api.Dfa || !hidden {
			l = append(l, w)
		}
	}
	return l
}

// both is a cache and its plain reading, to which the same is done.
type both struct {
	t *testing.T
	c *cache.Cache
	p *plain
}

func newBoth(t *testing.T, kind, k, o, most int) both {
	t.Helper()
	return both{t, made(t, kind, k, o, most), &plain{kind: kind, k: k, o: o, most: most}}
}

func (b both) put(w, out []int) api.Errno {
	b.t.Helper()
	got, want := b.c.Put(w, out), b.p.put(w, out)
	if got != want {
		b.t.Fatalf("behind %v (most %d): Put(%v, %v): %d, not %d", b.p.puts, b.p.most, w, out, got, want)
	}
	return got
}

func (b both) get(w []int) {
	b.t.Helper()
	_, has := b.p.keptOf(w)
	if got := b.c.Has(w); got != has {
		b.t.Fatalf("behind %v: Has(%v): %v", b.p.puts, w, got)
	}
	out, ok := b.c.Get(w)
	wantOut, wantOk := b.p.get(w)
	if ok != wantOk || !slices.Equal(out, wantOut) {
		b.t.Fatalf("behind %v: Get(%v): %v, %v, not %v, %v", b.p.puts, w, out, ok, wantOut, wantOk)
	}
}

// agree holds all that the cache tells against the plain reading, asked for
// these lists.
func (b both) agree(lists [][]int) {
	b.t.Helper()
	for _, w := range lists {
		b.get(w)
	}
	if got, want := b.c.Nodes(), len(b.p.beginnings()); got != want {
		b.t.Fatalf("behind %v: Nodes: %d, not %d", b.p.puts, got, want)
	}
	if b.c.Hits() != b.p.hits || b.c.Misses() != b.p.misses {
		b.t.Fatalf("behind %v: %d hits, %d misses, not %d, %d", b.p.puts, b.c.Hits(), b.c.Misses(), b.p.hits, b.p.misses)
	}
	if got, want := b.c.Words(), b.p.words(); !equalLists(got, want) {
		b.t.Fatalf("behind %v: Words: %v, not %v", b.p.puts, got, want)
	}
}

// lists lists all lists of at most n numbers from low to high.
func lists(n, low, high int) [][]int {
	l := [][]int{nil}
	for at := 0; at < len(l); at++ {
		if len(l[at]) < n {
			for x := low; x <= high; x++ {
				l = append(l, append(slices.Clone(l[at]), x))
			}
		}
	}
	return l
}

// enough fails where an error was told too seldom for a test to hold it.
func enough(t *testing.T, told map[api.Errno]int, least int, errors ...api.Errno) {
	t.Helper()
	for _, e := range errors {
		if told[e] < least {
			t.Errorf("error %d is told %d times: that tells little", e, told[e])
		}
	}
}

// P11.2 to P11.5: all ways to Put three small pairs, one behind the other.
func TestSmallAsPlainlyRead(t *testing.T) {
	told := map[api.Errno]int{}
	for _, s := range []struct{ kind, k, o, symbols, out int }{
		{api.Dfa, 1, 2, 3, 1}, {api.Dfa, 2, 2, 2, 1}, {api.Mealy, 1, 2, 2, 2}, {api.Mealy, 2, 2, 2, 2},
	} {
		p := plain{kind: s.kind, o: s.o}
		var pairs []pair
		for _, w := range lists(s.symbols, 0, s.k-1) {
			for _, out := range lists(s.out, 0, s.o-1) {
				if p.fits(w, out) {
					pairs = append(pairs, pair{w, out})
				}
			}
		}
		probes := lists(s.symbols+1, 0, s.k)
		for _, most := range []int{1, 3, 4, 99} {
			for at := range len(pairs) * len(pairs) * len(pairs) {
				b := newBoth(t, s.kind, s.k, s.o, most)
				for _, x := range []pair{pairs[at%len(pairs)], pairs[at/len(pairs)%len(pairs)], pairs[at/len(pairs)/len(pairs)]} {
					told[b.put(x.w, x.out)]++
				}
				b.agree(probes)
			}
		}
	}
	enough(t, told, 500, api.OK, api.ErrClash, api.ErrFull)
}

// drawnList draws a list, now and then with a number that is too small or too
// great.
func drawnList(draw *rand.Rand, n, below int) []int {
	l := make([]int, n)
	for i := range l {
		l[i] = draw.IntN(below)
	}
	if n > 0 && draw.IntN(12) == 0 {
		l[draw.IntN(n)] = []int{-1, below}[draw.IntN(2)]
	}
	return l
}

// P11.2 to P11.5: drawn caches, drawn pairs, fitting or not.
func TestDrawnAsPlainlyRead(t *testing.T) {
	draw := rand.New(rand.NewPCG(11, 1))
	told := map[api.Errno]int{}
	for range 400 {
		kind, k, o := api.Dfa, 1+draw.IntN(4), 2
		if draw.IntN(2) == 0 {
			kind, o = api.Mealy, 1+draw.IntN(3)
		}
		b := newBoth(t, kind, k, o, 1+draw.IntN(60))
		var asked [][]int
		for range 30 {
			w := drawnList(draw, draw.IntN(7), k)
			n := len(w)
			if kind == api.Dfa {
				n = 1
			}
			if draw.IntN(10) == 0 {
				n += draw.IntN(3)
			}
			told[b.put(w, drawnList(draw, n, o))]++
			asked = append(asked, w, drawnList(draw, draw.IntN(5), k), append(slices.Clone(w), 0))
			b.agree(asked[max(0, len(asked)-9):])
		}
		b.agree(asked)
	}
	enough(t, told, 200, api.OK, api.ErrSymbol, api.ErrAnswer, api.ErrClash, api.ErrFull)
}
