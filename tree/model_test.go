package tree_test

import (
	"fmt"
	"math/rand/v2"
	"slices"
	"testing"

	"tutor/api"
	"tutor/tree"
	"tutor/word"
)

// turn is a node's word, and the answer by which one goes on from there.
type turn struct {
	d, out []int
}

func sameTurn(a, b turn) bool {
	return slices.Equal(a.d, b.d) && slices.Equal(a.out, b.out)
}

// held is a state: its access word, and the turns from the root to it.
type held struct {
	access []int
	way    []turn
}

// plain reads the chapter without a tree: all it has is each state's way, and
// the way of what is sifted.
type plain struct {
	kind, k, o int
	states     []held
	sifts      bool
	w          []int
	way        []turn
}

func newPlain(kind, k, o int) *plain {
	return &plain{kind: kind, k: k, o: o, states: []held{{}}}
}

// behind lists the numbers of the states whose ways begin with this one.
func (p *plain) behind(way []turn) []int {
	var l []int
	for s, x := range p.states {
		if len(x.way) >= len(way) && slices.EqualFunc(x.way[:len(way)], way, sameTurn) {
			l = append(l, s)
		}
	}
	return l
}

// node tells the word of the node that stands behind a way; false, if it is a
// leaf.
func (p *plain) node(way []turn) (d []int, ok bool) {
	first := p.states[p.behind(way)[0]]
	if len(first.way) == len(way) {
		return nil, false
	}
	return first.way[len(way)].d, true
}

// isAnswer reads what P14.2 and P10.2 say of an answer about a word.
func (p *plain) isAnswer(w, out []int) bool {
	n := len(w)
	if p.kind == api.Dfa {
		n = 1
	}
	return len(out) == n && !slices.ContainsFunc(out, func(x int) bool { return x < 0 || x >= p.o })
}

func (p *plain) sift(w []int) api.Errno {
	if _, e := word.Check(w, p.k); e != api.OK {
		return e
	}
	p.sifts, p.w, p.way = true, slices.Clone(w), nil
	return api.OK
}

func (p *plain) ask() (q []int, more bool) {
	if !p.sifts {
		return nil, false
	}
	d, ok := p.node(p.way)
	if !ok {
		return nil, false
	}
	return slices.Concat(p.w, d), true
}

func (p *plain) tell(out []int) api.Errno {
	q, more := p.ask()
	if !more {
		return api.ErrTime
	}
	if !p.isAnswer(q, out) {
		return api.ErrAnswer
	}
	d, _ := p.node(p.way)
	if p.kind == api.Mealy {
		out = out[len(p.w):]
	}
	on := slices.Concat(p.way, []turn{{slices.Clone(d), slices.Clone(out)}})
	if len(p.behind(on)) == 0 {
		if len(p.states) == 1024 {
			return api.ErrMany
		}
		p.states = append(p.states, held{slices.Clone(p.w), on})
	}
	p.way = on
	return api.OK
}

func (p *plain) leaf() (s int, ok bool) {
	if _, more := p.ask(); !p.sifts || more {
		return 0, false
	}
	return p.behind(p.way)[0], true
}

func (p *plain) splitError(s int, d, w, was, now []int) api.Errno {
	if s < 0 || s >= len(p.states) {
		return api.ErrState
	}
	if _, e := word.Check(d, p.k); e != api.OK {
		return e
	}
	if _, e := word.Check(w, p.k); e != api.OK {
		return e
	}
	if p.kind == api.Mealy && len(d) == 0 {
		return api.ErrArg
	}
	if !p.isAnswer(d, was) || !p.isAnswer(d, now) {
		return api.ErrAnswer
	}
	if slices.Equal(was, now) {
		return api.ErrClash
	}
	for _, x := range p.states {
		if slices.Equal(x.access, w) {
			return api.ErrTwice
		}
	}
	if len(p.states) == 1024 {
		return api.ErrMany
	}
	return api.OK
}

func (p *plain) split(s int, d, w, was, now []int) (fresh int, e api.Errno) {
	if e := p.splitError(s, d, w, was, now); e != api.OK {
		return 0, e
	}
	d = slices.Clone(d)
	above := p.states[s].way
	p.states[s].way = slices.Concat(above, []turn{{d, slices.Clone(was)}})
	p.states = append(p.states, held{slices.Clone(w), slices.Concat(above, []turn{{d, slices.Clone(now)}})})
	p.sifts = false
	return len(p.states) - 1, api.OK
}

func (p *plain) access(s int) ([]int, api.Errno) {
	if s < 0 || s >= len(p.states) {
		return nil, api.ErrState
	}
	return p.states[s].access, api.OK
}

func (p *plain) common(s, u int) ([]int, api.Errno) {
	if s < 0 || s >= len(p.states) || u < 0 || u >= len(p.states) {
		return nil, api.ErrState
	}
	if s == u {
		return nil, api.ErrArg
	}
	a, b := p.states[s].way, p.states[u].way
	n := 0
	for sameTurn(a[n], b[n]) {
		n++
	}
	return a[n].d, api.OK
}

func (p *plain) depth() int {
	n := 0
	for _, x := range p.states {
		n = max(n, len(x.way))
	}
	return n
}

// both is a tree and its plain reading, to which the same is done.
type both struct {
	t *testing.T
	x *tree.Tree
	p *plain
}

func newBoth(t *testing.T, kind, k, o int) both {
	t.Helper()
	return both{t, made(t, kind, k, o), newPlain(kind, k, o)}
}

func (b both) sift(w []int) api.Errno {
	b.t.Helper()
	got, want := b.x.Sift(w), b.p.sift(w)
	if got != want {
		b.t.Fatalf("behind %s: Sift(%s): %d, not %d", b, cut(w), got, want)
	}
	return got
}

func (b both) tell(out []int) api.Errno {
	b.t.Helper()
	got, want := b.x.Tell(out), b.p.tell(out)
	if got != want {
		b.t.Fatalf("behind %s: Tell(%s): %d, not %d", b, cut(out), got, want)
	}
	return got
}

func (b both) split(s int, d, w, was, now []int) api.Errno {
	b.t.Helper()
	got, e := b.x.Split(s, d, w, was, now)
	want, wantE := b.p.split(s, d, w, was, now)
	if got != want || e != wantE {
		b.t.Fatalf("behind %s: Split(%d, %s, %s, %s, %s): %d, %d, not %d, %d", b, s, cut(d), cut(w), cut(was), cut(now), got, e, want, wantE)
	}
	return e
}

func (b both) String() string {
	s := fmt.Sprintf("%+v", *b.p)
	return s[:min(len(s), 2000)]
}

// agree holds all that the tree tells against the plain reading, and tells how
// it is with what is sifted: none, on its way, come.
func (b both) agree() string {
	b.t.Helper()
	if n, want := b.x.Count(), len(b.p.states); n != want {
		b.t.Fatalf("behind %s: Count %d, not %d", b, n, want)
	}
	if n, want := b.x.Depth(), b.p.depth(); n != want {
		b.t.Fatalf("behind %s: Depth %d, not %d", b, n, want)
	}
	for s := -1; s <= len(b.p.states); s++ {
		w, e := b.p.access(s)
		accesses(b.t, b.x, s, w, e)
		for u := -1; u <= len(b.p.states); u++ {
			w, e := b.p.common(s, u)
			commons(b.t, b.x, s, u, w, e)
		}
	}
	q, more := b.p.ask()
	asks(b.t, b.x, q, more)
	s, ok := b.p.leaf()
	comes(b.t, b.x, s, ok)
	switch {
	case more:
		return "on its way"
	case ok:
		return "come"
	}
	return "none"
}

// enough fails where something was told too seldom for a test to hold it.
func enough[T comparable](t *testing.T, told map[T]int, least int, each ...T) {
	t.Helper()
	for _, x := range each {
		if told[x] < least {
			t.Errorf("%v is told %d times: that tells little", x, told[x])
		}
	}
}

// words lists all words of at most n symbols.
func words(k, n int) [][]int {
	l, _ := word.All(k, n)
	return l
}

// P14.3 to P14.5: all ways to do up to five things of a few, one behind the
// other, wrong ones too; looked at at the end alone.
func TestSmallStepsAsPlainlyRead(t *testing.T) {
	for _, c := range []struct {
		kind  int
		steps []func(b both) api.Errno
	}{
		{api.Dfa, []func(b both) api.Errno{
			func(b both) api.Errno { return b.sift(nil) },
			func(b both) api.Errno { return b.sift([]int{0}) },
			func(b both) api.Errno { return b.sift([]int{1}) },
			func(b both) api.Errno { return b.tell(nil) },
			func(b both) api.Errno { return b.tell([]int{0}) },
			func(b both) api.Errno { return b.tell([]int{1}) },
			func(b both) api.Errno { return b.split(0, nil, []int{0}, []int{0}, []int{1}) },
			func(b both) api.Errno { return b.split(0, []int{0}, []int{0, 0}, []int{1}, []int{0}) },
			func(b both) api.Errno { return b.split(1, []int{0, 0}, []int{0}, []int{1}, []int{0}) },
			func(b both) api.Errno { return b.split(1, nil, []int{0, 0, 0}, []int{0}, []int{1}) },
			func(b both) api.Errno { return b.split(2, []int{0}, []int{0, 0}, []int{0}, []int{1}) },
		}},
		{api.Mealy, []func(b both) api.Errno{
			func(b both) api.Errno { return b.sift(nil) },
			func(b both) api.Errno { return b.sift([]int{0}) },
			func(b both) api.Errno { return b.sift([]int{1}) },
			func(b both) api.Errno { return b.tell([]int{0}) },
			func(b both) api.Errno { return b.tell([]int{1}) },
			func(b both) api.Errno { return b.tell([]int{0, 1}) },
			func(b both) api.Errno { return b.tell([]int{1, 0}) },
			func(b both) api.Errno { return b.split(0, []int{0}, []int{0}, []int{0}, []int{1}) },
			func(b both) api.Errno { return b.split(0, []int{0, 0}, []int{0, 0}, []int{1, 0}, []int{0, 1}) },
			func(b both) api.Errno { return b.split(1, []int{0, 0}, []int{0}, []int{1, 1}, []int{1, 0}) },
			func(b both) api.Errno { return b.split(2, []int{0}, []int{0, 0}, []int{0}, []int{1}) },
		}},
	} {
		errors, told := map[api.Errno]int{}, map[string]int{}
		all := 1
		for most := range 5 {
			all *= len(c.steps)
			for at := range all {
				b := newBoth(t, c.kind, 1, 2)
				for range most + 1 {
					errors[c.steps[at%len(c.steps)](b)]++
					at /= len(c.steps)
				}
				told[b.agree()]++
			}
		}
		enough(t, errors, 1000, api.OK, api.ErrSymbol, api.ErrTime, api.ErrAnswer, api.ErrState, api.ErrTwice)
		enough(t, told, 1000, "none", "on its way", "come")
	}
}

// drawnList draws a list, now and then with a number that is too small or too
// great.
func drawnList(draw *rand.Rand, n, below int) []int {
	l := make([]int, n)
	for i := range l {
		l[i] = draw.IntN(below)
	}
	if n > 0 && draw.IntN(20) == 0 {
		l[draw.IntN(n)] = []int{-1, below}[draw.IntN(2)]
	}
	return l
}

// drawnAnswer draws what may be said of a word of n symbols, now and then with
// a number too few or too many.
func drawnAnswer(draw *rand.Rand, kind, o, n int) []int {
	if kind == api.Dfa {
		n = 1
	}
	if draw.IntN(20) == 0 {
		n = max(0, n+draw.IntN(3)-1)
	}
	return drawnList(draw, n, o)
}

// drawnKind draws what a machine is like.
func drawnKind(draw *rand.Rand) (kind, k, o int) {
	if draw.IntN(2) == 0 {
		return api.Dfa, 1 + draw.IntN(3), 2
	}
	return api.Mealy, 1 + draw.IntN(3), 1 + draw.IntN(4)
}

// drawnStep does something with both, and tells the error.
func (b both) drawnStep(draw *rand.Rand) api.Errno {
	b.t.Helper()
	q, more := b.x.Ask()
	switch n := draw.IntN(8); {
	case n == 0:
		d := drawnList(draw, draw.IntN(4), b.p.k)
		was, now := drawnAnswer(draw, b.p.kind, b.p.o, len(d)), drawnAnswer(draw, b.p.kind, b.p.o, len(d))
		s := draw.IntN(len(b.p.states))
		if draw.IntN(20) == 0 {
			s = []int{-1, len(b.p.states)}[draw.IntN(2)]
		}
		return b.split(s, d, drawnList(draw, draw.IntN(7), b.p.k), was, now)
	case n == 1 || !more:
		return b.sift(drawnList(draw, draw.IntN(5), b.p.k))
	}
	return b.tell(drawnAnswer(draw, b.p.kind, b.p.o, len(q)))
}

// P14.3 to P14.5: drawn trees, to which lies are told.
func TestDrawnAsPlainlyRead(t *testing.T) {
	draw := rand.New(rand.NewPCG(14, 1))
	errors, told := map[api.Errno]int{}, map[string]int{}
	for range 200 {
		kind, k, o := drawnKind(draw)
		b := newBoth(t, kind, k, o)
		for range 150 {
			errors[b.drawnStep(draw)]++
			told[b.agree()]++
		}
	}
	enough(t, errors, 50, api.OK, api.ErrArg, api.ErrSymbol, api.ErrAnswer, api.ErrState, api.ErrClash, api.ErrTwice)
	enough(t, told, 500, "none", "on its way", "come")
}

// P14.3 to P14.5: drawn trees that grow till there are MaxStates states, and
// what is told then.
func TestDrawnTillFull(t *testing.T) {
	draw := rand.New(rand.NewPCG(14, 2))
	for _, kind := range []int{api.Dfa, api.Mealy} {
		b := newBoth(t, kind, 3, 2)
		errors := map[api.Errno]int{}
		for range 60000 {
			if len(b.p.states) == 1024 && errors[api.ErrMany] > 30 {
				break
			}
			var w []int
			for range 6 + draw.IntN(4) {
				w = append(w, draw.IntN(3))
			}
			d := w[:1+draw.IntN(3)]
			was := repeat(0, len(d))
			if kind == api.Dfa {
				was = repeat(0, 1)
			}
			now := slices.Clone(was)
			now[draw.IntN(len(now))] = 1
			errors[b.split(draw.IntN(len(b.p.states)), d, w, was, now)]++
			b.sift(w[:3])
			for q, more := b.x.Ask(); more; q, more = b.x.Ask() {
				out := make([]int, len(was))
				if kind == api.Mealy {
					out = make([]int, len(q))
				}
				for i := range out {
					out[i] = draw.IntN(2)
				}
				e := b.tell(out)
				errors[e]++
				if e == api.ErrMany {
					break
				}
			}
		}
		if kind == api.Mealy {
			if n := b.x.Count(); n != api.MaxStates {
				t.Errorf("%d states", n)
			}
		}
		enough(t, errors, 30, api.OK, api.ErrTwice, api.ErrMany)
		b.agree()
	}
}
