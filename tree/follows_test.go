package tree_test

import (
	"math/rand/v2"
	"slices"
	"testing"

	"tutor/api"
	"tutor/differ"
	"tutor/machine"
	"tutor/moore"
	"tutor/tree"
	"tutor/word"
)

// drawnMachine draws one with n states.
func drawnMachine(draw *rand.Rand, kind, k, o, n int) api.Machine {
	m := api.Machine{Kind: kind, K: k, O: o, N: n}
	for range n * k {
		m.Next = append(m.Next, draw.IntN(n))
		m.Out = append(m.Out, draw.IntN(o))
	}
	if kind == api.Dfa {
		m.Out = m.Out[:n]
	}
	return m
}

// behind is what m says of d behind w.
func behind(t *testing.T, m api.Machine, w, d []int) []int {
	t.Helper()
	s, e := machine.State(m, w)
	if e != api.OK {
		t.Fatalf("%v, %s: %d", m, cut(w), e)
	}
	_, out, e := machine.From(m, s, d)
	if e != api.OK {
		t.Fatalf("%v, %s: %d", m, cut(d), e)
	}
	return out
}

// comeTo sifts w, tells what m says, and tells the state that is come to; it
// holds that Depth words are asked at most.
func comeTo(t *testing.T, x *tree.Tree, m api.Machine, w []int) int {
	t.Helper()
	sifts(t, x, w)
	most := x.Depth()
	for n := 0; ; n++ {
		q, more := x.Ask()
		if !more {
			s, ok := x.Leaf()
			if !ok {
				t.Fatalf("%s has come to no leaf", cut(w))
			}
			return s
		}
		if n == most {
			t.Fatalf("%s asks more than %d words", cut(w), most)
		}
		out, e := machine.Run(m, q)
		if e != api.OK {
			t.Fatalf("%v, %s: %d", m, cut(q), e)
		}
		tells(t, x, api.OK, out)
	}
}

// holds holds P14.6: each state's access word comes to it, and two states'
// Common tells the words apart.
func holds(t *testing.T, x *tree.Tree, m api.Machine) {
	t.Helper()
	var access [][]int
	for s := range x.Count() {
		w, _ := x.Access(s)
		access = append(access, w)
		if got := comeTo(t, x, m, w); got != s {
			t.Fatalf("of %v: %v comes to %d, not %d", m, w, got, s)
		}
	}
	counts(t, x, len(access))
	for s, w := range access {
		for u, v := range access[:s] {
			d, e := x.Common(s, u)
			if e != api.OK || slices.Equal(behind(t, m, w, d), behind(t, m, v, d)) {
				t.Fatalf("of %v: Common(%d, %d): %v, %d does not tell %v and %v apart", m, s, u, d, e, w, v)
			}
		}
	}
}

// telling looks for a word by which m tells u and w apart: a drawn one or the
// first one.
func telling(t *testing.T, draw *rand.Rand, m api.Machine, u, w []int) (d []int, ok bool) {
	t.Helper()
	for range 3 {
		d = nil
		for range draw.IntN(5) {
			d = append(d, draw.IntN(m.K))
		}
		if !slices.Equal(behind(t, m, u, d), behind(t, m, w, d)) {
			return d, true
		}
	}
	a, _ := machine.State(m, u)
	b, _ := machine.State(m, w)
	d, ok, _ = differ.Apart(m, a, b)
	return d, ok
}

// P14.6: drawn machines, to whose trees all is told that they say: a word that
// comes to a state from whose access word it is told apart splits it.
func TestOneMachine(t *testing.T) {
	draw := rand.New(rand.NewPCG(14, 6))
	parted, added, whole := 0, 0, 0
	for range 1000 {
		kind, k, o := drawnKind(draw)
		m := drawnMachine(draw, kind, k, o, 1+draw.IntN(14))
		least, _ := moore.Minimise(m)
		x := made(t, kind, k, o)
		for range 60 {
			var w []int
			for range draw.IntN(6) {
				w = append(w, draw.IntN(k))
			}
			n := x.Count()
			s := comeTo(t, x, m, w)
			added += x.Count() - n
			u, _ := x.Access(s)
			d, ok := telling(t, draw, m, u, w)
			if !ok {
				continue
			}
			splits(t, x, s, d, w, behind(t, m, u, d), behind(t, m, w, d), x.Count())
			parted++
			holds(t, x, m)
		}
		if x.Count() > least.N {
			t.Fatalf("of %v: %d states", least, x.Count())
		}
		if x.Count() == least.N {
			whole++
		}
	}
	if parted < 2000 || added < 300 || whole < 200 {
		t.Errorf("%d states parted, %d made on the way, %d machines whole: that tells little", parted, added, whole)
	}
}

// P14.6: a machine with as many states as there may be, whose tree is as deep
// as it may be.
func TestMostStates(t *testing.T) {
	n := api.MaxStates
	m := api.Machine{Kind: api.Dfa, K: 1, O: 2, N: n, Out: make([]int, n)}
	for s := range n {
		m.Next = append(m.Next, (s+1)%n)
	}
	m.Out[n-1] = 1
	x := made(t, api.Dfa, 1, 2)
	// The word that leads from a state to the last one parts it from all.
	for s := range n - 1 {
		splits(t, x, s, repeat(0, n-1-s), repeat(0, s+1), []int{1}, []int{0}, s+1)
	}
	deep(t, x, n-1)
	for s := 0; s < n; s += 93 {
		for _, w := range [][]int{repeat(0, s), repeat(0, n+s)} {
			if got := comeTo(t, x, m, w); got != s {
				t.Fatalf("%d symbols come to %d, not %d", len(w), got, s)
			}
		}
	}
	if got := comeTo(t, x, m, repeat(0, n-1)); got != n-1 {
		t.Fatalf("the last state's word comes to %d", got)
	}
	counts(t, x, n)
}

// P14.6: whatever is told, lies too, a Sift asks Depth times at most, and as
// often as nodes stand above the deepest leaf it may.
func TestAsksAtMostDepth(t *testing.T) {
	draw := rand.New(rand.NewPCG(14, 7))
	atMost := 0
	for range 300 {
		b := newBoth(t, api.Mealy, 2, 2)
		for range 12 {
			var w []int
			for range 1 + draw.IntN(6) {
				w = append(w, draw.IntN(2))
			}
			d := w[:1+draw.IntN(len(w))]
			b.split(draw.IntN(len(b.p.states)), d, w, repeat(0, len(d)), repeat(1, len(d)))
			b.sift(w)
			asked, most := 0, b.x.Depth()
			for q, more := b.x.Ask(); more; q, more = b.x.Ask() {
				b.tell(drawnHalves(draw, len(q)))
				asked++
			}
			if asked > most || b.x.Depth() != most {
				t.Fatalf("%d words asked, Depth %d, then %d", asked, most, b.x.Depth())
			}
			if asked == most && most > 2 {
				atMost++
			}
		}
		b.agree()
	}
	if atMost < 50 {
		t.Errorf("%d times as often as may be: that tells little", atMost)
	}
}

// drawnHalves draws a list that is 0 throughout, or 1, or now and then any.
func drawnHalves(draw *rand.Rand, n int) []int {
	l := repeat(draw.IntN(2), n)
	if draw.IntN(4) == 0 {
		l[draw.IntN(n)] ^= 1
	}
	return l
}

// P14.6: every word of a small machine comes to the state that it leads to, by
// a tree that parts all its states.
func TestAllWordsCome(t *testing.T) {
	m := api.Machine{Kind: api.Mealy, K: 2, O: 3, N: 3, Next: []int{1, 0, 2, 1, 0, 2}, Out: []int{0, 1, 0, 2, 1, 1}}
	x := made(t, api.Mealy, 2, 3)
	splits(t, x, 0, []int{1}, []int{0}, []int{1}, []int{2}, 1)
	splits(t, x, 0, []int{0}, []int{0, 0}, []int{0}, []int{1}, 2)
	holds(t, x, m)
	for _, w := range words(2, 9) {
		s, _ := machine.State(m, w)
		if got := comeTo(t, x, m, w); got != s {
			t.Fatalf("%v comes to %d, not %d", w, got, s)
		}
		if u, _ := x.Access(s); word.Compare(u, w) > 0 {
			t.Fatalf("%v is ahead of %v", w, u)
		}
	}
	counts(t, x, 3)
}
