package tree_test

import (
	"math"
	"slices"
	"testing"

	"tutor/api"
	"tutor/tree"
)

func asks(t *testing.T, x *tree.Tree, want []int, wantMore bool) {
	t.Helper()
	for range 2 {
		if q, more := x.Ask(); more != wantMore || !slices.Equal(q, want) {
			t.Fatalf("Ask: %s, %v, not %s, %v", cut(q), more, cut(want), wantMore)
		}
	}
}

func comes(t *testing.T, x *tree.Tree, want int, wantOk bool) {
	t.Helper()
	for range 2 {
		if s, ok := x.Leaf(); s != want || ok != wantOk {
			t.Fatalf("Leaf: %d, %v, not %d, %v", s, ok, want, wantOk)
		}
	}
}

func sifts(t *testing.T, x *tree.Tree, w []int) {
	t.Helper()
	if e := x.Sift(w); e != api.OK {
		t.Fatalf("Sift(%s): %d", cut(w), e)
	}
}

func tells(t *testing.T, x *tree.Tree, want api.Errno, out []int) {
	t.Helper()
	if e := x.Tell(out); e != want {
		t.Fatalf("Tell(%s): %d, not %d", cut(out), e, want)
	}
}

// seen is all that a tree tells.
type seen struct {
	count, depth  int
	access        [][]int
	common        [][]int
	ask           []int
	more, arrived bool
	leaf          int
}

// see looks at all that a tree tells; of a great one, not at all pairs of
// states.
func see(x *tree.Tree) seen {
	s := seen{count: x.Count(), depth: x.Depth()}
	s.ask, s.more = x.Ask()
	s.leaf, s.arrived = x.Leaf()
	for a := range s.count {
		w, _ := x.Access(a)
		s.access = append(s.access, w)
		for b := range min(a, 9) {
			w, _ := x.Common(a, b)
			s.common = append(s.common, w)
		}
	}
	return s
}

func (s seen) same(other seen) bool {
	return s.count == other.count && s.depth == other.depth && s.more == other.more && s.arrived == other.arrived && s.leaf == other.leaf &&
		slices.Equal(s.ask, other.ask) && equalLists(s.access, other.access) && equalLists(s.common, other.common)
}

// equalLists holds nil and empty lists for the same.
func equalLists(a, b [][]int) bool {
	return slices.EqualFunc(a, b, slices.Equal[[]int])
}

// refuses does something that must be an error, and holds that nothing has
// changed.
func refuses(t *testing.T, x *tree.Tree, want api.Errno, what string, do func() api.Errno) {
	t.Helper()
	before := see(x)
	if e := do(); e != want {
		t.Fatalf("%s: %d, not %d", what, e, want)
	}
	if after := see(x); !after.same(before) {
		t.Fatalf("%s: %d, but %v, then %v", what, want, before, after)
	}
}

func refusesSift(t *testing.T, x *tree.Tree, want api.Errno, w []int) {
	t.Helper()
	refuses(t, x, want, "Sift("+cut(w)+")", func() api.Errno { return x.Sift(w) })
}

func refusesTell(t *testing.T, x *tree.Tree, want api.Errno, out []int) {
	t.Helper()
	refuses(t, x, want, "Tell("+cut(out)+")", func() api.Errno { return x.Tell(out) })
}

// three is a Dfa's tree over two symbols: at the root the empty word, where 0
// comes to state 0; where 1 comes to, [0] is asked: 1 is state 1, 0 is state 2.
func three(t *testing.T) *tree.Tree {
	t.Helper()
	x := made(t, api.Dfa, 2, 2)
	splits(t, x, 0, nil, []int{1}, []int{0}, []int{1}, 1)
	splits(t, x, 1, []int{0}, []int{1, 1}, []int{1}, []int{0}, 2)
	return x
}

// mealy is a Mealy's tree over two symbols, of three outputs: at the root [1],
// where 0 comes to state 0; where 1 comes to, [0 1] is asked: [2 0] is state 1,
// [0 2] is state 2.
func mealy(t *testing.T) *tree.Tree {
	t.Helper()
	x := made(t, api.Mealy, 2, 3)
	splits(t, x, 0, []int{1}, []int{1}, []int{0}, []int{1}, 1)
	splits(t, x, 1, []int{0, 1}, []int{1, 1}, []int{2, 0}, []int{0, 2}, 2)
	return x
}

// P14.3: whatever is a word is sifted.
func TestSiftWords(t *testing.T) {
	for _, k := range []int{1, 2, 64} {
		for _, w := range [][]int{nil, {}, {0}, {k - 1}, {0, k - 1, 0}, repeat(k-1, api.MaxWord-1), repeat(k-1, api.MaxWord)} {
			d := made(t, api.Dfa, k, 2)
			splits(t, d, 0, []int{k - 1}, []int{0}, []int{1}, []int{0}, 1)
			sifts(t, d, w)
			asks(t, d, slices.Concat(w, []int{k - 1}), true)
			tells(t, d, api.OK, []int{0})
			comes(t, d, 1, true)
			m := made(t, api.Mealy, k, 2)
			splits(t, m, 0, []int{k - 1, 0}, []int{0}, []int{1, 0}, []int{0, 0}, 1)
			sifts(t, m, w)
			asks(t, m, slices.Concat(w, []int{k - 1, 0}), true)
			tells(t, m, api.OK, slices.Concat(repeat(1, len(w)), []int{0, 0}))
			comes(t, m, 1, true)
		}
	}
}

// P14.3: what is no word is word.Check's error; neither what is sifted nor
// what was come to changes.
func TestSiftNoWord(t *testing.T) {
	refuseAll := func(x *tree.Tree) {
		t.Helper()
		for _, s := range []int{-1, 2, 3, 64, math.MinInt, math.MaxInt} {
			refusesSift(t, x, api.ErrSymbol, []int{s})
			refusesSift(t, x, api.ErrSymbol, []int{0, s})
			refusesSift(t, x, api.ErrSymbol, []int{s, 1, 0})
			refusesSift(t, x, api.ErrSymbol, slices.Concat(repeat(0, api.MaxWord-1), []int{s}))
			refusesSift(t, x, api.ErrLong, slices.Concat(repeat(0, api.MaxWord), []int{s}))
		}
		refusesSift(t, x, api.ErrLong, repeat(0, api.MaxWord+1))
	}
	for _, x := range []*tree.Tree{made(t, api.Dfa, 2, 2), made(t, api.Mealy, 2, 3)} {
		refuseAll(x)
		asks(t, x, nil, false)
		comes(t, x, 0, false)
		sifts(t, x, []int{0})
		refuseAll(x)
		comes(t, x, 0, true)
	}
	x := three(t)
	refuseAll(x)
	comes(t, x, 0, false)
	sifts(t, x, []int{0, 1})
	refuseAll(x)
	asks(t, x, []int{0, 1}, true)
	tells(t, x, api.OK, []int{1})
	refuseAll(x)
	asks(t, x, []int{0, 1, 0}, true)
	tells(t, x, api.OK, []int{0})
	refuseAll(x)
	comes(t, x, 2, true)
}

// P14.3: in a tree that is one leaf each Sift has come to it at once.
func TestSiftOneLeaf(t *testing.T) {
	for _, x := range []*tree.Tree{made(t, api.Dfa, 1, 2), made(t, api.Mealy, 1, 1), made(t, api.Mealy, 1, 64)} {
		for _, w := range [][]int{nil, {0}, {0, 0}, repeat(0, api.MaxWord)} {
			sifts(t, x, w)
			asks(t, x, nil, false)
			comes(t, x, 0, true)
			refusesTell(t, x, api.ErrTime, []int{0})
			refusesTell(t, x, api.ErrTime, nil)
		}
		counts(t, x, 1)
		accesses(t, x, 0, nil, api.OK)
	}
}

// P14.3: at each node on the way, and behind the last one.
func TestAskOnTheWay(t *testing.T) {
	for _, c := range []struct {
		w    []int
		says []int
		come int
	}{
		{[]int{0, 1}, []int{0}, 0}, {[]int{0, 1}, []int{1, 1}, 1}, {[]int{0, 1}, []int{1, 0}, 2},
		{nil, []int{0}, 0}, {nil, []int{1, 1}, 1}, {nil, []int{1, 0}, 2}, {[]int{1, 1}, []int{1, 1}, 1},
	} {
		x := three(t)
		asks(t, x, nil, false)
		sifts(t, x, c.w)
		for i, said := range c.says {
			asks(t, x, slices.Concat(c.w, repeat(0, i)), true)
			comes(t, x, 0, false)
			tells(t, x, api.OK, []int{said})
		}
		asks(t, x, nil, false)
		comes(t, x, c.come, true)
		counts(t, x, 3)
	}
}

// P14.3: the same of a Mealy.
func TestAskOnTheWayOfMealy(t *testing.T) {
	x := mealy(t)
	asks(t, x, nil, false)
	sifts(t, x, []int{0})
	asks(t, x, []int{0, 1}, true)
	comes(t, x, 0, false)
	tells(t, x, api.OK, []int{2, 1})
	asks(t, x, []int{0, 0, 1}, true)
	comes(t, x, 0, false)
	tells(t, x, api.OK, []int{2, 0, 2})
	asks(t, x, nil, false)
	comes(t, x, 2, true)
	sifts(t, x, []int{0})
	asks(t, x, []int{0, 1}, true)
	tells(t, x, api.OK, []int{2, 0})
	comes(t, x, 0, true)
	counts(t, x, 3)
}

// P14.3: a Sift begins at the root, whether another one is on its way or has
// come to a leaf; what that one did is left as it is.
func TestSiftAnew(t *testing.T) {
	x := three(t)
	sifts(t, x, []int{0})
	sifts(t, x, []int{1, 0})
	asks(t, x, []int{1, 0}, true)
	tells(t, x, api.OK, []int{1})
	asks(t, x, []int{1, 0, 0}, true)
	sifts(t, x, []int{1, 1})
	asks(t, x, []int{1, 1}, true)
	comes(t, x, 0, false)
	sifts(t, x, []int{1, 1})
	asks(t, x, []int{1, 1}, true)
	tells(t, x, api.OK, []int{1})
	tells(t, x, api.OK, []int{1})
	comes(t, x, 1, true)
	sifts(t, x, []int{0})
	comes(t, x, 0, false)
	asks(t, x, []int{0}, true)
	tells(t, x, api.OK, []int{0})
	comes(t, x, 0, true)
	counts(t, x, 3)
	deep(t, x, 2)

	m := mealy(t)
	sifts(t, m, []int{0})
	tells(t, m, api.OK, []int{0, 2})
	comes(t, m, 3, true)
	sifts(t, m, []int{0, 0})
	comes(t, m, 0, false)
	asks(t, m, []int{0, 0, 1}, true)
	counts(t, m, 4)
	accesses(t, m, 3, []int{0}, api.OK)
	commons(t, m, 0, 3, []int{1}, api.OK)
}

// P14.3: Tell where Ask tells false, of whatever would fit or not.
func TestTellNotDue(t *testing.T) {
	notDue := func(x *tree.Tree) {
		t.Helper()
		for _, out := range [][]int{nil, {0}, {1}, {2}, {-1}, {0, 1}, {0, 0, 0}} {
			refusesTell(t, x, api.ErrTime, out)
		}
	}
	for _, x := range []*tree.Tree{made(t, api.Dfa, 2, 2), made(t, api.Mealy, 2, 3), three(t), mealy(t)} {
		notDue(x)
	}
	x := three(t)
	sifts(t, x, nil)
	tells(t, x, api.OK, []int{0})
	notDue(x)
	sifts(t, x, nil)
	splits(t, x, 0, nil, []int{0}, []int{0}, []int{1}, 3)
	notDue(x)
	m := mealy(t)
	sifts(t, m, nil)
	tells(t, m, api.OK, []int{2})
	comes(t, m, 3, true)
	notDue(m)
}

// P14.3: what P10.2 lets nobody say of the word that is asked.
func TestTellNoAnswer(t *testing.T) {
	x := three(t)
	for _, w := range [][]int{nil, {0}, {0, 1, 1}} {
		sifts(t, x, w)
		for range 2 {
			for _, out := range [][]int{nil, {}, {0, 0}, {1, 1}, {0, 1, 1, 0}, repeat(0, len(w)+2)} {
				refusesTell(t, x, api.ErrAnswer, out)
			}
			for _, s := range []int{-1, 2, 3, 64, 256, 257, math.MinInt, math.MaxInt} {
				refusesTell(t, x, api.ErrAnswer, []int{s})
			}
			tells(t, x, api.OK, []int{1})
		}
		comes(t, x, 1, true)
	}
	m := mealy(t)
	for _, w := range [][]int{nil, {0}, {0, 1, 1}} {
		sifts(t, m, w)
		for _, d := range [][]int{{1}, {2, 0}} {
			n := len(w) + len(d)
			for _, few := range []int{0, n - 1, n + 1, n + 2, len(d) - 1} {
				refusesTell(t, m, api.ErrAnswer, repeat(0, few))
			}
			if len(w) > 0 {
				refusesTell(t, m, api.ErrAnswer, d)
			}
			for i := range n {
				for _, s := range []int{-1, 3, 64, 256, math.MinInt, math.MaxInt} {
					out := repeat(1, n)
					out[i] = s
					refusesTell(t, m, api.ErrAnswer, out)
				}
			}
			tells(t, m, api.OK, slices.Concat(repeat(2, len(w)), d))
		}
		comes(t, m, 1, true)
		counts(t, m, 3)
	}
}

// P14.3: as great as what is said may be.
func TestGreatestOutputs(t *testing.T) {
	for _, o := range []int{1, 2, 63, 64} {
		x := made(t, api.Mealy, 1, o)
		if o > 1 {
			splits(t, x, 0, []int{0}, []int{0}, []int{0}, []int{o - 1}, 1)
			sifts(t, x, []int{0, 0})
			refusesTell(t, x, api.ErrAnswer, []int{0, 0, o})
			refusesTell(t, x, api.ErrAnswer, []int{o, 0, 0})
			tells(t, x, api.OK, []int{o - 1, o - 1, o - 1})
			comes(t, x, 1, true)
		} else {
			refusesSplit(t, x, api.ErrClash, 0, []int{0}, []int{0}, []int{0}, []int{0})
			refusesSplit(t, x, api.ErrAnswer, 0, []int{0}, []int{0}, []int{0}, []int{1})
		}
	}
}

// P14.3: of what a Mealy says, the last as many numbers as the node's word has
// symbols decide, and no others.
func TestLastNumbersDecide(t *testing.T) {
	for _, first := range [][]int{{0, 0}, {0, 2}, {2, 0}, {1, 1}} {
		x := mealy(t)
		for _, c := range []struct {
			said, behind []int
			come         int
		}{
			{[]int{0}, nil, 0}, {[]int{1}, []int{2, 0}, 1}, {[]int{1}, []int{0, 2}, 2},
		} {
			sifts(t, x, []int{1, 0})
			tells(t, x, api.OK, slices.Concat(first, c.said))
			if c.behind != nil {
				asks(t, x, []int{1, 0, 0, 1}, true)
				tells(t, x, api.OK, slices.Concat(first, c.behind))
			}
			comes(t, x, c.come, true)
		}
		counts(t, x, 3)
	}
}

// P14.3: an answer that no child has makes a state, with what is sifted as its
// access word, below the node at which it was; one that has a child makes
// none.
func TestTellMakesState(t *testing.T) {
	x := mealy(t)
	sifts(t, x, []int{0})
	tells(t, x, api.OK, []int{0, 2})
	comes(t, x, 3, true)
	asks(t, x, nil, false)
	counts(t, x, 4)
	deep(t, x, 2)
	accesses(t, x, 3, []int{0}, api.OK)
	for s := range 3 {
		commons(t, x, s, 3, []int{1}, api.OK)
	}
	sifts(t, x, []int{0, 0})
	tells(t, x, api.OK, []int{0, 0, 1})
	tells(t, x, api.OK, []int{0, 0, 0, 1})
	comes(t, x, 4, true)
	counts(t, x, 5)
	deep(t, x, 2)
	accesses(t, x, 4, []int{0, 0}, api.OK)
	for s, d := range [][]int{{1}, {0, 1}, {0, 1}, {1}} {
		commons(t, x, 4, s, d, api.OK)
	}
	// They have children now, whichever word comes there.
	for _, w := range [][]int{nil, {0}, {1, 1, 0}} {
		sifts(t, x, w)
		tells(t, x, api.OK, slices.Concat(w, []int{2}))
		comes(t, x, 3, true)
		sifts(t, x, w)
		tells(t, x, api.OK, slices.Concat(w, []int{1}))
		tells(t, x, api.OK, slices.Concat(w, []int{0, 1}))
		comes(t, x, 4, true)
	}
	counts(t, x, 5)
	// A state that was made so may be split, and made below it be others.
	splits(t, x, 3, []int{1, 1}, []int{0, 1}, []int{2, 2}, []int{2, 1}, 5)
	deep(t, x, 2)
	sifts(t, x, []int{1})
	tells(t, x, api.OK, []int{0, 2})
	asks(t, x, []int{1, 1, 1}, true)
	tells(t, x, api.OK, []int{0, 2, 0})
	comes(t, x, 6, true)
	accesses(t, x, 6, []int{1}, api.OK)
	commons(t, x, 6, 3, []int{1, 1}, api.OK)
	commons(t, x, 6, 4, []int{1}, api.OK)
}

// P14.3: with o numbers each of them may have a state.
func TestTellMakesAllStates(t *testing.T) {
	x := made(t, api.Mealy, 1, 64)
	splits(t, x, 0, []int{0}, []int{0}, []int{7}, []int{3}, 1)
	want := map[int]int{7: 0, 3: 1}
	for at := range 128 {
		said := at * 37 % 64
		w := repeat(0, at)
		sifts(t, x, w)
		tells(t, x, api.OK, slices.Concat(w, []int{said}))
		s, there := want[said]
		if !there {
			s = len(want)
			want[said] = s
			accesses(t, x, s, w, api.OK)
		}
		comes(t, x, s, true)
		counts(t, x, len(want))
		deep(t, x, 1)
	}
	counts(t, x, 64)
}

// P14.3: a new state may have an access word that another one has: only Split
// asks that.
func TestTellOfAccessWord(t *testing.T) {
	x := mealy(t)
	sifts(t, x, []int{1})
	tells(t, x, api.OK, []int{0, 2})
	comes(t, x, 3, true)
	accesses(t, x, 1, []int{1}, api.OK)
	accesses(t, x, 3, []int{1}, api.OK)
	commons(t, x, 1, 3, []int{1}, api.OK)
}

// P14.3: a Dfa's node has both its children from the beginning on: whatever
// is told, no state is made.
func TestTellMakesNoStateOfDfa(t *testing.T) {
	x := three(t)
	for _, w := range words(2, 4) {
		for _, says := range [][]int{{0}, {1, 1}, {1, 0}} {
			sifts(t, x, w)
			for _, said := range says {
				tells(t, x, api.OK, []int{said})
			}
			asks(t, x, nil, false)
		}
	}
	counts(t, x, 3)
}

// full is a Mealy's tree with as many states as there may be: 64 below the
// root, and below 15 of them 65 each.
func full(t *testing.T) *tree.Tree {
	t.Helper()
	x := made(t, api.Mealy, 2, 64)
	splits(t, x, 0, []int{0}, []int{1}, []int{0}, []int{1}, 1)
	for s := 2; s < 64; s++ {
		sifts(t, x, repeat(1, s))
		tells(t, x, api.OK, slices.Concat(repeat(0, s), []int{s}))
		comes(t, x, s, true)
	}
	for s := 0; x.Count() < api.MaxStates; s++ {
		n := x.Count()
		splits(t, x, s, []int{0, 1}, repeat(1, n), []int{0, 0}, []int{0, 1}, n)
		for last := 2; last < 64 && x.Count() < api.MaxStates; last++ {
			n := x.Count()
			sifts(t, x, repeat(1, n))
			tells(t, x, api.OK, slices.Concat(repeat(0, n), []int{s}))
			tells(t, x, api.OK, slices.Concat(repeat(0, n), []int{0, last}))
			comes(t, x, n, true)
		}
	}
	counts(t, x, 1024)
	return x
}

// P14.3: at MaxStates states no state is made; the word stays where it is, and
// goes on by an answer that has a child.
func TestTellTooMany(t *testing.T) {
	x := full(t)
	deep(t, x, 2)
	sifts(t, x, []int{0, 0})
	tells(t, x, api.OK, []int{5, 5, 0})
	for _, said := range [][]int{{1, 0}, {1, 63}, {63, 63}} {
		refusesTell(t, x, api.ErrMany, slices.Concat([]int{9, 9}, said))
		asks(t, x, []int{0, 0, 0, 1}, true)
		comes(t, x, 0, false)
	}
	refusesTell(t, x, api.ErrAnswer, []int{9, 9, 1})
	refusesTell(t, x, api.ErrAnswer, []int{9, 9, 1, 64})
	tells(t, x, api.OK, []int{9, 9, 0, 1})
	comes(t, x, 64, true)
	refusesTell(t, x, api.ErrTime, []int{9, 9, 1, 0})
	counts(t, x, 1024)
	// Again, and then another word.
	sifts(t, x, nil)
	tells(t, x, api.OK, []int{2})
	refusesTell(t, x, api.ErrMany, []int{1, 1})
	sifts(t, x, []int{1})
	asks(t, x, []int{1, 0}, true)
	tells(t, x, api.OK, []int{0, 63})
	comes(t, x, 63, true)
}

// P14.3: one state fewer, and it is made.
func TestTellLastState(t *testing.T) {
	x := made(t, api.Mealy, 1, 64)
	for s := range 1022 {
		splits(t, x, s, repeat(0, s%64+1), repeat(0, s+1), repeat(0, s%64+1), repeat(1, s%64+1), s+1)
	}
	counts(t, x, 1023)
	sifts(t, x, []int{0})
	tells(t, x, api.OK, []int{0, 2})
	comes(t, x, 1023, true)
	counts(t, x, 1024)
	accesses(t, x, 1023, []int{0}, api.OK)
	sifts(t, x, []int{0, 0})
	refusesTell(t, x, api.ErrMany, []int{0, 0, 3})
	tells(t, x, api.OK, []int{0, 0, 2})
	comes(t, x, 1023, true)
}

// P14.3: what is asked may be longer than a word may be that is sifted.
func TestLongestAsk(t *testing.T) {
	x := made(t, api.Mealy, 2, 2)
	d, w := repeat(1, api.MaxWord), repeat(0, api.MaxWord)
	splits(t, x, 0, d, []int{0}, repeat(0, api.MaxWord), repeat(1, api.MaxWord), 1)
	sifts(t, x, w)
	asks(t, x, slices.Concat(w, d), true)
	refusesTell(t, x, api.ErrAnswer, repeat(1, api.MaxWord))
	refusesTell(t, x, api.ErrAnswer, repeat(1, 2*api.MaxWord-1))
	refusesTell(t, x, api.ErrAnswer, repeat(1, 2*api.MaxWord+1))
	tells(t, x, api.OK, slices.Concat(repeat(0, api.MaxWord), repeat(1, api.MaxWord)))
	comes(t, x, 1, true)
	sifts(t, x, w)
	tells(t, x, api.OK, slices.Concat(repeat(0, 2*api.MaxWord-1), []int{1}))
	comes(t, x, 2, true)
	accesses(t, x, 2, w, api.OK)
}
