package tree_test

import (
	"math"
	"slices"
	"testing"

	"tutor/api"
	"tutor/tree"
)

func splits(t *testing.T, x *tree.Tree, s int, d, w, was, now []int, want int) {
	t.Helper()
	if fresh, e := x.Split(s, d, w, was, now); fresh != want || e != api.OK {
		t.Fatalf("Split(%d, %s, %s, %s, %s): %d, %d, not %d", s, cut(d), cut(w), cut(was), cut(now), fresh, e, want)
	}
}

func refusesSplit(t *testing.T, x *tree.Tree, want api.Errno, s int, d, w, was, now []int) {
	t.Helper()
	refuses(t, x, want, "Split("+cut([]int{s})+", "+cut(d)+", "+cut(w)+", "+cut(was)+", "+cut(now)+")", func() api.Errno {
		fresh, e := x.Split(s, d, w, was, now)
		if fresh != 0 {
			t.Fatalf("Split tells %d beside %d", fresh, e)
		}
		return e
	})
}

// The chapter's example.
func TestExample(t *testing.T) {
	x := made(t, api.Dfa, 1, 2)
	splits(t, x, 0, nil, []int{0}, []int{0}, []int{1}, 1)
	sifts(t, x, []int{0, 0})
	asks(t, x, []int{0, 0}, true)
	tells(t, x, api.OK, []int{0})
	comes(t, x, 0, true)
	commons(t, x, 0, 1, nil, api.OK)
	m := made(t, api.Mealy, 1, 3)
	splits(t, m, 0, []int{0}, []int{0}, []int{0}, []int{1}, 1)
	sifts(t, m, []int{0, 0})
	tells(t, m, api.OK, []int{0, 0, 2})
	comes(t, m, 2, true)
	counts(t, m, 3)
}

// P14.4: the state stays where was leads to, the new one is where now does; it
// has the next number and w.
func TestSplitPlaces(t *testing.T) {
	for _, was := range []int{0, 1} {
		x := made(t, api.Dfa, 2, 2)
		splits(t, x, 0, []int{1}, []int{0, 1}, []int{was}, []int{1 - was}, 1)
		for said, come := range map[int]int{was: 0, 1 - was: 1} {
			sifts(t, x, []int{0})
			asks(t, x, []int{0, 1}, true)
			tells(t, x, api.OK, []int{said})
			comes(t, x, come, true)
		}
		accesses(t, x, 0, nil, api.OK)
		accesses(t, x, 1, []int{0, 1}, api.OK)
		commons(t, x, 0, 1, []int{1}, api.OK)
		counts(t, x, 2)
		deep(t, x, 1)
	}
	x := made(t, api.Mealy, 2, 3)
	splits(t, x, 0, []int{1, 0}, []int{1}, []int{1, 2}, []int{2, 2}, 1)
	for _, c := range []struct {
		said []int
		come int
	}{{[]int{1, 2}, 0}, {[]int{2, 2}, 1}, {[]int{1, 1}, 2}, {[]int{2, 1}, 3}} {
		sifts(t, x, nil)
		asks(t, x, []int{1, 0}, true)
		tells(t, x, api.OK, c.said)
		comes(t, x, c.come, true)
	}
}

// P14.4: one that is split again and again, the others too: each split touches
// its own state alone.
func TestSplitAgain(t *testing.T) {
	x := three(t)
	splits(t, x, 0, []int{1}, []int{0, 0}, []int{0}, []int{1}, 3)
	splits(t, x, 0, []int{1, 1}, []int{1, 0, 0}, []int{1}, []int{0}, 4)
	splits(t, x, 2, []int{0, 1}, []int{0, 1, 0}, []int{0}, []int{1}, 5)
	for _, c := range []struct {
		says  []int
		words [][]int
		come  int
	}{
		{[]int{0, 0, 1}, [][]int{{}, {1}, {1, 1}}, 0},
		{[]int{0, 0, 0}, [][]int{{}, {1}, {1, 1}}, 4},
		{[]int{0, 1}, [][]int{{}, {1}}, 3},
		{[]int{1, 1}, [][]int{{}, {0}}, 1},
		{[]int{1, 0, 0}, [][]int{{}, {0}, {0, 1}}, 2},
		{[]int{1, 0, 1}, [][]int{{}, {0}, {0, 1}}, 5},
	} {
		sifts(t, x, []int{1, 0, 1})
		for i, said := range c.says {
			asks(t, x, slices.Concat([]int{1, 0, 1}, c.words[i]), true)
			tells(t, x, api.OK, []int{said})
		}
		comes(t, x, c.come, true)
	}
	for s, w := range [][]int{nil, {1}, {1, 1}, {0, 0}, {1, 0, 0}, {0, 1, 0}} {
		accesses(t, x, s, w, api.OK)
	}
}

// P14.4: a word may be asked at several nodes, and may be an access word, too.
func TestSplitByOneWord(t *testing.T) {
	x := made(t, api.Dfa, 2, 2)
	splits(t, x, 0, []int{1}, []int{1}, []int{0}, []int{1}, 1)
	splits(t, x, 0, []int{1}, []int{0}, []int{0}, []int{1}, 2)
	splits(t, x, 1, []int{1}, []int{1, 1}, []int{1}, []int{0}, 3)
	commons(t, x, 0, 2, []int{1}, api.OK)
	commons(t, x, 1, 3, []int{1}, api.OK)
	sifts(t, x, nil)
	tells(t, x, api.OK, []int{0})
	asks(t, x, []int{1}, true)
	tells(t, x, api.OK, []int{1})
	comes(t, x, 2, true)
}

// P14.4: as long and as great as things may be.
func TestSplitLimits(t *testing.T) {
	long := repeat(63, api.MaxWord)
	x := made(t, api.Dfa, 64, 2)
	splits(t, x, 0, long, long, []int{1}, []int{0}, 1)
	commons(t, x, 0, 1, long, api.OK)
	accesses(t, x, 1, long, api.OK)
	m := made(t, api.Mealy, 64, 64)
	splits(t, m, 0, long, long, long, slices.Concat(repeat(63, api.MaxWord-1), []int{0}), 1)
	commons(t, m, 0, 1, long, api.OK)
	sifts(t, m, nil)
	tells(t, m, api.OK, long)
	comes(t, m, 0, true)
}

// P14.4: each error by itself; nothing changes, and what is sifted stays.
func TestSplitFaults(t *testing.T) {
	long := repeat(0, api.MaxWord+1)
	for _, c := range []struct {
		s              int
		d, w, was, now []int
		want           api.Errno
	}{
		{-1, []int{0}, []int{0}, []int{0}, []int{1}, api.ErrState},
		{3, []int{0}, []int{0}, []int{0}, []int{1}, api.ErrState},
		{math.MinInt, []int{0}, []int{0}, []int{0}, []int{1}, api.ErrState},
		{math.MaxInt, []int{0}, []int{0}, []int{0}, []int{1}, api.ErrState},
		{1024, []int{0}, []int{0}, []int{0}, []int{1}, api.ErrState},
		{0, []int{2}, []int{0}, []int{0}, []int{1}, api.ErrSymbol},
		{0, []int{-1}, []int{0}, []int{0}, []int{1}, api.ErrSymbol},
		{0, long, []int{0}, []int{0}, []int{1}, api.ErrLong},
		{0, []int{0}, []int{2}, []int{0}, []int{1}, api.ErrSymbol},
		{0, []int{0}, []int{0, -1}, []int{0}, []int{1}, api.ErrSymbol},
		{0, []int{0}, long, []int{0}, []int{1}, api.ErrLong},
		{0, []int{0}, []int{0}, nil, []int{1}, api.ErrAnswer},
		{0, []int{0}, []int{0}, []int{0, 0}, []int{1}, api.ErrAnswer},
		{0, []int{0}, []int{0}, []int{-1}, []int{1}, api.ErrAnswer},
		{0, []int{0}, []int{0}, []int{3}, []int{1}, api.ErrAnswer},
		{0, []int{0}, []int{0}, []int{256}, []int{1}, api.ErrAnswer},
		{0, []int{0}, []int{0}, []int{0}, nil, api.ErrAnswer},
		{0, []int{0}, []int{0}, []int{0}, []int{1, 1}, api.ErrAnswer},
		{0, []int{0}, []int{0}, []int{0}, []int{-1}, api.ErrAnswer},
		{0, []int{0}, []int{0}, []int{0}, []int{3}, api.ErrAnswer},
		{0, []int{0}, []int{0}, []int{0}, []int{257}, api.ErrAnswer},
		{0, []int{0}, []int{0}, []int{1}, []int{1}, api.ErrClash},
		{0, []int{0}, []int{0}, []int{0}, []int{0}, api.ErrClash},
		{0, []int{0}, nil, []int{0}, []int{1}, api.ErrTwice},
		{0, []int{0}, []int{1}, []int{0}, []int{1}, api.ErrTwice},
		{1, []int{0}, []int{1}, []int{0}, []int{1}, api.ErrTwice},
		{2, []int{0}, []int{1}, []int{0}, []int{1}, api.ErrTwice},
		{0, []int{0}, []int{1, 1}, []int{0}, []int{1}, api.ErrTwice},
	} {
		for _, x := range []*tree.Tree{three(t), mealy(t)} {
			refusesSplit(t, x, c.want, c.s, c.d, c.w, c.was, c.now)
			sifts(t, x, nil)
			refusesSplit(t, x, c.want, c.s, c.d, c.w, c.was, c.now)
			tells(t, x, api.OK, []int{0})
			refusesSplit(t, x, c.want, c.s, c.d, c.w, c.was, c.now)
			comes(t, x, 0, true)
		}
	}
	// Of a Dfa alone: 2 is no answer; of a Mealy alone: d is empty, and lists
	// as long as d.
	refusesSplit(t, three(t), api.ErrAnswer, 0, nil, []int{0}, []int{0}, []int{2})
	refusesSplit(t, three(t), api.ErrAnswer, 0, []int{0, 1}, []int{0}, []int{0, 0}, []int{0, 1})
	refusesSplit(t, three(t), api.ErrAnswer, 0, nil, []int{0}, nil, []int{1})
	refusesSplit(t, mealy(t), api.ErrArg, 0, nil, []int{0}, nil, nil)
	refusesSplit(t, mealy(t), api.ErrArg, 0, []int{}, []int{0}, []int{0}, []int{1})
	refusesSplit(t, mealy(t), api.ErrAnswer, 0, []int{0, 1}, []int{0}, []int{0}, []int{1})
	refusesSplit(t, mealy(t), api.ErrAnswer, 0, []int{0, 1}, []int{0}, []int{0, 0}, []int{1})
	refusesSplit(t, mealy(t), api.ErrAnswer, 0, []int{0, 1}, []int{0}, []int{0, 0}, []int{0, 3})
	refusesSplit(t, mealy(t), api.ErrClash, 0, []int{0, 1}, []int{0}, []int{0, 2}, []int{0, 2})
}

// P14.4: all ways to be wrong at once: the first error is told.
func TestSplitFirstFault(t *testing.T) {
	long := repeat(0, api.MaxWord+1)
	told := map[api.Errno]int{}
	for _, kind := range []int{api.Dfa, api.Mealy} {
		for _, many := range []bool{false, true} {
			b := newBoth(t, kind, 2, 2)
			for n := 1; n < 1024 && (many || n < 3); n++ {
				b.split(n-1, []int{0}, repeat(1, n), []int{0}, []int{1})
			}
			last := len(b.p.states) - 1
			for _, s := range []int{-1, 0, last, last + 1} {
				for _, d := range [][]int{{}, {0}, {1, 1}, {2}, {0, -1}, long} {
					for _, w := range [][]int{{}, {1}, repeat(1, last), {0}, {0, 2}, long} {
						for _, was := range [][]int{{}, {0}, {1}, {2}, {0, 0}, {-1, 1}} {
							for _, now := range [][]int{{}, {0}, {1}, {2}, {0, 0}, {0, 1}, {1, 2}} {
								if want := b.p.splitError(s, d, w, was, now); want != api.OK {
									refusesSmall(t, b.x, want, s, d, w, was, now)
									told[want]++
								}
							}
						}
					}
				}
			}
			b.agreeFew()
		}
	}
	enough(t, told, 10, api.ErrState, api.ErrSymbol, api.ErrLong, api.ErrArg, api.ErrAnswer, api.ErrClash, api.ErrTwice, api.ErrMany)
}

func refusesSmall(t *testing.T, x *tree.Tree, want api.Errno, s int, d, w, was, now []int) {
	t.Helper()
	if fresh, e := x.Split(s, d, w, was, now); fresh != 0 || e != want {
		t.Fatalf("Split(%d, %s, %s, %s, %s): %d, %d, not %d", s, cut(d), cut(w), cut(was), cut(now), fresh, e, want)
	}
}

// agreeFew holds what a tree tells of some states against the plain reading.
func (b both) agreeFew() {
	b.t.Helper()
	counts(b.t, b.x, len(b.p.states))
	deep(b.t, b.x, b.p.depth())
	for s := -1; s <= len(b.p.states); s += 1 + len(b.p.states)/20 {
		w, e := b.p.access(s)
		accesses(b.t, b.x, s, w, e)
		w, e = b.p.common(s, 0)
		commons(b.t, b.x, s, 0, w, e)
	}
}

// P14.4: two faults at once, told by hand, each one by its neighbour.
func TestSplitTwoFaults(t *testing.T) {
	long := repeat(0, api.MaxWord+1)
	x := mealy(t)
	refusesSplit(t, x, api.ErrState, 3, []int{2}, []int{0}, []int{0}, []int{1})
	refusesSplit(t, x, api.ErrState, -1, nil, nil, nil, nil)
	refusesSplit(t, x, api.ErrSymbol, 0, []int{2}, long, []int{0}, []int{1})
	refusesSplit(t, x, api.ErrLong, 0, long, []int{2}, []int{0}, []int{1})
	refusesSplit(t, x, api.ErrSymbol, 0, nil, []int{2}, nil, nil)
	refusesSplit(t, x, api.ErrLong, 0, nil, long, nil, nil)
	refusesSplit(t, x, api.ErrArg, 0, nil, []int{0}, []int{3}, []int{3})
	refusesSplit(t, x, api.ErrArg, 0, nil, nil, nil, nil)
	refusesSplit(t, x, api.ErrAnswer, 0, []int{0}, []int{0}, []int{3}, []int{3})
	refusesSplit(t, x, api.ErrAnswer, 0, []int{0}, nil, nil, nil)
	refusesSplit(t, x, api.ErrAnswer, 0, []int{0}, nil, []int{0}, []int{3})
	refusesSplit(t, x, api.ErrClash, 0, []int{0}, nil, []int{0}, []int{0})
	refusesSplit(t, x, api.ErrClash, 0, []int{0}, []int{1, 1}, []int{2}, []int{2})
	f := full(t)
	refusesSplit(t, f, api.ErrMany, 0, []int{0}, []int{0}, []int{0}, []int{1})
	refusesSplit(t, f, api.ErrTwice, 0, []int{0}, []int{1}, []int{0}, []int{1})
	refusesSplit(t, f, api.ErrTwice, 0, []int{0}, repeat(1, 1023), []int{0}, []int{1})
	refusesSplit(t, f, api.ErrClash, 0, []int{0}, []int{0}, []int{0}, []int{0})
	refusesSplit(t, f, api.ErrAnswer, 0, []int{0}, []int{0}, []int{0}, []int{64})
	refusesSplit(t, f, api.ErrState, 1024, []int{0}, []int{0}, []int{0}, []int{1})
	refusesSplit(t, f, api.ErrMany, 1023, []int{0}, []int{0}, []int{0}, []int{1})
}

// P14.4: at MaxStates states what is sifted stays where it is.
func TestSplitTooMany(t *testing.T) {
	x := full(t)
	sifts(t, x, []int{0})
	refusesSplit(t, x, api.ErrMany, 7, []int{0}, []int{0, 1}, []int{0}, []int{1})
	asks(t, x, []int{0, 0}, true)
	tells(t, x, api.OK, []int{0, 63})
	refusesSplit(t, x, api.ErrMany, 63, []int{0}, []int{0, 1}, []int{0}, []int{1})
	comes(t, x, 63, true)
}

// P14.4: what is sifted is dropped by a Split, wherever it is, whichever state
// is split.
func TestSplitDrops(t *testing.T) {
	for s := range 3 {
		for told := range 3 {
			for _, x := range []*tree.Tree{three(t), mealy(t)} {
				sifts(t, x, []int{0})
				says := [][]int{{1}, {1}}
				if q, _ := x.Ask(); len(q) > 1 {
					says = [][]int{{0, 1}, {0, 2, 0}}
				}
				for _, out := range says[:told] {
					tells(t, x, api.OK, out)
				}
				comes(t, x, told/2, told == 2)
				refusesSplit(t, x, api.ErrClash, s, []int{0}, []int{0, 0}, []int{0}, []int{0})
				splits(t, x, s, []int{0}, []int{0, 0}, []int{0}, []int{1}, 3)
				asks(t, x, nil, false)
				comes(t, x, 0, false)
				refusesTell(t, x, api.ErrTime, []int{1})
				refusesSift(t, x, api.ErrSymbol, []int{2})
				asks(t, x, nil, false)
				sifts(t, x, []int{1})
				if _, more := x.Ask(); !more {
					t.Fatal("the next Sift asks nothing")
				}
			}
		}
	}
	one := made(t, api.Dfa, 1, 2)
	sifts(t, one, []int{0})
	comes(t, one, 0, true)
	splits(t, one, 0, nil, []int{0}, []int{0}, []int{1}, 1)
	comes(t, one, 0, false)
	asks(t, one, nil, false)
}

// P14.4: the number is the next one, whoever made the states ahead of it.
func TestSplitNumbers(t *testing.T) {
	x := made(t, api.Mealy, 1, 64)
	splits(t, x, 0, []int{0}, []int{0}, []int{0}, []int{1}, 1)
	for n := 2; n < 60; n++ {
		w := repeat(0, n)
		if n%2 == 0 {
			sifts(t, x, w)
			tells(t, x, api.OK, slices.Concat(w, []int{n}))
			comes(t, x, n, true)
		} else {
			splits(t, x, n-1, []int{0, 0}, w, []int{0, 1}, []int{1, 1}, n)
		}
		accesses(t, x, n, w, api.OK)
		counts(t, x, n+1)
	}
}
