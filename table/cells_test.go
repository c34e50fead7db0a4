package table_test

import (
	"math"
	"slices"
	"testing"

	"tutor/api"
	"tutor/table"
	"tutor/word"
)

func misses(t *testing.T, x *table.Table, want []int, wantOk bool) {
	t.Helper()
	for range 2 {
		if w, ok := x.Missing(); ok != wantOk || !slices.Equal(w, want) {
			t.Fatalf("Missing: %s, %v, not %s, %v", cut(w), ok, cut(want), wantOk)
		}
	}
}

func puts(t *testing.T, x *table.Table, want api.Errno, w, out []int) {
	t.Helper()
	if got := x.Put(w, out); got != want {
		t.Fatalf("Put(%s, %s): %d, not %d", cut(w), cut(out), got, want)
	}
}

func refusesPut(t *testing.T, x *table.Table, want api.Errno, w, out []int) {
	t.Helper()
	refuses(t, x, want, func() api.Errno { return x.Put(w, out) })
}

// saysNo is what a machine says of w that always says 0.
func saysNo(kind int, w []int) []int {
	if kind == api.Dfa {
		return []int{0}
	}
	return make([]int, len(w))
}

// asked puts what is missing till nothing is, by what say says; it tells the
// words, and holds that they come in their order.
func asked(t *testing.T, x *table.Table, say func(w []int) []int) [][]int {
	t.Helper()
	var l [][]int
	for {
		w, ok := x.Missing()
		if !ok {
			misses(t, x, nil, false)
			return l
		}
		if len(w) > api.MaxWord || len(l) > 0 && word.Compare(l[len(l)-1], w) >= 0 {
			t.Fatalf("Missing: %s behind %s", cut(w), cut(l[max(0, len(l)-1):]))
		}
		if e := x.Put(w, say(w)); e != api.OK {
			t.Fatalf("Put(%s): %d", cut(w), e)
		}
		l = append(l, w)
	}
}

func asks(t *testing.T, x *table.Table, kind int, want ...[]int) {
	t.Helper()
	if l := asked(t, x, func(w []int) []int { return saysNo(kind, w) }); !equalLists(l, want) {
		t.Fatalf("asked: %s, not %s", cut(l), cut(want))
	}
}

// P13.3: rows and edges with a column behind them, in the order of the words,
// each once: words that are a row's and an edge's, and several rows'.
func TestMissingOfDfa(t *testing.T) {
	x := made(t, api.Dfa, 2, 2)
	asks(t, x, api.Dfa, nil, []int{0}, []int{1})
	// The row was an edge: its edges alone are new.
	addsRow(t, x, api.OK, []int{1})
	asks(t, x, api.Dfa, []int{1, 0}, []int{1, 1})
	// Of the column's words some are known as edges, [1 0] is.
	addsCol(t, x, api.OK, []int{0})
	asks(t, x, api.Dfa, []int{0, 0}, []int{1, 0, 0}, []int{1, 1, 0})
	addsRow(t, x, api.OK, []int{0})
	asks(t, x, api.Dfa, []int{0, 1}, []int{0, 0, 0}, []int{0, 1, 0})
	addsRow(t, x, api.OK, []int{1})
	addsCol(t, x, api.OK, []int{0})
	asks(t, x, api.Dfa)
	addsCol(t, x, api.OK, []int{1, 1})
	asks(t, x, api.Dfa, []int{0, 1, 1}, []int{1, 1, 1}, []int{0, 0, 1, 1}, []int{0, 1, 1, 1}, []int{1, 0, 1, 1}, []int{1, 1, 1, 1})
}

// P13.3: of a Mealy the words of new columns are asked, however much is said
// on the way of longer ones.
func TestMissingOfMealy(t *testing.T) {
	x := made(t, api.Mealy, 2, 2)
	asks(t, x, api.Mealy, []int{0}, []int{1}, []int{0, 0}, []int{0, 1}, []int{1, 0}, []int{1, 1})
	addsCol(t, x, api.OK, []int{1, 1})
	asks(t, x, api.Mealy, []int{0, 1, 1}, []int{1, 1, 1})
	addsRow(t, x, api.OK, []int{1})
	asks(t, x, api.Mealy, []int{1, 0, 0}, []int{1, 0, 1}, []int{1, 1, 0}, []int{1, 0, 1, 1}, []int{1, 1, 1, 1})
}

// P13.3: rows and columns that all came before anything was asked, the longer
// ones first: not the order of the rows, but that of the words.
func TestMissingInOrder(t *testing.T) {
	x := made(t, api.Dfa, 2, 2)
	addsRow(t, x, api.OK, []int{1}, []int{1, 1}, []int{0})
	addsCol(t, x, api.OK, []int{1, 0}, []int{0})
	var want [][]int
	for _, u := range [][]int{{}, {0}, {1}, {0, 0}, {0, 1}, {1, 0}, {1, 1}, {1, 1, 0}, {1, 1, 1}} {
		for _, e := range [][]int{{}, {1, 0}, {0}} {
			want = append(want, slices.Concat(u, e))
		}
	}
	slices.SortFunc(want, word.Compare)
	asks(t, x, api.Dfa, slices.CompactFunc(want, slices.Equal[[]int])...)
}

// P13.3: all symbols of the greatest alphabet.
func TestMissingOfManySymbols(t *testing.T) {
	all, _ := word.All(64, 2)
	asks(t, made(t, api.Dfa, 64, 2), api.Dfa, all[:65]...)
	asks(t, made(t, api.Mealy, 64, 64), api.Mealy, all[1:]...)
}

// P13.3: a row that comes ahead of others in the order, when these are known,
// or partly so.
func TestRowBetween(t *testing.T) {
	for _, compared := range []bool{false, true} {
		for n := range 10 {
			x := made(t, api.Dfa, 2, 2)
			addsRow(t, x, api.OK, []int{1}, []int{1, 1}, []int{1, 1, 1})
			for _, w := range [][]int{{}, {0}, {1}, {1, 0}, {1, 1}, {1, 1, 0}, {1, 1, 1}, {1, 1, 1, 0}, {1, 1, 1, 1}}[:n] {
				misses(t, x, w, true)
				puts(t, x, api.OK, w, []int{0})
			}
			if compared {
				x.Open()
			}
			addsRow(t, x, api.OK, []int{0})
			want := [][]int{{}, {0}, {1}, {0, 0}, {0, 1}, {1, 0}, {1, 1}, {1, 1, 0}, {1, 1, 1}, {1, 1, 1, 0}, {1, 1, 1, 1}}
			if n <= 3 {
				asks(t, x, api.Dfa, want[n:]...)
			} else {
				asks(t, x, api.Dfa, append(slices.Clone(want[3:5]), want[n+2:]...)...)
			}
		}
	}
}

// P13.3: words with more than MaxWord symbols are not asked for.
func TestLongWordsAreNotMissing(t *testing.T) {
	x := made(t, api.Dfa, 1, 2)
	addsCol(t, x, api.OK, repeat(0, api.MaxWord))
	addsRow(t, x, api.OK, []int{0})
	asks(t, x, api.Dfa, nil, []int{0}, []int{0, 0}, repeat(0, api.MaxWord))
	addsCol(t, x, api.OK, repeat(0, api.MaxWord-2))
	asks(t, x, api.Dfa, repeat(0, api.MaxWord-2), repeat(0, api.MaxWord-1))
	m := made(t, api.Mealy, 2, 2)
	addsCol(t, m, api.OK, repeat(1, api.MaxWord-1), repeat(1, api.MaxWord))
	asks(t, m, api.Mealy, []int{0}, []int{1}, []int{0, 0}, []int{0, 1}, []int{1, 0}, []int{1, 1},
		repeat(1, api.MaxWord-1), append([]int{0}, repeat(1, api.MaxWord-1)...), repeat(1, api.MaxWord))
	addsRow(t, m, api.OK, []int{1})
	asks(t, m, api.Mealy, []int{1, 0, 0}, []int{1, 0, 1}, []int{1, 1, 0}, []int{1, 1, 1})
}

// P13.4: a word that no cell needs may be Put, too; a cell that comes later
// has it.
func TestPutAhead(t *testing.T) {
	x := made(t, api.Dfa, 2, 2)
	for _, w := range [][]int{{1, 0}, {0, 0}, {1, 1, 1}, repeat(1, api.MaxWord)} {
		puts(t, x, api.OK, w, []int{1})
		misses(t, x, nil, true)
	}
	asks(t, x, api.Dfa, nil, []int{0}, []int{1})
	addsRow(t, x, api.OK, []int{1})
	asks(t, x, api.Dfa, []int{1, 1})
	opens(t, x, []int{1, 0}, true)
	addsCol(t, x, api.OK, []int{1})
	asks(t, x, api.Dfa, []int{0, 1}, []int{1, 0, 1})
	m := made(t, api.Mealy, 1, 2)
	puts(t, m, api.OK, nil, nil)
	puts(t, m, api.OK, []int{0, 0, 0}, []int{1, 1, 1})
	misses(t, m, []int{0}, true)
	addsCol(t, m, api.OK, []int{0, 0})
	asks(t, m, api.Mealy, []int{0}, []int{0, 0})
}

// P13.4: of a Mealy's word its beginnings stay unknown, and may be said to be
// anything.
func TestBeginningsStayUnknown(t *testing.T) {
	x := made(t, api.Mealy, 1, 3)
	puts(t, x, api.OK, []int{0, 0, 0}, []int{1, 1, 1})
	puts(t, x, api.OK, []int{0, 0}, []int{2, 0})
	misses(t, x, []int{0}, true)
	puts(t, x, api.OK, []int{0}, []int{0})
	misses(t, x, nil, false)
	hypo(t, x, api.Machine{Kind: api.Mealy, K: 1, O: 3, N: 1, Next: []int{0}, Out: []int{0}}, api.OK)
	for _, c := range []struct{ w, out []int }{{repeat(0, 3), repeat(1, 3)}, {repeat(0, 2), []int{2, 0}}, {repeat(0, 1), []int{0}}, {nil, nil}} {
		puts(t, x, api.OK, c.w, c.out)
	}
	refusesPut(t, x, api.ErrClash, []int{0, 0}, []int{1, 0})
}

// P13.4: a list that is no word: word.Check's error, ahead of all others.
func TestPutNoWord(t *testing.T) {
	for _, k := range []int{1, 2, 63, 64} {
		for _, x := range bothKinds(t, k, 2) {
			for _, out := range [][]int{nil, {0}, {1}, {2}, {-1}, {0, 0, 0}, repeat(1, api.MaxWord+1)} {
				for _, s := range []int{-1, k, k + 1, math.MinInt, math.MaxInt} {
					refusesPut(t, x, api.ErrSymbol, []int{s}, out)
					refusesPut(t, x, api.ErrSymbol, []int{0, s}, out)
					refusesPut(t, x, api.ErrSymbol, []int{s, 0, 0}, out)
					refusesPut(t, x, api.ErrSymbol, append(repeat(0, api.MaxWord-1), s), out)
					refusesPut(t, x, api.ErrLong, append(repeat(0, api.MaxWord), s), out)
				}
				refusesPut(t, x, api.ErrLong, repeat(0, api.MaxWord+1), out)
			}
		}
	}
}

// P13.4: of a Dfa just one number fits, 0 or 1, whatever the word is.
func TestPutDfaAnswers(t *testing.T) {
	for _, w := range [][]int{nil, {}, {0}, {1}, {0, 0}, {0, 1}, {1, 1, 1}, repeat(1, api.MaxWord)} {
		x := made(t, api.Dfa, 2, 2)
		for _, out := range [][]int{nil, {}, {-1}, {2}, {256}, {257}, {math.MinInt}, {math.MaxInt}, {0, 0}, {1, 1}, {0, 1}, {0, 0, 0}, {1, 2}, repeat(0, api.MaxWord)} {
			refusesPut(t, x, api.ErrAnswer, w, out)
		}
		for s := range 2 {
			x := made(t, api.Dfa, 2, 2)
			puts(t, x, api.OK, w, []int{s})
			puts(t, x, api.OK, w, []int{s})
			refusesPut(t, x, api.ErrClash, w, []int{1 - s})
			refusesPut(t, x, api.ErrAnswer, w, []int{2})
			refusesPut(t, x, api.ErrAnswer, w, []int{s, s})
			puts(t, x, api.OK, w, []int{s})
		}
	}
}

// P13.4: of a Mealy as many numbers as symbols fit, each from 0 to o - 1.
func TestPutMealyAnswers(t *testing.T) {
	for _, o := range []int{1, 2, 3, 63, 64} {
		for _, n := range []int{0, 1, 2, 3, 7, api.MaxWord} {
			x, w := made(t, api.Mealy, 2, o), repeat(1, n)
			refusesPut(t, x, api.ErrAnswer, w, repeat(o-1, n+1))
			if n == 0 {
				puts(t, x, api.OK, nil, []int{})
				continue
			}
			refusesPut(t, x, api.ErrAnswer, w, repeat(o-1, n-1))
			refusesPut(t, x, api.ErrAnswer, w, nil)
			for _, s := range []int{-1, o, o + 1, 256, math.MinInt, math.MaxInt} {
				refusesPut(t, x, api.ErrAnswer, w, append(repeat(o-1, n-1), s))
				refusesPut(t, x, api.ErrAnswer, w, append([]int{s}, repeat(o-1, n-1)...))
			}
			puts(t, x, api.OK, w, repeat(o-1, n))
			puts(t, x, api.OK, w, repeat(o-1, n))
			if o > 1 {
				refusesPut(t, x, api.ErrClash, w, append(repeat(o-1, n-1), 0))
				refusesPut(t, x, api.ErrClash, w, append([]int{0}, repeat(o-1, n-1)...))
				refusesPut(t, x, api.ErrClash, w, repeat(0, n))
			}
			refusesPut(t, x, api.ErrAnswer, w, append(repeat(0, n-1), o))
			puts(t, x, api.OK, w, repeat(o-1, n))
		}
	}
}
