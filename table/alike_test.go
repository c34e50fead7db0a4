package table_test

import (
	"slices"
	"testing"

	"tutor/api"
	"tutor/table"
)

func opens(t *testing.T, x *table.Table, want []int, wantOk bool) {
	t.Helper()
	for range 2 {
		if w, ok := x.Open(); ok != wantOk || !slices.Equal(w, want) {
			t.Fatalf("Open: %s, %v, not %s, %v", cut(w), ok, cut(want), wantOk)
		}
	}
}

func tears(t *testing.T, x *table.Table, want []int, wantOk bool) {
	t.Helper()
	for range 2 {
		if w, ok := x.Torn(); ok != wantOk || !slices.Equal(w, want) {
			t.Fatalf("Torn: %s, %v, not %s, %v", cut(w), ok, cut(want), wantOk)
		}
	}
}

// ones answers of a Dfa 1 of these words, and 0 of all others.
func ones(l ...[]int) func(w []int) []int {
	return func(w []int) []int {
		if has(l, w) {
			return []int{1}
		}
		return []int{0}
	}
}

// otherwise answers of a Mealy the last number of the first pair whose word is
// w, and 0 for all else.
func otherwise(l ...pair) func(w []int) []int {
	return func(w []int) []int {
		for _, x := range l {
			if slices.Equal(x.w, w) {
				return x.out
			}
		}
		return make([]int, len(w))
	}
}

// filled makes a table with these rows and columns, filled by say.
func filled(t *testing.T, kind, k, o int, sh shape, say func(w []int) []int) *table.Table {
	t.Helper()
	x := made(t, kind, k, o)
	addsRow(t, x, api.OK, sh.rows...)
	addsCol(t, x, api.OK, sh.cols...)
	asked(t, x, say)
	return x
}

// P13.5, P13.6: while a cell is missing, whichever it is, nothing is open, torn
// or told; once none is, something is.
func TestWhileMissing(t *testing.T) {
	sh := shape{rows: [][]int{{0}, {1}, {1, 1}}, cols: [][]int{{1}, {0, 1}}}
	for _, b := range []both{newBoth(t, api.Dfa, 2, 2), newBoth(t, api.Mealy, 2, 2)} {
		needed := shaped(b, sh)
		for at, left := range needed {
			x := made(t, b.p.kind, 2, 2)
			addsRow(t, x, api.OK, sh.rows...)
			addsCol(t, x, api.OK, sh.cols...)
			for i, w := range needed {
				tellsNothing(t, x)
				if i != at {
					puts(t, x, api.OK, w, saysNo(b.p.kind, w))
				}
			}
			misses(t, x, left, true)
			tellsNothing(t, x)
			puts(t, x, api.OK, left, saysNo(b.p.kind, left))
			if m, e := x.Hypo(); e != api.OK || m.N != 1 {
				t.Fatalf("nothing is missing: %v, %d", m, e)
			}
			// A row or a column more, and again something is missing.
			addsCol(t, x, api.OK, []int{1, 1, 1})
			tellsNothing(t, x)
			asked(t, x, func(w []int) []int { return saysNo(b.p.kind, w) })
			if m, e := x.Hypo(); e != api.OK || m.N != 1 {
				t.Fatalf("nothing is missing: %v, %d", m, e)
			}
		}
	}
}

func tellsNothing(t *testing.T, x *table.Table) {
	t.Helper()
	opens(t, x, nil, false)
	tears(t, x, nil, false)
	hypo(t, x, api.Machine{}, api.ErrTime)
}

// P13.5: of several open edges the first one, row by row as they came, symbol
// by symbol.
func TestOpenFirst(t *testing.T) {
	for _, c := range []struct {
		rows [][]int
		ones [][]int
		want []int
	}{
		{nil, [][]int{{0}, {1}}, []int{0}},
		{nil, [][]int{{1}}, []int{1}},
		{nil, [][]int{{}, {0}}, []int{1}},
		{[][]int{{0}, {1}}, [][]int{{0, 1}, {1, 0}}, []int{0, 1}},
		{[][]int{{1}, {0}}, [][]int{{0, 1}, {1, 0}}, []int{1, 0}},
		{[][]int{{1}, {1, 1}, {0}}, [][]int{{0, 0}, {1, 1, 0}}, []int{1, 1, 0}},
		{[][]int{{1}, {1, 1}, {0}}, [][]int{{0, 0}, {1, 1, 0}, {1, 0}}, []int{1, 0}},
		{[][]int{{0}, {1}, {1, 1}}, [][]int{{0, 0}, {0, 1}, {1, 1, 1}}, []int{0, 0}},
		{[][]int{{0}, {0, 1}, {0, 0}}, [][]int{{1}, {0, 0, 0}}, []int{1}},
		{[][]int{{0}, {0, 1}, {0, 0}}, [][]int{{0, 1, 1}, {0, 0, 0}}, []int{0, 1, 1}},
		// An edge that is alike to a row which came later is not open.
		{[][]int{{0}, {1}}, [][]int{{1}, {0, 0}}, nil},
		{[][]int{{1}, {1, 0}}, [][]int{{1, 0}, {0}, {1, 1}, {1, 0, 0}}, nil},
		{nil, [][]int{{}, {0}, {1}}, nil},
		{nil, nil, nil},
	} {
		x := filled(t, api.Dfa, 2, 2, shape{rows: c.rows}, ones(c.ones...))
		opens(t, x, c.want, c.want != nil)
	}
}

// P13.5: lines are alike only if all their cells are the same, whichever
// column it is in which they differ.
func TestOpenByEachColumn(t *testing.T) {
	for _, cols := range [][][]int{nil, {{0}}, {{0}, {1}}, {{0, 0}, {0}, {1}, {1, 1, 1}}} {
		for _, e := range append([][]int{{}}, cols...) {
			x := filled(t, api.Dfa, 3, 2, shape{cols: cols}, ones(append([]int{2}, e...)))
			opens(t, x, []int{2}, true)
		}
	}
}

// P13.5: a Mealy's cell is as much of what is said as its column is long: what
// is said ahead of that tells nothing apart.
func TestMealyCells(t *testing.T) {
	sh := shape{cols: [][]int{{0, 0}}}
	for _, c := range []struct {
		say  pair
		want []int
	}{
		{pair{[]int{0, 0, 0}, []int{1, 0, 0}}, nil},
		{pair{[]int{0, 0, 0}, []int{0, 1, 0}}, []int{0}},
		{pair{[]int{0, 0, 0}, []int{0, 0, 1}}, []int{0}},
		{pair{[]int{0}, []int{1}}, []int{0}},
		{pair{[]int{0, 0}, []int{1, 0}}, []int{0}},
		{pair{[]int{0, 0}, []int{0, 1}}, []int{0}},
		{pair{nil, nil}, nil},
	} {
		x := filled(t, api.Mealy, 1, 2, sh, otherwise(c.say))
		opens(t, x, c.want, c.want != nil)
	}
	two := filled(t, api.Mealy, 2, 3, shape{cols: [][]int{{1, 0, 1}}}, otherwise(pair{[]int{1, 1, 0, 1}, []int{2, 0, 0, 0}}))
	opens(t, two, nil, false)
	two = filled(t, api.Mealy, 2, 3, shape{cols: [][]int{{1, 0, 1}}}, otherwise(pair{[]int{1, 1, 0, 1}, []int{2, 0, 2, 0}}))
	opens(t, two, []int{1}, true)
}

// P13.5: of several pairs of rows that are alike, of their symbols and columns
// the first ones by which their edges differ.
func TestTornFirst(t *testing.T) {
	deep := [][]int{{0}, {0, 0}, {0, 0, 0}}
	for _, c := range []struct {
		sh   shape
		ones [][]int
		want []int
	}{
		// One pair, one symbol, one column.
		{shape{rows: [][]int{{0}}}, [][]int{{0, 0}}, []int{0}},
		{shape{rows: [][]int{{0}}}, [][]int{{0, 1}}, []int{1}},
		{shape{rows: [][]int{{0}}}, nil, nil},
		{shape{rows: [][]int{{0}}}, [][]int{{0}}, nil},
		{shape{rows: [][]int{{0}}}, [][]int{{0}, {0, 0}, {0, 1}}, nil},
		// Symbols: the first one, though it is by a later column.
		{shape{rows: [][]int{{0}}, cols: [][]int{{1, 1}}}, [][]int{{0, 0, 1, 1}, {0, 1}}, []int{0, 1, 1}},
		{shape{rows: [][]int{{0}}}, [][]int{{0, 0}, {0, 1}}, []int{0}},
		// Columns: the first one, as they came.
		{shape{rows: [][]int{{0}}, cols: [][]int{{1, 1}, {1, 0, 0}}}, [][]int{{0, 1, 1, 1}, {0, 1, 1, 0, 0}}, []int{1, 1, 1}},
		{shape{rows: [][]int{{0}}, cols: [][]int{{1, 0, 0}, {1, 1}}}, [][]int{{0, 1, 1, 1}, {0, 1, 1, 0, 0}}, []int{1, 1, 0, 0}},
		{shape{rows: [][]int{{0}}, cols: [][]int{{1, 0, 0}, {1, 1}}}, [][]int{{0, 1, 1, 1}, {0, 1}}, []int{1}},
		// Pairs: by the first row, then by the second one: the first three are
		// alike, and the third one is torn from both by symbol 0.
		{shape{rows: [][]int{{0}, {1}}}, [][]int{{1, 0}, {0, 1}}, []int{1}},
		{shape{rows: [][]int{{1}, {0}}}, [][]int{{1, 0}, {0, 1}}, []int{0}},
		{shape{rows: [][]int{{0}, {1}}}, [][]int{{1, 0}, {1, 1}}, []int{0}},
		{shape{rows: [][]int{{0}, {1}}}, [][]int{{1, 1}}, []int{1}},
		// Two classes of rows, both torn: that of the earlier row first.
		{shape{rows: deep}, [][]int{{0, 0}, {0, 0, 0}, {0, 1}, {0, 0, 0, 1}}, []int{0}},
		{shape{rows: deep}, [][]int{{0}, {0, 0}, {0, 0, 0}, {0, 0, 1}, {0, 0, 0, 0}}, []int{1}},
		// The pair of later rows alone.
		{shape{rows: deep}, [][]int{{0}, {0, 0}, {0, 0, 0}, {0, 0, 0, 0}}, nil},
		{shape{rows: deep}, [][]int{{0}, {0, 0}, {0, 0, 0}}, []int{0}},
	} {
		x := filled(t, api.Dfa, 2, 2, c.sh, ones(c.ones...))
		tears(t, x, c.want, c.want != nil)
	}
}

// P13.5: rows that are alike, torn by a Mealy's columns.
func TestTornOfMealy(t *testing.T) {
	x := filled(t, api.Mealy, 2, 2, shape{rows: [][]int{{1}}}, otherwise(pair{[]int{1, 0, 1}, []int{0, 0, 1}}))
	tears(t, x, []int{0, 1}, true)
	x = filled(t, api.Mealy, 2, 2, shape{rows: [][]int{{1}}}, otherwise(pair{[]int{1, 0, 1}, []int{1, 1, 0}}))
	tears(t, x, nil, false)
	sh := shape{rows: [][]int{{1}}, cols: [][]int{{1, 0}}}
	x = filled(t, api.Mealy, 2, 2, sh, otherwise(pair{[]int{1, 1, 1, 0}, []int{0, 0, 1, 0}}))
	tears(t, x, []int{1, 1, 0}, true)
	x = filled(t, api.Mealy, 2, 2, sh, otherwise(pair{[]int{1, 1, 1, 0}, []int{0, 1, 0, 0}}))
	tears(t, x, nil, false)
}

// P13.5: a torn word as a column parts the rows.
func TestTornParts(t *testing.T) {
	say := ones([]int{0, 0}, []int{0, 0, 0})
	x := filled(t, api.Dfa, 1, 2, shape{rows: [][]int{{0}, {0, 0}}}, say)
	tears(t, x, []int{0}, true)
	addsCol(t, x, api.OK, []int{0})
	tears(t, x, nil, false)
	asked(t, x, say)
	tears(t, x, nil, false)
	opens(t, x, []int{0, 0, 0}, true)
	cols(t, x, nil, []int{0})
}

// P13.3, P13.5: of words that are too long nothing is said: that is the same
// for two of them, but not the same as what is said of a shorter one.
func TestLongCells(t *testing.T) {
	x := filled(t, api.Dfa, 1, 2, shape{cols: [][]int{repeat(0, api.MaxWord)}}, ones())
	opens(t, x, []int{0}, true)
	addsRow(t, x, api.OK, []int{0})
	asked(t, x, ones())
	opens(t, x, nil, false)
	tears(t, x, nil, false)
	hypo(t, x, api.Machine{Kind: api.Dfa, K: 1, O: 2, N: 2, Next: []int{1, 1}, Out: []int{0, 0}}, api.OK)
	// Rows that are alike, of which one has an edge with a word that is too long.
	x = filled(t, api.Dfa, 1, 2, shape{rows: [][]int{{0}}, cols: [][]int{repeat(0, api.MaxWord-1)}}, ones())
	opens(t, x, []int{0, 0}, true)
	tears(t, x, repeat(0, api.MaxWord), true)
	addsCol(t, x, api.OK, repeat(0, api.MaxWord))
	misses(t, x, nil, false)
	tears(t, x, nil, false)
	opens(t, x, []int{0, 0}, true)
	m := filled(t, api.Mealy, 2, 2, shape{cols: [][]int{repeat(1, api.MaxWord)}}, otherwise())
	opens(t, m, []int{0}, true)
	addsRow(t, m, api.OK, []int{0})
	asked(t, m, otherwise())
	opens(t, m, nil, false)
	hypo(t, m, api.Machine{Kind: api.Mealy, K: 2, O: 2, N: 2, Next: []int{1, 1, 1, 1}, Out: []int{0, 0, 0, 0}}, api.OK)
}
