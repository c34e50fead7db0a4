package table_test

import (
	"math/rand/v2"
	"slices"
	"testing"

	"tutor/api"
	"tutor/machine"
	"tutor/moore"
	"tutor/table"
	"tutor/word"
)

// saying answers what a machine says.
func saying(t *testing.T, m api.Machine) func(w []int) []int {
	return func(w []int) []int {
		out, e := machine.Run(m, w)
		if e != api.OK {
			t.Fatalf("%v, %s: %d", m, cut(w), e)
		}
		return out
	}
}

// drawnMachine draws one with n states.
func drawnMachine(draw *rand.Rand, kind, k, o, n int) api.Machine {
	m := api.Machine{Kind: kind, K: k, O: o, N: n}
	for range n * k {
		m.Next = append(m.Next, draw.IntN(n))
		m.Out = append(m.Out, draw.IntN(o))
	}
	if kind == api.Dfa {
		m.Out = m.Out[:n]
	}
	return m
}

// drawnKind draws what a machine is like.
func drawnKind(draw *rand.Rand) (kind, k, o int) {
	if draw.IntN(2) == 0 {
		return api.Dfa, 1 + draw.IntN(3), 2
	}
	return api.Mealy, 1 + draw.IntN(3), 1 + draw.IntN(4)
}

// closed goes on with what is open and torn till neither is; it tells how often
// something was, and fails, if that comes to no end.
func closed(t *testing.T, x *table.Table, say func(w []int) []int, most int) (opened, tore int) {
	t.Helper()
	rows, cols := len(x.Rows()), len(x.Cols())
	for opened+tore <= most {
		asked(t, x, say)
		if w, ok := x.Open(); ok {
			addsRow(t, x, api.OK, w)
			opened++
			continue
		}
		w, ok := x.Torn()
		if !ok {
			// Each of them was a row or a column more.
			if l, c := len(x.Rows()), len(x.Cols()); l != rows+opened || c != cols+tore {
				t.Fatalf("%d times open, %d torn: %d rows, %d columns, from %d, %d", opened, tore, l, c, rows, cols)
			}
			return opened, tore
		}
		addsCol(t, x, api.OK, w)
		tore++
	}
	t.Fatalf("%d rows, %d columns, and no end", len(x.Rows()), len(x.Cols()))
	return opened, tore
}

// withRowsAndCols adds some drawn ones; with each column all its ends, if
// ends is true.
func withRowsAndCols(t *testing.T, draw *rand.Rand, x *table.Table, k int, ends bool) {
	t.Helper()
	for range draw.IntN(6) {
		l := x.Rows()
		addsRow(t, x, api.OK, word.Join(l[draw.IntN(len(l))], []int{draw.IntN(k)}))
	}
	for range draw.IntN(4) {
		w := make([]int, 1+draw.IntN(5))
		for i := range w {
			w[i] = draw.IntN(k)
		}
		l := [][]int{w}
		if ends {
			l = word.Suffixes(w)[1:]
			draw.Shuffle(len(l), func(i, j int) { l[i], l[j] = l[j], l[i] })
		}
		addsCol(t, x, api.OK, l...)
	}
}

// P13.7: a table that is filled with what one machine says never clashes; with
// each open edge as a row and each torn word as a column it comes to an end;
// then its Hypo has at most as many states as the least machine, and, where
// with each column all its ends are columns, says what the cells are.
func TestOneMachine(t *testing.T) {
	draw := rand.New(rand.NewPCG(13, 7))
	opened, tore, fewer, all := 0, 0, 0, 0
	for at := range 600 {
		kind, k, o := drawnKind(draw)
		m := drawnMachine(draw, kind, k, o, 1+draw.IntN(12))
		least, _ := moore.Minimise(m)
		say := saying(t, m)
		x := made(t, kind, k, o)
		withRowsAndCols(t, draw, x, k, at%2 == 0)
		a, b := closed(t, x, say, 2*least.N)
		opened, tore = opened+a, tore+b
		h, e := x.Hypo()
		if e != api.OK || h.N > least.N {
			t.Fatalf("of %v: %v, %d", least, h, e)
		}
		if h.N < least.N {
			fewer++
		} else if equalMachines(h, least) {
			all++
		}
		if at%2 == 0 {
			saysCells(t, x, h, say)
		}
		clashes(t, x, say, k, o)
	}
	if opened < 200 || tore < 30 || fewer < 50 || all < 50 {
		t.Errorf("%d open, %d torn, %d with fewer states, %d the least machine: that tells little", opened, tore, fewer, all)
	}
}

// saysCells holds that h says of each row and edge, with a column behind it,
// what the cell is.
func saysCells(t *testing.T, x *table.Table, h api.Machine, say func(w []int) []int) {
	t.Helper()
	for _, u := range x.Rows() {
		for s := -1; s < h.K; s++ {
			v := u
			if s >= 0 {
				v = word.Join(u, []int{s})
			}
			for _, e := range x.Cols() {
				w := word.Join(v, e)
				got, _ := machine.Run(h, w)
				want := say(w)
				if h.Kind == api.Mealy {
					got, want = got[len(v):], want[len(v):]
				}
				if !slices.Equal(got, want) {
					t.Fatalf("of %v with %v behind it %v says %v, but the cell is %v", v, e, h, got, want)
				}
			}
		}
	}
}

// clashes holds that whatever else the machine says is taken, and what it does
// not say of a word that was Put is not.
func clashes(t *testing.T, x *table.Table, say func(w []int) []int, k, o int) {
	t.Helper()
	for _, w := range words(k, 3) {
		puts(t, x, api.OK, w, say(w))
		if out := say(w); o > 1 && len(out) > 0 {
			out[len(out)-1] = (out[len(out)-1] + 1) % o
			puts(t, x, api.ErrClash, w, out)
		}
	}
}

// P13.7: whole machines, by their open edges alone or with what is torn: with
// columns that tell all states apart Hypo is the least machine.
func TestWholeMachines(t *testing.T) {
	draw := rand.New(rand.NewPCG(13, 8))
	for range 40 {
		kind, k, o := drawnKind(draw)
		m := drawnMachine(draw, kind, k, o, 1+draw.IntN(30))
		least, _ := moore.Minimise(m)
		_, rounds, _ := moore.Classes(m)
		n := rounds
		if kind == api.Dfa {
			n = max(n, 1)
		}
		l, e := word.All(k, n)
		if e != api.OK || len(l) > api.MaxStates {
			continue
		}
		x := made(t, kind, k, o)
		for _, w := range l {
			if len(w) > 0 {
				addsCol(t, x, api.OK, w)
			}
		}
		opened, tore := closed(t, x, saying(t, m), 2*least.N)
		if tore > 0 || opened != least.N-1 {
			t.Fatalf("of %v: %d open, %d torn", least, opened, tore)
		}
		hypo(t, x, least, api.OK)
		saysCells(t, x, least, saying(t, m))
	}
}

// P13.7: as many states as there may be.
func TestMostStates(t *testing.T) {
	n := api.MaxStates
	m := api.Machine{Kind: api.Dfa, K: 1, O: 2, N: n, Out: make([]int, n)}
	for s := range n {
		m.Next = append(m.Next, (s+1)%n)
	}
	m.Out[n-1] = 1
	x := made(t, api.Dfa, 1, 2)
	for s := range n - 1 {
		addsRow(t, x, api.OK, repeat(0, s+1))
	}
	closed(t, x, saying(t, m), 2*n)
	hypo(t, x, m, api.OK)
	rows(t, x, word.Prefixes(repeat(0, n-1))...)
	for _, w := range [][]int{repeat(0, n-1), repeat(0, 2*n-1)} {
		puts(t, x, api.OK, w, []int{1})
		puts(t, x, api.ErrClash, w, []int{0})
	}
}

// P13.3: a table with as many rows, columns and symbols as there may be, of
// which nothing is known, tells what is missing.
func TestGreatTable(t *testing.T) {
	for _, x := range bothKinds(t, 64, 64) {
		for i := range api.MaxStates - 1 {
			w := []int{i % 64}
			if i >= 64 {
				w = []int{i/64 - 1, i % 64}
			}
			addsRow(t, x, api.OK, w)
		}
		first, kind := x.Cols()[0], api.Dfa
		if len(first) > 0 {
			kind = api.Mealy
		}
		for n := len(x.Cols()); n < api.MaxStates; n++ {
			addsCol(t, x, api.OK, repeat(n%64, 4*n))
		}
		misses(t, x, first, true)
		var last []int
		for range 3000 {
			w, ok := x.Missing()
			if !ok || last != nil && word.Compare(last, w) >= 0 {
				t.Fatalf("%s behind %s", cut(w), cut(last))
			}
			puts(t, x, api.OK, w, saysNo(kind, w))
			last = w
		}
		opens(t, x, nil, false)
		hypo(t, x, api.Machine{}, api.ErrTime)
	}
}
