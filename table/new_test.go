package table_test

import (
	"fmt"
	"math"
	"reflect"
	"slices"
	"testing"

	"tutor/api"
	"tutor/cache"
	"tutor/table"
)

// made is a table that New must tell.
func made(t *testing.T, kind, k, o int) *table.Table {
	t.Helper()
	x, e := table.New(kind, k, o)
	if x == nil || e != api.OK {
		t.Fatalf("New(%d, %d, %d): %v, %d", kind, k, o, x, e)
	}
	return x
}

// equalLists holds nil and empty lists for the same.
func equalLists(a, b [][]int) bool {
	return slices.EqualFunc(a, b, slices.Equal[[]int])
}

// cut tells a list of numbers or words, but not much more of it than one reads.
func cut[T any](l []T) string {
	s := fmt.Sprint(l)
	if len(s) > 300 {
		return fmt.Sprintf("%s.. (%d in all)", s[:300], len(l))
	}
	return s
}

// The promises name these numbers.
func TestNumbers(t *testing.T) {
	got := []int{api.Dfa, api.Mealy, api.MaxStates, api.MaxWord, api.MaxAlphabet, api.MaxOutputs}
	if want := []int{1, 2, 1024, 4096, 64, 64}; !slices.Equal(got, want) {
		t.Errorf("numbers are %v, not %v", got, want)
	}
	errors := []api.Errno{api.OK, api.ErrArg, api.ErrLong, api.ErrMany, api.ErrNil, api.ErrTime, api.ErrSymbol, api.ErrKind, api.ErrOut, api.ErrAnswer, api.ErrClash}
	if want := []api.Errno{0, 1, 2, 3, 5, 7, 10, 30, 33, 100, 111}; !slices.Equal(errors, want) {
		t.Errorf("errors are %v, not %v", errors, want)
	}
}

// The signatures are given: what is built on them must not break.
func TestSignatures(t *testing.T) {
	for _, c := range []struct{ got, want any }{
		{table.New, (func(kind, k, o int) (*table.Table, api.Errno))(nil)},
		{(*table.Table).AddRow, (func(t *table.Table, w []int) api.Errno)(nil)},
		{(*table.Table).AddCol, (func(t *table.Table, w []int) api.Errno)(nil)},
		{(*table.Table).Missing, (func(t *table.Table) (w []int, ok bool))(nil)},
		{(*table.Table).Put, (func(t *table.Table, w, out []int) api.Errno)(nil)},
		{(*table.Table).Rows, (func(t *table.Table) [][]int)(nil)},
		{(*table.Table).Cols, (func(t *table.Table) [][]int)(nil)},
		{(*table.Table).Open, (func(t *table.Table) (w []int, ok bool))(nil)},
		{(*table.Table).Torn, (func(t *table.Table) (col []int, ok bool))(nil)},
		{(*table.Table).Hypo, (func(t *table.Table) (m api.Machine, e api.Errno))(nil)},
	} {
		if g, w := reflect.TypeOf(c.got), reflect.TypeOf(c.want); g != w {
			t.Errorf("%v, not %v", g, w)
		}
	}
}

// P13.1, each number at its limits, one beyond them, and far off; of several
// faults the first one is told, as cache.New tells it.
func TestNew(t *testing.T) {
	far := []int{math.MinInt, -1, 0, 1, 2, 3, 63, 64, 65, 66, math.MaxInt}
	told := map[api.Errno]int{}
	for _, kind := range []int{math.MinInt, -1, 0, api.Dfa, api.Mealy, 3, math.MaxInt} {
		for _, k := range far {
			for _, o := range far {
				want := plainNew(kind, k, o)
				x, e := table.New(kind, k, o)
				if e != want || (x != nil) != (want == api.OK) {
					t.Errorf("New(%d, %d, %d): %v, %d, not %d", kind, k, o, x, e, want)
				}
				if _, of := cache.New(kind, k, o, 1); of != e {
					t.Errorf("New(%d, %d, %d): %d, but cache.New: %d", kind, k, o, e, of)
				}
				told[e]++
			}
		}
	}
	enough(t, told, 20, api.OK, api.ErrKind, api.ErrArg, api.ErrOut)
}

func plainNew(kind, k, o int) api.Errno {
	if kind != 1 && kind != 2 {
		return api.ErrKind
	}
	if k < 1 || k > 64 {
		return api.ErrArg
	}
	if kind == 1 && o != 2 || kind == 2 && (o < 1 || o > 64) {
		return api.ErrOut
	}
	return api.OK
}

// P13.1: one fault each, and two at once, told by hand.
func TestNewFaults(t *testing.T) {
	for _, c := range []struct {
		kind, k, o int
		want       api.Errno
	}{
		{api.Dfa, 1, 2, api.OK}, {api.Dfa, 64, 2, api.OK}, {api.Mealy, 1, 1, api.OK}, {api.Mealy, 64, 64, api.OK},
		{0, 1, 2, api.ErrKind}, {3, 1, 2, api.ErrKind}, {-1, 1, 2, api.ErrKind},
		{api.Dfa, 0, 2, api.ErrArg}, {api.Dfa, 65, 2, api.ErrArg}, {api.Mealy, 0, 2, api.ErrArg}, {api.Mealy, 65, 2, api.ErrArg},
		{api.Dfa, 1, 1, api.ErrOut}, {api.Dfa, 1, 3, api.ErrOut}, {api.Dfa, 1, 64, api.ErrOut},
		{api.Mealy, 1, 0, api.ErrOut}, {api.Mealy, 1, 65, api.ErrOut},
		{0, 0, 0, api.ErrKind}, {3, 1, 65, api.ErrKind}, {0, 65, 2, api.ErrKind}, {api.Dfa, 0, 0, api.ErrArg}, {api.Mealy, 65, 65, api.ErrArg},
	} {
		if x, e := table.New(c.kind, c.k, c.o); e != c.want || (x != nil) != (e == api.OK) {
			t.Errorf("New(%d, %d, %d): %v, %d, not %d", c.kind, c.k, c.o, x, e, c.want)
		}
	}
}

// P13.1: one row, the empty word; of a Dfa the empty word as a column, of a
// Mealy the words of one symbol.
func TestNewTable(t *testing.T) {
	for _, k := range []int{1, 2, 3, 17, 64} {
		var symbols [][]int
		for s := range k {
			symbols = append(symbols, []int{s})
		}
		for _, x := range []*table.Table{made(t, api.Dfa, k, 2), made(t, api.Mealy, k, 1), made(t, api.Mealy, k, 64)} {
			rows(t, x, nil)
			opens(t, x, nil, false)
			tears(t, x, nil, false)
			hypo(t, x, api.Machine{}, api.ErrTime)
		}
		d, m := made(t, api.Dfa, k, 2), made(t, api.Mealy, k, 2)
		cols(t, d, nil)
		misses(t, d, nil, true)
		cols(t, m, symbols...)
		misses(t, m, []int{0}, true)
	}
}

// P13.1: New is pure: what is done to one object is not seen in another.
func TestNewOnesAreApart(t *testing.T) {
	a, b := made(t, api.Dfa, 2, 2), made(t, api.Dfa, 2, 2)
	addsRow(t, a, api.OK, []int{1})
	addsCol(t, a, api.OK, []int{0})
	puts(t, a, api.OK, nil, []int{1})
	rows(t, b, nil)
	cols(t, b, nil)
	misses(t, a, []int{0}, true)
	misses(t, b, nil, true)
	puts(t, b, api.OK, nil, []int{0})
	puts(t, a, api.ErrClash, nil, []int{0})
}

// P13.1: every call on a nil object, whatever is handed in.
func TestNil(t *testing.T) {
	var x *table.Table
	for range 2 {
		for _, w := range [][]int{nil, {}, {0}, {0, 1}, {-1}, {64}, make([]int, api.MaxWord), make([]int, api.MaxWord+1)} {
			addsRow(t, x, api.ErrNil, w)
			addsCol(t, x, api.ErrNil, w)
			for _, out := range [][]int{nil, {0}, {1}, {2}, {0, 1}, w} {
				puts(t, x, api.ErrNil, w, out)
			}
		}
		misses(t, x, nil, false)
		rows(t, x)
		cols(t, x)
		opens(t, x, nil, false)
		tears(t, x, nil, false)
		hypo(t, x, api.Machine{}, api.ErrNil)
	}
}

// What an object answers that New did not make is open, but that it answers is
// not.
func TestZeroValue(t *testing.T) {
	x := new(table.Table)
	for _, w := range [][]int{nil, {0}, {-1}, make([]int, api.MaxWord+1)} {
		x.AddRow(w)
		x.AddCol(w)
		for _, out := range [][]int{nil, {0}, {7, 8}} {
			x.Put(w, out)
		}
		x.Missing()
		x.Open()
		x.Torn()
		x.Hypo()
	}
	x.Rows()
	x.Cols()
}
