package teach_test

import (
	"math"
	"slices"
	"testing"

	"tutor/api"
	"tutor/teach"
)

// P10.3.
func TestShow(t *testing.T) {
	for _, c := range []struct {
		l    []api.Answer
		want string
	}{
		{nil, ""},
		{[]api.Answer{}, ""},
		{[]api.Answer{out(0, 1), yes(), no(2)}, "o 0 1\ny\nn 2\n"},
		{[]api.Answer{out()}, "o\n"},
		{[]api.Answer{no()}, "n\n"},
		{[]api.Answer{yes()}, "y\n"},
		{[]api.Answer{out(0), out(10), no(9, 99, 999, 9999)}, "o 0\no 10\nn 9 99 999 9999\n"},
		// Numbers that Parse does not take are written as text.Put writes them.
		{[]api.Answer{out(-1, 10000), no(-120, 123456)}, "o -1 10000\nn -120 123456\n"},
		{[]api.Answer{out(math.MinInt64), no(math.MaxInt64)}, "o -9223372036854775808\nn 9223372036854775807\n"},
		// Each kind has its own numbers alone.
		{[]api.Answer{{Kind: api.Yes, Out: []int{1, 2}, Word: []int{3}}}, "y\n"},
		{[]api.Answer{{Kind: api.Yes, Out: []int{1}}, {Kind: api.Yes, Word: []int{3}}}, "y\ny\n"},
		{[]api.Answer{{Kind: api.Out, Out: []int{1}, Word: []int{2}}, {Kind: api.No, Out: []int{3}, Word: []int{4}}}, "o 1\nn 4\n"},
		{[]api.Answer{{Kind: api.Out, Word: []int{2}}, {Kind: api.No, Out: []int{3}}}, "o\nn\n"},
	} {
		if got := string(teach.Show(c.l)); got != c.want {
			t.Errorf("%v: %q, not %q", c.l, got, c.want)
		}
	}
}

// P10.3: answers of other Kinds have no line, wherever they stand.
func TestShowOtherKinds(t *testing.T) {
	for _, kind := range []int{0, 4, -1, 5, math.MinInt, math.MaxInt} {
		for _, a := range []api.Answer{{}, {Out: []int{1}}, {Word: []int{1}}, {Out: []int{1}, Word: []int{2}}} {
			a.Kind = kind
			for _, c := range []struct {
				l    []api.Answer
				want string
			}{
				{[]api.Answer{a}, ""},
				{[]api.Answer{a, a, a}, ""},
				{[]api.Answer{a, yes()}, "y\n"},
				{[]api.Answer{out(1), a}, "o 1\n"},
				{[]api.Answer{out(1), a, no(2), a, a, yes()}, "o 1\nn 2\ny\n"},
			} {
				if got := string(teach.Show(c.l)); got != c.want {
					t.Errorf("kind %d, %v: %q, not %q", kind, c.l, got, c.want)
				}
			}
		}
	}
}

// P10.3, of drawn answers.
func TestShowAsPlainlyRead(t *testing.T) {
	d := numbers(31)
	for range 2000 {
		l := d.answers(d.below(8))
		for i := range l {
			switch d.below(6) {
			case 0:
				l[i].Kind = d.below(6) - 1
			case 1:
				l[i].Out = d.list(d.below(4), 20000)
			case 2:
				l[i].Word = d.list(d.below(4), 20000)
			}
		}
		if got, want := string(teach.Show(l)), plainShow(l); got != want {
			t.Fatalf("%v: %q, not %q", l, got, want)
		}
	}
}

// P10.3: there is no bound in Show.
func TestShowLong(t *testing.T) {
	for _, n := range []int{api.MaxWord, api.MaxWord + 1, 100000} {
		l := []api.Answer{out(slices.Repeat([]int{1234}, n)...), no(slices.Repeat([]int{0}, n)...)}
		if got := string(teach.Show(l)); got != plainShow(l) || len(got) != 4+5*n+2*n {
			t.Errorf("%d numbers: %d bytes", n, len(got))
		}
	}
	for _, n := range []int{api.MaxWords, api.MaxWords + 1, 200000} {
		if got := teach.Show(slices.Repeat([]api.Answer{yes()}, n)); len(got) != 2*n {
			t.Errorf("%d answers: %d bytes", n, len(got))
		}
	}
	big := slices.Repeat([]api.Answer{out(slices.Repeat([]int{9999}, api.MaxWord)...)}, 1000)
	if got := teach.Show(big); len(got) != 1000*(2+5*api.MaxWord) || len(got) <= api.MaxText {
		t.Errorf("a long text: %d bytes", len(got))
	}
}
