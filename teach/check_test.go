package teach_test

import (
	"math"
	"reflect"
	"slices"
	"testing"

	"tutor/api"
	"tutor/teach"
)

// checks holds Check against what is wanted.
func checks(t *testing.T, name string, q api.Query, a api.Answer, want api.Errno) {
	t.Helper()
	if got := teach.Check(q, a); got != want {
		t.Errorf("%s: %d, not %d", name, got, want)
	}
}

// The promises name these numbers.
func TestNumbers(t *testing.T) {
	got := []int{api.Member, api.Hypo, api.Out, api.Yes, api.No, api.Dfa, api.Mealy, api.MaxText, api.MaxWord, api.MaxWords, api.MaxAlphabet}
	if want := []int{1, 2, 1, 2, 3, 1, 2, 16777216, 4096, 65536, 64}; !slices.Equal(got, want) {
		t.Errorf("numbers are %v, not %v", got, want)
	}
	errors := []api.Errno{api.OK, api.ErrLong, api.ErrMany, api.ErrForm, api.ErrKind, api.ErrAnswer}
	if want := []api.Errno{0, 2, 3, 6, 30, 100}; !slices.Equal(errors, want) {
		t.Errorf("errors are %v, not %v", errors, want)
	}
}

// The signatures are given: what is built on them must not break.
func TestSignatures(t *testing.T) {
	for _, c := range []struct{ got, want any }{
		{teach.Check, (func(q api.Query, a api.Answer) api.Errno)(nil)},
		{teach.Parse, (func(b []byte) (l []api.Answer, e api.Errno, at int))(nil)},
		{teach.Show, (func(l []api.Answer) []byte)(nil)},
		{teach.Tell, (func(m api.Machine, q api.Query) (api.Answer, api.Errno))(nil)},
	} {
		if g, w := reflect.TypeOf(c.got), reflect.TypeOf(c.want); g != w {
			t.Errorf("%v, not %v", g, w)
		}
	}
}

// P10.2: a query of neither Kind, ahead of all that is wrong with the answer.
func TestCheckNoQuery(t *testing.T) {
	for _, kind := range []int{0, -1, 3, 4, math.MinInt, math.MaxInt} {
		for _, hyp := range []api.Machine{{}, odd(), transducer()} {
			for _, a := range []api.Answer{{}, out(), out(0), out(9), yes(), no(), no(0), no(-1), {Kind: kind}, {Kind: api.Yes, Out: []int{1}, Word: []int{1}}} {
				q := api.Query{Kind: kind, Word: []int{0}, Hyp: hyp}
				if e := teach.Check(q, a); e != api.ErrKind {
					t.Errorf("kind %d, %v, %v: %d", kind, hyp, a, e)
				}
			}
		}
	}
}

// P10.2: what may be said by a Dfa: one number, 0 or 1, whatever the word is.
func TestCheckMemberDfa(t *testing.T) {
	for _, w := range [][]int{nil, {0}, {1, 0}, {0, 0, 0}, make([]int, 5000), {-1}, {99}} {
		q := member(api.Machine{Kind: api.Dfa, K: 2, O: 2}, w...)
		checks(t, "0", q, out(0), api.OK)
		checks(t, "1", q, out(1), api.OK)
		checks(t, "2", q, out(2), api.ErrAnswer)
		checks(t, "-1", q, out(-1), api.ErrAnswer)
		checks(t, "least", q, out(math.MinInt), api.ErrAnswer)
		checks(t, "greatest", q, out(math.MaxInt), api.ErrAnswer)
		checks(t, "none", q, out(), api.ErrAnswer)
		checks(t, "two", q, out(0, 1), api.ErrAnswer)
		checks(t, "three", q, out(0, 0, 0), api.ErrAnswer)
		checks(t, "as many as the word has", q, out(make([]int, 5000)...), api.ErrAnswer)
	}
	// 0 and 1 are what fits, whatever O is; the chapter says O of a Mealy alone.
	for _, o := range []int{-1, 0, 1, 2, 3, 64} {
		q := member(api.Machine{Kind: api.Dfa, K: 2, O: o}, 0)
		checks(t, "0", q, out(0), api.OK)
		checks(t, "1", q, out(1), api.OK)
		checks(t, "2", q, out(2), api.ErrAnswer)
	}
}

// P10.2: what may be said by a Mealy: as many numbers as the word has symbols,
// each from 0 to O - 1.
func TestCheckMemberMealy(t *testing.T) {
	for _, o := range []int{1, 2, 3, 11, 64} {
		for _, n := range []int{0, 1, 2, 3, 7, api.MaxWord} {
			q := member(api.Machine{Kind: api.Mealy, K: 2, O: o}, make([]int, n)...)
			said := slices.Repeat([]int{o - 1}, n)
			checks(t, "just as many", q, out(said...), api.OK)
			checks(t, "zeroes", q, out(make([]int, n)...), api.OK)
			checks(t, "one too many", q, out(append(said, 0)...), api.ErrAnswer)
			if n == 0 {
				continue
			}
			checks(t, "one too few", q, out(said[1:]...), api.ErrAnswer)
			for _, at := range []int{0, n / 2, n - 1} {
				for _, x := range []int{-1, o, o + 1, math.MinInt, math.MaxInt} {
					turned := slices.Clone(said)
					turned[at] = x
					checks(t, "a number outside", q, out(turned...), api.ErrAnswer)
				}
			}
		}
	}
	// O is as Hyp says, though no machine has it.
	for _, o := range []int{0, -1, math.MinInt} {
		checks(t, "no output, no symbol", member(api.Machine{Kind: api.Mealy, O: o}), out(), api.OK)
		checks(t, "no output", member(api.Machine{Kind: api.Mealy, O: o}, 0), out(0), api.ErrAnswer)
		checks(t, "no output, -1", member(api.Machine{Kind: api.Mealy, O: o}, 0), out(-1), api.ErrAnswer)
	}
	checks(t, "many outputs", member(api.Machine{Kind: api.Mealy, O: 1000}, 0), out(999), api.OK)
	checks(t, "too many outputs", member(api.Machine{Kind: api.Mealy, O: 1000}, 0), out(1000), api.ErrAnswer)
}

// P10.2: nothing fits a machine of another Kind.
func TestCheckMemberOtherKind(t *testing.T) {
	for _, kind := range []int{0, -1, 3, math.MinInt, math.MaxInt} {
		for _, w := range [][]int{nil, {0}} {
			for _, a := range []api.Answer{out(), out(0), out(1), yes(), no(), no(0), {}} {
				checks(t, "another Kind", member(api.Machine{Kind: kind, K: 2, O: 2}, w...), a, api.ErrAnswer)
			}
		}
	}
}

// P10.2: of Member, no other answer than Out, and none with a Word.
func TestCheckMemberOtherAnswers(t *testing.T) {
	for _, kind := range []int{api.Dfa, api.Mealy} {
		q := member(api.Machine{Kind: kind, K: 2, O: 2}, 0)
		checks(t, "a right one", q, out(1), api.OK)
		checks(t, "with an empty Word", q, api.Answer{Kind: api.Out, Out: []int{1}, Word: []int{}}, api.OK)
		for _, other := range []int{0, api.Yes, api.No, 4, -1, math.MinInt, math.MaxInt} {
			checks(t, "another Kind", q, api.Answer{Kind: other, Out: []int{1}}, api.ErrAnswer)
			checks(t, "another Kind, no Out", q, api.Answer{Kind: other}, api.ErrAnswer)
			checks(t, "another Kind, a Word", q, api.Answer{Kind: other, Word: []int{0}}, api.ErrAnswer)
		}
		for _, w := range [][]int{{0}, {1, 0}, {-1}, make([]int, 5000)} {
			checks(t, "with a Word", q, api.Answer{Kind: api.Out, Out: []int{1}, Word: w}, api.ErrAnswer)
		}
	}
	// Spare room is no Word.
	room := []int{5, 6}
	checks(t, "spare room", member(api.Machine{Kind: api.Dfa}), api.Answer{Kind: api.Out, Out: []int{1}, Word: room[:0]}, api.OK)
}

// P10.1: of Member, Hyp's other fields play no part; nor does it matter here
// whether Word is one.
func TestCheckMemberOtherFields(t *testing.T) {
	for _, hyp := range []api.Machine{
		{O: 3}, {O: 3, K: 1}, {O: 3, K: 0}, {O: 3, K: -1}, {O: 3, K: 65}, {O: 3, K: 2, N: -1}, {O: 3, K: 2, N: 5000},
		{O: 3, K: 2, N: 1, Next: []int{9, 9}, Out: []int{9, 9}}, {O: 3, K: 2, Next: []int{-1}, Out: nil},
	} {
		hyp.Kind = api.Mealy
		for _, w := range [][]int{{0, 1}, {7, -7}, {64, 65}} {
			checks(t, "a right one", member(hyp, w...), out(2, 0), api.OK)
			checks(t, "a number at O", member(hyp, w...), out(2, 3), api.ErrAnswer)
			checks(t, "one too few", member(hyp, w...), out(2), api.ErrAnswer)
		}
		hyp.Kind = api.Dfa
		checks(t, "a Dfa's", member(hyp, 0, 1), out(1), api.OK)
		checks(t, "a Dfa's 2", member(hyp, 0, 1), out(2), api.ErrAnswer)
	}
}

// P10.2: of Hypo, Yes alone.
func TestCheckYes(t *testing.T) {
	for _, hyp := range []api.Machine{odd(), acceptor(), transducer(), {}, {K: -1}, {K: 65, Kind: 9}} {
		q := hypo(hyp)
		checks(t, "yes", q, yes(), api.OK)
		checks(t, "yes, empty lists", q, api.Answer{Kind: api.Yes, Out: []int{}, Word: []int{}}, api.OK)
		checks(t, "yes with Out", q, api.Answer{Kind: api.Yes, Out: []int{0}}, api.ErrAnswer)
		checks(t, "yes with a Word", q, api.Answer{Kind: api.Yes, Word: []int{0}}, api.ErrAnswer)
		checks(t, "yes with both", q, api.Answer{Kind: api.Yes, Out: []int{0}, Word: []int{0}}, api.ErrAnswer)
	}
}

// P10.2: of Hypo, No with a word over Hyp's symbols.
func TestCheckNo(t *testing.T) {
	for _, k := range []int{1, 2, 3, 63, 64} {
		q := hypo(api.Machine{Kind: api.Dfa, K: k, O: 2})
		long := slices.Repeat([]int{k - 1}, api.MaxWord+1)
		checks(t, "the empty word", q, no(), api.OK)
		checks(t, "a word", q, no(0, k-1, 0), api.OK)
		checks(t, "the longest", q, no(long[1:]...), api.OK)
		checks(t, "one symbol too long", q, no(long...), api.ErrAnswer)
		for _, x := range []int{-1, k, k + 1, math.MinInt, math.MaxInt} {
			checks(t, "no symbol alone", q, no(x), api.ErrAnswer)
			checks(t, "no symbol first", q, no(x, 0), api.ErrAnswer)
			checks(t, "no symbol last", q, no(0, 0, x), api.ErrAnswer)
		}
		checks(t, "with Out", q, api.Answer{Kind: api.No, Out: []int{0}, Word: []int{0}}, api.ErrAnswer)
		checks(t, "with Out alone", q, api.Answer{Kind: api.No, Out: []int{0}}, api.ErrAnswer)
		checks(t, "with empty Out", q, api.Answer{Kind: api.No, Out: []int{}, Word: []int{0}}, api.OK)
	}
	// Over no symbols, or too many, there is no word, not even the empty one.
	for _, k := range []int{0, -1, 65, math.MinInt, math.MaxInt} {
		for _, kind := range []int{api.Dfa, api.Mealy, 0} {
			checks(t, "no alphabet", hypo(api.Machine{Kind: kind, K: k, O: 2}), no(), api.ErrAnswer)
			checks(t, "no alphabet, a symbol", hypo(api.Machine{Kind: kind, K: k, O: 2}), no(0), api.ErrAnswer)
		}
	}
}

// P10.2: of Hypo, K alone tells: not the query's Word, nor whether Hyp is a
// machine, nor whether the word tells anything apart.
func TestCheckHypoOtherFields(t *testing.T) {
	for _, hyp := range []api.Machine{odd(), {K: 1}, {Kind: 7, K: 1, O: -3, N: -1, Next: []int{9}}} {
		for _, w := range [][]int{nil, {0}, {-5, 99}, make([]int, 5000)} {
			q := api.Query{Kind: api.Hypo, Word: w, Hyp: hyp}
			checks(t, "yes", q, yes(), api.OK)
			checks(t, "no", q, no(0, 0), api.OK)
			checks(t, "no, no symbol", q, no(1), api.ErrAnswer)
		}
	}
}

// P10.2: of Hypo, no other answers.
func TestCheckHypoOtherAnswers(t *testing.T) {
	for _, q := range []api.Query{hypo(odd()), hypo(transducer()), {Kind: api.Hypo, Word: []int{0}, Hyp: odd()}} {
		for _, kind := range []int{0, api.Out, 4, -1, math.MinInt, math.MaxInt} {
			for _, a := range []api.Answer{{}, {Out: []int{0}}, {Out: []int{1}}, {Word: []int{0}}, {Out: []int{0}, Word: []int{0}}} {
				a.Kind = kind
				checks(t, "another Kind", q, a, api.ErrAnswer)
			}
		}
	}
}

// The chapter's example.
func TestCheckExample(t *testing.T) {
	checks(t, "the example", member(api.Machine{Kind: api.Dfa, O: 2}), out(2), api.ErrAnswer)
}

// P10.2, of all small queries and answers.
func TestCheckAsPlainlyRead(t *testing.T) {
	answers := upTo(2, -1, 3)
	told := map[api.Errno]int{}
	for _, q := range smallQueries() {
		for kind := range 5 {
			for _, o := range answers {
				for _, w := range answers {
					a := api.Answer{Kind: kind, Out: o, Word: w}
					got := teach.Check(q, a)
					if want := plainCheck(q, a); got != want {
						t.Fatalf("%v, %v: %d, not %d", q, a, got, want)
					}
					told[got]++
				}
			}
		}
	}
	for _, e := range []api.Errno{api.OK, api.ErrKind, api.ErrAnswer} {
		if told[e] < 500 {
			t.Errorf("error %d is told %d times: that tells little", e, told[e])
		}
	}
}

func smallQueries() []api.Query {
	var l []api.Query
	for kind := range 4 {
		for hypKind := range 4 {
			for _, k := range []int{0, 1, 3, 65} {
				for o := range 4 {
					for _, w := range [][]int{nil, {0}, {1, 0}} {
						l = append(l, api.Query{Kind: kind, Word: w, Hyp: api.Machine{Kind: hypKind, K: k, O: o}})
					}
				}
			}
		}
	}
	return l
}
