package teach_test

import (
	"math"
	"slices"
	"testing"

	"tutor/api"
	"tutor/differ"
	"tutor/machine"
	"tutor/teach"
	"tutor/word"
)

// tells holds Tell against what is wanted.
func tells(t *testing.T, name string, m api.Machine, q api.Query, want api.Answer, wantE api.Errno) {
	t.Helper()
	if got, e := teach.Tell(m, q); !equalAnswers(got, want) || e != wantE {
		t.Errorf("%s: %.100v, %d, not %.100v, %d", name, got, e, want, wantE)
	}
}

// P10.4, of Member.
func TestTellMember(t *testing.T) {
	toggle := mealy(1, 2, []int{1, 0}, []int{0, 1})
	for _, c := range []struct {
		name string
		m    api.Machine
		w    []int
		want []int
	}{
		{"odd, no symbol", odd(), nil, []int{0}},
		{"odd, one", odd(), []int{0}, []int{1}},
		{"odd, two", odd(), []int{0, 0}, []int{0}},
		{"toggle, no symbol", toggle, nil, nil},
		{"toggle, three", toggle, []int{0, 0, 0}, []int{0, 1, 0}},
		{"acceptor", acceptor(), []int{0, 1, 0}, []int{1}},
		{"transducer", transducer(), []int{0, 1, 0, 0}, []int{1, 10, 3, 1}},
		{"the longest word", odd(), make([]int, api.MaxWord), []int{0}},
		{"the longest word of a Mealy", mealy(1, 1, []int{0}, []int{0}), make([]int, api.MaxWord), make([]int, api.MaxWord)},
	} {
		// Of Member, Hyp plays no part, whatever it is.
		for _, hyp := range []api.Machine{like(c.m), {}, odd(), transducer(), {Kind: 9, K: -1, O: -1, N: -1, Next: []int{-1}}} {
			tells(t, c.name, c.m, member(hyp, c.w...), out(c.want...), api.OK)
		}
	}
}

// P10.4: what machine.Run tells of words that it does not take.
func TestTellMemberWrongWords(t *testing.T) {
	for _, m := range []api.Machine{odd(), acceptor(), transducer()} {
		long := make([]int, api.MaxWord+1)
		for _, c := range []struct {
			w []int
			e api.Errno
		}{
			{long, api.ErrLong}, {append(slices.Clone(long), -1), api.ErrLong}, {append([]int{m.K}, long...), api.ErrLong},
			{[]int{m.K}, api.ErrSymbol}, {[]int{-1}, api.ErrSymbol}, {[]int{0, 0, m.K}, api.ErrSymbol}, {[]int{0, math.MinInt}, api.ErrSymbol}, {[]int{math.MaxInt}, api.ErrSymbol},
			{append(slices.Clone(long[2:]), m.K), api.ErrSymbol},
		} {
			// What the word is over, m tells, not Hyp.
			for _, hyp := range []api.Machine{like(m), {Kind: m.Kind, K: 64, O: m.O}, {}} {
				tells(t, "a wrong word", m, member(hyp, c.w...), api.Answer{}, c.e)
			}
		}
	}
}

// P10.4, of Hypo.
func TestTellHypo(t *testing.T) {
	nothing := dfa(1, []int{0}, []int{0})
	three := dfa(1, []int{1, 2, 0}, []int{0, 1, 1})
	larger := dfa(1, []int{1, 2, 3, 0}, []int{0, 1, 0, 1})
	for _, c := range []struct {
		name   string
		m, hyp api.Machine
		want   api.Answer
	}{
		{"itself", odd(), odd(), yes()},
		{"itself, a Mealy", transducer(), transducer(), yes()},
		{"another that says the same", odd(), larger, yes()},
		{"the same, the other way round", larger, odd(), yes()},
		{"the empty word", odd(), dfa(1, []int{1, 0}, []int{1, 0}), no()},
		{"one symbol", odd(), nothing, no(0)},
		{"the chapter's of differ", odd(), three, no(0, 0)},
		{"a Mealy's", mealy(2, 2, []int{0, 0}, []int{0, 0}), mealy(2, 2, []int{0, 1, 0, 0}, []int{0, 0, 0, 1}), no(1, 1)},
		{"far away", chain(api.Dfa, 1023), chain(api.Dfa, 1024), no(make([]int, 1022)...)},
		{"far away, a Mealy", chain(api.Mealy, 1023), chain(api.Mealy, 1024), no(make([]int, 1023)...)},
	} {
		// Of Hypo, Word plays no part.
		for _, w := range [][]int{nil, {0}, {-1, 99}, make([]int, 5000)} {
			tells(t, c.name, c.m, api.Query{Kind: api.Hypo, Word: w, Hyp: c.hyp}, c.want, api.OK)
		}
	}
}

// P10.4: what machine.Check tells of m, ahead of all that is wrong with the
// query.
func TestTellWrongMachines(t *testing.T) {
	for _, start := range []func() api.Machine{acceptor, transducer} {
		queries := []api.Query{{}, {Kind: 3}, {Kind: -1}, member(like(start()), 0), member(like(start()), 99), member(api.Machine{}, make([]int, 5000)...), hypo(start()), hypo(api.Machine{}), hypo(odd())}
		for _, f := range faults() {
			m := start()
			f.turn(&m)
			for _, q := range append(queries, hypo(m)) {
				tells(t, f.name, m, q, api.Answer{}, f.e)
			}
		}
	}
	for _, kind := range []int{api.Member, api.Hypo, 0} {
		tells(t, "a Dfa of three outputs", api.Machine{Kind: api.Dfa, K: 1, O: 3, N: 1, Next: []int{0}, Out: []int{0}}, api.Query{Kind: kind}, api.Answer{}, api.ErrOut)
		tells(t, "a Dfa that says 2", dfa(1, []int{0}, []int{2}), api.Query{Kind: kind}, api.Answer{}, api.ErrOut)
	}
}

// P10.4: queries of neither Kind, ahead of what is wrong with Word and Hyp.
func TestTellNoQuery(t *testing.T) {
	for _, m := range []api.Machine{odd(), transducer()} {
		for _, kind := range []int{0, -1, 3, 4, math.MinInt, math.MaxInt} {
			for _, w := range [][]int{nil, {0}, {-1}, make([]int, 5000)} {
				for _, hyp := range []api.Machine{{}, m, odd(), transducer(), {Kind: api.Dfa, K: 99}} {
					tells(t, "a query of neither Kind", m, api.Query{Kind: kind, Word: w, Hyp: hyp}, api.Answer{}, api.ErrKind)
				}
			}
		}
	}
}

// P10.4: what differ.Separate tells of hypotheses that it does not take.
func TestTellWrongHypotheses(t *testing.T) {
	for _, start := range []func() api.Machine{acceptor, transducer} {
		for _, f := range faults() {
			hyp := start()
			f.turn(&hyp)
			tells(t, f.name, start(), hypo(hyp), api.Answer{}, f.e)
			// Even if it is not like m at all.
			tells(t, f.name, odd(), hypo(hyp), api.Answer{}, f.e)
			tells(t, f.name, mealy(3, 5, make([]int, 3), make([]int, 3)), hypo(hyp), api.Answer{}, f.e)
		}
	}
	for _, c := range []struct {
		name   string
		m, hyp api.Machine
		e      api.Errno
	}{
		{"another Kind", dfa(1, []int{0}, []int{0}), mealy(1, 2, []int{0}, []int{0}), api.ErrKind},
		{"another Kind, the other way round", mealy(1, 2, []int{0}, []int{0}), dfa(1, []int{0}, []int{0}), api.ErrKind},
		{"another Kind, K and O", odd(), mealy(2, 3, []int{0, 0}, []int{0, 0}), api.ErrKind},
		{"another K", odd(), dfa(2, []int{0, 0}, []int{0}), api.ErrArg},
		{"another K of a Mealy", mealy(2, 2, []int{0, 0}, []int{0, 0}), mealy(1, 2, []int{0}, []int{0}), api.ErrArg},
		{"another K and O", mealy(2, 2, []int{0, 0}, []int{0, 0}), mealy(1, 3, []int{0}, []int{0}), api.ErrArg},
		{"another O", mealy(1, 2, []int{0}, []int{0}), mealy(1, 3, []int{0}, []int{0}), api.ErrOut},
		{"another O, the other way round", mealy(1, 3, []int{0}, []int{0}), mealy(1, 2, []int{0}, []int{0}), api.ErrOut},
		{"what Member has", odd(), like(odd()), api.ErrMany},
		{"nothing", odd(), api.Machine{}, api.ErrKind},
	} {
		tells(t, c.name, c.m, hypo(c.hyp), api.Answer{}, c.e)
	}
}

// P10.4, of Member: as machine.Run says, of all short words.
func TestTellMemberAll(t *testing.T) {
	for _, m := range drawn() {
		words, _ := word.All(m.K, 2)
		d := numbers(3)
		for _, n := range []int{0, 3, 17, api.MaxWord, api.MaxWord + 1} {
			words = append(words, d.list(n, m.K), d.list(n, m.K+1))
		}
		for _, w := range words {
			want, wantE := machine.Run(m, w)
			a := out(want...)
			if wantE != api.OK {
				a = api.Answer{}
			}
			tells(t, "as Run says", m, member(like(m), w...), a, wantE)
		}
	}
}

// plainApart is the first word, tried one by one, that tells two machines
// apart, if there is any.
func plainApart(a, b api.Machine) (w []int, apart bool) {
	for len(w) < a.N+b.N {
		said, _ := machine.Run(a, w)
		other, _ := machine.Run(b, w)
		if !slices.Equal(said, other) {
			return w, true
		}
		w, _ = word.Next(w, a.K)
	}
	return nil, false
}

// P10.4, of Hypo: the word is the first one that tells the machines apart.
func TestTellHypoAll(t *testing.T) {
	same, other := 0, 0
	for _, l := range [][]api.Machine{all(api.Dfa, 1, 2, 3), all(api.Dfa, 2, 2, 2), all(api.Mealy, 1, 2, 3), all(api.Mealy, 2, 2, 2)} {
		for i, m := range l {
			for j, hyp := range l {
				if (i*7+j)%5 != 0 {
					continue
				}
				want := yes()
				if w, apart := plainApart(m, hyp); apart {
					want = no(w...)
					other++
				} else {
					same++
				}
				tells(t, "as tried", m, hypo(hyp), want, api.OK)
			}
		}
	}
	if same < 1000 || other < 1000 {
		t.Errorf("%d are the same, %d not: that tells little", same, other)
	}
}

// P10.4, of Hypo: as differ.Separate tells, of larger machines.
func TestTellHypoDrawn(t *testing.T) {
	d := numbers(41)
	told := map[int]int{}
	for _, m := range drawn() {
		for range 20 {
			hyp := d.changed(m)
			w, apart, e := differ.Separate(m, hyp)
			want := yes()
			if apart {
				want = no(w...)
			}
			tells(t, "as Separate tells", m, hypo(hyp), want, e)
			told[want.Kind]++
		}
		for _, hyp := range drawn() {
			if w, apart, e := differ.Separate(m, hyp); e != api.OK {
				tells(t, "as Separate tells", m, hypo(hyp), api.Answer{}, e)
			} else if apart {
				tells(t, "as Separate tells", m, hypo(hyp), no(w...), e)
			}
		}
	}
	if told[api.Yes] < 20 || told[api.No] < 20 {
		t.Errorf("%v: that tells little", told)
	}
}
