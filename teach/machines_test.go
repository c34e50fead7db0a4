package teach_test

import (
	"math"
	"slices"

	"tutor/api"
)

func dfa(k int, next, out []int) api.Machine {
	return api.Machine{Kind: api.Dfa, K: k, O: 2, N: len(out), Next: next, Out: out}
}

func mealy(k, o int, next, out []int) api.Machine {
	return api.Machine{Kind: api.Mealy, K: k, O: o, N: len(next) / k, Next: next, Out: out}
}

// odd says 1 of words with an odd number of symbols.
func odd() api.Machine {
	return dfa(1, []int{1, 0}, []int{0, 1})
}

func acceptor() api.Machine {
	return dfa(2, []int{2, 0, 1, 3, 2, 0, 1, 0}, []int{0, 1, 1, 0})
}

func transducer() api.Machine {
	return mealy(2, 11, []int{3, 0, 2, 1, 3, 2, 2, 3}, []int{1, 2, 3, 10, 1, 4, 3, 10})
}

// saidPerState tells how many numbers of Out are one state's.
func saidPerState(m api.Machine) int {
	if m.Kind == api.Dfa {
		return 1
	}
	return m.K
}

// like is what a query of Kind Member tells of a machine.
func like(m api.Machine) api.Machine {
	return api.Machine{Kind: m.Kind, K: m.K, O: m.O}
}

func member(hyp api.Machine, w ...int) api.Query {
	return api.Query{Kind: api.Member, Word: w, Hyp: hyp}
}

func hypo(hyp api.Machine) api.Query {
	return api.Query{Kind: api.Hypo, Hyp: hyp}
}

func out(l ...int) api.Answer {
	return api.Answer{Kind: api.Out, Out: l}
}

func yes() api.Answer {
	return api.Answer{Kind: api.Yes}
}

func no(w ...int) api.Answer {
	return api.Answer{Kind: api.No, Word: w}
}

// equalAnswers holds nil and empty lists for the same.
func equalAnswers(a, b api.Answer) bool {
	return a.Kind == b.Kind && slices.Equal(a.Out, b.Out) && slices.Equal(a.Word, b.Word)
}

// numbers are drawn by a rule from the last one.
type numbers uint64

func (d *numbers) below(n int) int {
	*d = *d*6364136223846793005 + 1442695040888963407
	return int(uint64(*d)>>33) % n
}

func (d *numbers) list(n, below int) []int {
	l := make([]int, n)
	for i := range l {
		l[i] = d.below(below)
	}
	return l
}

func (d *numbers) machine(kind, k, o, n int) api.Machine {
	m := api.Machine{Kind: kind, K: k, O: o, N: n, Next: d.list(n*k, n)}
	if kind == api.Dfa {
		m.O = 2
	}
	m.Out = d.list(n*saidPerState(m), m.O)
	return m
}

// changed is m with one entry drawn anew.
func (d *numbers) changed(m api.Machine) api.Machine {
	m.Next, m.Out = slices.Clone(m.Next), slices.Clone(m.Out)
	if d.below(2) == 0 {
		m.Next[d.below(len(m.Next))] = d.below(m.N)
	} else {
		m.Out[d.below(len(m.Out))] = d.below(m.O)
	}
	return m
}

// drawn lists machines of several sizes.
func drawn() []api.Machine {
	var l []api.Machine
	d := numbers(5)
	for _, kind := range []int{api.Dfa, api.Mealy} {
		for _, k := range []int{1, 2, 3, 11} {
			for _, n := range []int{1, 2, 5, 13} {
				l = append(l, d.machine(kind, k, 1+d.below(api.MaxOutputs), n))
			}
		}
		l = append(l, d.machine(kind, 64, 64, 3), d.machine(kind, 2, 3, 101))
	}
	return append(l, odd(), acceptor(), transducer())
}

// chain leads from each state to the one behind it; the last one stays, and it
// alone says 1: so no two machines of it with other N are told apart early.
func chain(kind, n int) api.Machine {
	m := api.Machine{Kind: kind, K: 1, O: 2, N: n, Next: make([]int, n), Out: make([]int, n)}
	for s := range n {
		m.Next[s] = min(s+1, n-1)
	}
	m.Out[n-1] = 1
	return m
}

// lists lists all lists of n numbers from low to high.
func lists(n, low, high int) [][]int {
	l := [][]int{nil}
	for range n {
		var longer [][]int
		for _, x := range l {
			for y := low; y <= high; y++ {
				longer = append(longer, append(slices.Clone(x), y))
			}
		}
		l = longer
	}
	return l
}

// upTo lists all lists of at most so many numbers.
func upTo(most, low, high int) [][]int {
	var l [][]int
	for n := range most + 1 {
		l = append(l, lists(n, low, high)...)
	}
	return l
}

// all lists all machines of one to so many states, of k symbols and o outputs.
func all(kind, k, o, most int) []api.Machine {
	var l []api.Machine
	for n := 1; n <= most; n++ {
		m := api.Machine{Kind: kind, K: k, O: o, N: n}
		outs := lists(n*saidPerState(m), 0, o-1)
		for _, m.Next = range lists(n*k, 0, n-1) {
			for _, m.Out = range outs {
				l = append(l, m)
			}
		}
	}
	return l
}

type broken struct {
	name string
	turn func(m *api.Machine)
	e    api.Errno
}

// faults lists what machine.Check tells of acceptor or transducer turned so.
func faults() []broken {
	return []broken{
		{"the zero machine", func(m *api.Machine) { *m = api.Machine{} }, api.ErrKind},
		{"kind 0", func(m *api.Machine) { m.Kind = 0 }, api.ErrKind},
		{"kind 3", func(m *api.Machine) { m.Kind = 3 }, api.ErrKind},
		{"kind least", func(m *api.Machine) { m.Kind = math.MinInt }, api.ErrKind},
		{"K 0", func(m *api.Machine) { m.K = 0 }, api.ErrArg},
		{"K 65", func(m *api.Machine) { m.K = 65 }, api.ErrArg},
		{"O 0", func(m *api.Machine) { m.O = 0 }, api.ErrOut},
		{"O 65", func(m *api.Machine) { m.O = 65 }, api.ErrOut},
		{"N 0 and no lists", func(m *api.Machine) { m.N, m.Next, m.Out = 0, nil, nil }, api.ErrMany},
		{"N -1", func(m *api.Machine) { m.N = -1 }, api.ErrMany},
		{"N 1025", func(m *api.Machine) { m.N = 1025 }, api.ErrMany},
		{"N greatest", func(m *api.Machine) { m.N = math.MaxInt }, api.ErrMany},
		{"N 3", func(m *api.Machine) { m.N = 3 }, api.ErrShape},
		{"no lists", func(m *api.Machine) { m.Next, m.Out = nil, nil }, api.ErrShape},
		{"Next too short", func(m *api.Machine) { m.Next = m.Next[:7] }, api.ErrShape},
		{"Out too long", func(m *api.Machine) { m.Out = append(m.Out, 0) }, api.ErrShape},
		{"Next's first", func(m *api.Machine) { m.Next[0] = 4 }, api.ErrState},
		{"Next's last", func(m *api.Machine) { m.Next[7] = -1 }, api.ErrState},
		{"Out's first", func(m *api.Machine) { m.Out[0] = 11 }, api.ErrOut},
		{"Out's last", func(m *api.Machine) { m.Out[len(m.Out)-1] = -1 }, api.ErrOut},
		{"Next and Out", func(m *api.Machine) { m.Next[7], m.Out[0] = 9, 99 }, api.ErrState},
	}
}
