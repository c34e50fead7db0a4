package dot_test

import (
	"math"
	"slices"

	"tutor/api"
	"tutor/glyph"
)

func dfa(k int, next, out []int) api.Machine {
	return api.Machine{Kind: api.Dfa, K: k, O: 2, N: len(out), Next: next, Out: out}
}

func mealy(k, o int, next, out []int) api.Machine {
	return api.Machine{Kind: api.Mealy, K: k, O: o, N: len(next) / k, Next: next, Out: out}
}

func acceptor() api.Machine {
	return dfa(2, []int{2, 0, 1, 3, 2, 0, 1, 0}, []int{0, 1, 1, 0})
}

func transducer() api.Machine {
	return mealy(2, 11, []int{3, 0, 2, 1, 3, 2, 2, 3}, []int{1, 2, 3, 10, 1, 4, 3, 10})
}

// saidPerState tells how many numbers of Out are one state's.
func saidPerState(m api.Machine) int {
	if m.Kind == api.Dfa {
		return 1
	}
	return m.K
}

// equalButO leaves O out, which no drawing of a Mealy tells.
func equalButO(a, b api.Machine) bool {
	return a.Kind == b.Kind && a.K == b.K && a.N == b.N &&
		slices.Equal(a.Next, b.Next) && slices.Equal(a.Out, b.Out)
}

// numbers are drawn by a rule from the last one.
type numbers uint64

func (d *numbers) below(n int) int {
	*d = *d*6364136223846793005 + 1442695040888963407
	return int(uint64(*d)>>33) % n
}

func (d *numbers) list(n, below int) []int {
	l := make([]int, n)
	for i := range l {
		l[i] = d.below(below)
	}
	return l
}

func (d *numbers) machine(kind, k, o, n int) api.Machine {
	m := api.Machine{Kind: kind, K: k, O: o, N: n, Next: d.list(n*k, n)}
	if kind == api.Dfa {
		m.O = 2
	}
	m.Out = d.list(n*saidPerState(m), m.O)
	return m
}

// drawn lists machines of several sizes, so that each number has from one to
// as many digits as it can.
func drawn() []api.Machine {
	var l []api.Machine
	d := numbers(5)
	for _, kind := range []int{api.Dfa, api.Mealy} {
		for _, k := range []int{1, 2, 9, 10, 11} {
			for _, n := range []int{1, 2, 9, 10, 11, 13} {
				l = append(l, d.machine(kind, k, 1+d.below(api.MaxOutputs), n))
			}
		}
		l = append(l, d.machine(kind, 1, 3, 99), d.machine(kind, 1, 64, 101), d.machine(kind, 64, 1, 2), d.machine(kind, 1, 2, 1001))
	}
	return append(l, acceptor(), transducer())
}

// greatest lists machines that have as many of all as may be, with the
// greatest numbers among what is said and where it is led to.
func greatest() []api.Machine {
	var l []api.Machine
	d := numbers(17)
	for _, kind := range []int{api.Dfa, api.Mealy} {
		m := d.machine(kind, api.MaxAlphabet, api.MaxOutputs, api.MaxStates)
		m.Next[0], m.Next[len(m.Next)-1] = m.N-1, m.N-1
		m.Out[0], m.Out[len(m.Out)-1] = m.O-1, m.O-1
		l = append(l, m)
	}
	return l
}

// lists lists all lists of n numbers below a number.
func lists(n, below int) [][]int {
	l := [][]int{nil}
	for range n {
		var longer [][]int
		for _, x := range l {
			for y := range below {
				longer = append(longer, append(slices.Clone(x), y))
			}
		}
		l = longer
	}
	return l
}

// all lists all machines of one to so many states, of k symbols and o outputs.
func all(kind, k, o, most int) []api.Machine {
	var l []api.Machine
	for n := 1; n <= most; n++ {
		m := api.Machine{Kind: kind, K: k, O: o, N: n}
		outs := lists(n*saidPerState(m), o)
		for _, m.Next = range lists(n*k, n) {
			for _, m.Out = range outs {
				l = append(l, m)
			}
		}
	}
	return l
}

// small lists all machines of few states, symbols and outputs.
func small() []api.Machine {
	return slices.Concat(all(api.Dfa, 1, 2, 4), all(api.Dfa, 2, 2, 2), all(api.Dfa, 3, 2, 1),
		all(api.Mealy, 1, 1, 3), all(api.Mealy, 1, 2, 3), all(api.Mealy, 1, 3, 2), all(api.Mealy, 2, 2, 2), all(api.Mealy, 3, 2, 1))
}

// namings lists names for k symbols: the usual ones; ones that look like other
// parts of a drawing, or have several bytes; one name for all of them.
func namings(k int) [][]rune {
	odd := []rune{'"', '\\', '/', '0', ']', 'é', '}', '>', 0xfffd, 0x10ffff, '['}
	var mixed, same []rune
	for x := range k {
		mixed = append(mixed, odd[x%len(odd)])
		same = append(same, '\\')
	}
	return [][]rune{glyph.Default(k), mixed, same}
}

type broken struct {
	name string
	turn func(m *api.Machine)
	e    api.Errno
}

// faults lists what machine.Check tells of acceptor or transducer turned so.
func faults() []broken {
	return []broken{
		{"the zero machine", func(m *api.Machine) { *m = api.Machine{} }, api.ErrKind},
		{"kind 0", func(m *api.Machine) { m.Kind = 0 }, api.ErrKind},
		{"kind 3", func(m *api.Machine) { m.Kind = 3 }, api.ErrKind},
		{"kind least", func(m *api.Machine) { m.Kind = math.MinInt }, api.ErrKind},
		{"kind and K", func(m *api.Machine) { m.Kind, m.K = -1, 0 }, api.ErrKind},
		{"K 0", func(m *api.Machine) { m.K = 0 }, api.ErrArg},
		{"K -1", func(m *api.Machine) { m.K = -1 }, api.ErrArg},
		{"K 65", func(m *api.Machine) { m.K = 65 }, api.ErrArg},
		{"K and O", func(m *api.Machine) { m.K, m.O = 65, 65 }, api.ErrArg},
		{"O 0", func(m *api.Machine) { m.O = 0 }, api.ErrOut},
		{"O -1", func(m *api.Machine) { m.O = -1 }, api.ErrOut},
		{"O 65", func(m *api.Machine) { m.O = 65 }, api.ErrOut},
		{"O and N", func(m *api.Machine) { m.O, m.N = 0, 0 }, api.ErrOut},
		{"N 0", func(m *api.Machine) { m.N = 0 }, api.ErrMany},
		{"N 0 and no lists", func(m *api.Machine) { m.N, m.Next, m.Out = 0, nil, nil }, api.ErrMany},
		{"N -1", func(m *api.Machine) { m.N = -1 }, api.ErrMany},
		{"N 1025", func(m *api.Machine) { m.N = 1025 }, api.ErrMany},
		{"N greatest", func(m *api.Machine) { m.N = math.MaxInt }, api.ErrMany},
		{"N 3", func(m *api.Machine) { m.N = 3 }, api.ErrShape},
		{"no lists", func(m *api.Machine) { m.Next, m.Out = nil, nil }, api.ErrShape},
		{"Next too short", func(m *api.Machine) { m.Next = m.Next[:7] }, api.ErrShape},
		{"Next too long", func(m *api.Machine) { m.Next = append(m.Next, 0) }, api.ErrShape},
		{"Out too short", func(m *api.Machine) { m.Out = m.Out[1:] }, api.ErrShape},
		{"Out too long", func(m *api.Machine) { m.Out = append(m.Out, 0) }, api.ErrShape},
		{"Next's first", func(m *api.Machine) { m.Next[0] = 4 }, api.ErrState},
		{"Next's last", func(m *api.Machine) { m.Next[7] = -1 }, api.ErrState},
		{"Out's first", func(m *api.Machine) { m.Out[0] = 11 }, api.ErrOut},
		{"Out's last", func(m *api.Machine) { m.Out[len(m.Out)-1] = -1 }, api.ErrOut},
		{"Next and Out", func(m *api.Machine) { m.Next[7], m.Out[0] = 9, 99 }, api.ErrState},
	}
}
