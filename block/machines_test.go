package block_test

import (
	"math"
	"math/rand/v2"

	"tutor/api"
)

func dfa(k int, next, out []int) api.Machine {
	return api.Machine{Kind: api.Dfa, K: k, O: 2, N: len(out), Next: next, Out: out}
}

func mealy(k, o int, next, out []int) api.Machine {
	return api.Machine{Kind: api.Mealy, K: k, O: o, N: len(next) / k, Next: next, Out: out}
}

// acceptor has alike states, 0 and 3 as well as 1 and 2.
func acceptor() api.Machine {
	return dfa(2, []int{2, 0, 1, 3, 2, 0, 1, 0}, []int{0, 1, 1, 0})
}

// transducer has alike states, 1 and 3.
func transducer() api.Machine {
	return mealy(2, 9, []int{3, 0, 2, 1, 3, 2, 2, 3}, []int{1, 2, 3, 8, 1, 4, 3, 8})
}

// saidPerState tells how many numbers of Out are one state's.
func saidPerState(m api.Machine) int {
	if m.Kind == api.Dfa {
		return 1
	}
	return m.K
}

// chain leads from each state to the one behind it; the last one stays, and it
// alone says 1. So each state is told apart by how far the end is.
func chain(kind, n, k int) api.Machine {
	m := api.Machine{Kind: kind, K: k, O: 2, N: n, Next: make([]int, n*k)}
	for i := range m.Next {
		m.Next[i] = min(i/k+1, n-1)
	}
	m.Out = make([]int, n*saidPerState(m))
	m.Out[len(m.Out)-1] = 1
	return m
}

// blown is a machine whose state s is as m's state of[s]: of each symbol it
// leads to one of the states that are as the one that m leads to, another one
// by the next symbol.
func blown(m api.Machine, of []int) api.Machine {
	like := make([][]int, m.N)
	for s, o := range of {
		like[o] = append(like[o], s)
	}
	b := api.Machine{Kind: m.Kind, K: m.K, O: m.O, N: len(of)}
	for s, o := range of {
		for x := range m.K {
			to := like[m.Next[o*m.K+x]]
			b.Next = append(b.Next, to[(s+x)%len(to)])
		}
		b.Out = append(b.Out, m.Out[o*saidPerState(m):(o+1)*saidPerState(m)]...)
	}
	return b
}

// drawn lists machines of several sizes. Many of them lead to few states and
// say few numbers, so that states are alike, or are told apart late.
func drawn() []api.Machine {
	draw := rand.New(rand.NewPCG(6, 2))
	list := func(n, below int) []int {
		l := make([]int, n)
		for i := range l {
			l[i] = draw.IntN(below)
		}
		return l
	}
	seldom := func(n int) []int {
		l := make([]int, n)
		l[draw.IntN(n)] = 1
		return l
	}
	var l []api.Machine
	for range 40 {
		for k := 1; k <= 3; k++ {
			n := 1 + draw.IntN(30)
			few := 1 + draw.IntN(n)
			l = append(l, dfa(k, list(n*k, few), list(n, 2)), mealy(k, 3, list(n*k, few), list(n*k, 2)))
			l = append(l, dfa(k, list(n*k, n), seldom(n)), mealy(k, 64, list(n*k, n), seldom(n*k)))
			l = append(l, mealy(k, 64, list(n*k, n), list(n*k, 64)))
		}
	}
	return l
}

// lists lists all lists of n numbers below a number.
func lists(n, below int) [][]int {
	l := [][]int{nil}
	for range n {
		var longer [][]int
		for _, x := range l {
			for y := range below {
				longer = append(longer, append(append([]int(nil), x...), y))
			}
		}
		l = longer
	}
	return l
}

// small lists all machines of few states and symbols, and two outputs.
func small() []api.Machine {
	var l []api.Machine
	for _, kind := range []int{api.Dfa, api.Mealy} {
		for _, size := range [][2]int{{1, 1}, {1, 2}, {1, 3}, {1, 4}, {2, 1}, {2, 2}, {2, 3}, {3, 1}, {3, 2}} {
			m := api.Machine{Kind: kind, K: size[0], O: 2, N: size[1]}
			outs := lists(m.N*saidPerState(m), 2)
			for _, m.Next = range lists(m.N*m.K, m.N) {
				for _, m.Out = range outs {
					l = append(l, m)
				}
			}
		}
	}
	return l
}

type fault struct {
	name string
	turn func(m *api.Machine)
	e    api.Errno
}

// faults lists what machine.Check tells of acceptor or transducer turned so.
func faults() []fault {
	return []fault{
		{"the zero machine", func(m *api.Machine) { *m = api.Machine{} }, api.ErrKind},
		{"kind 0", func(m *api.Machine) { m.Kind = 0 }, api.ErrKind},
		{"kind 3", func(m *api.Machine) { m.Kind = 3 }, api.ErrKind},
		{"kind 3 and K 0", func(m *api.Machine) { m.Kind, m.K = 3, 0 }, api.ErrKind},
		{"K 0", func(m *api.Machine) { m.K = 0 }, api.ErrArg},
		{"K -1", func(m *api.Machine) { m.K = -1 }, api.ErrArg},
		{"K 65", func(m *api.Machine) { m.K = 65 }, api.ErrArg},
		{"K 0 and O 0", func(m *api.Machine) { m.K, m.O = 0, 0 }, api.ErrArg},
		{"O 0", func(m *api.Machine) { m.O = 0 }, api.ErrOut},
		{"O 65", func(m *api.Machine) { m.O = 65 }, api.ErrOut},
		{"O 65 and N 0", func(m *api.Machine) { m.O, m.N = 65, 0 }, api.ErrOut},
		{"N 0", func(m *api.Machine) { m.N = 0 }, api.ErrMany},
		{"N 0 and no lists", func(m *api.Machine) { m.N, m.Next, m.Out = 0, nil, nil }, api.ErrMany},
		{"N -1", func(m *api.Machine) { m.N = -1 }, api.ErrMany},
		{"N 1025", func(m *api.Machine) { m.N = 1025 }, api.ErrMany},
		{"N greatest", func(m *api.Machine) { m.N = math.MaxInt }, api.ErrMany},
		{"N 3", func(m *api.Machine) { m.N = 3 }, api.ErrShape},
		{"no lists", func(m *api.Machine) { m.Next, m.Out = nil, nil }, api.ErrShape},
		{"Next too short", func(m *api.Machine) { m.Next = m.Next[:7] }, api.ErrShape},
		{"Next too long, and wrong", func(m *api.Machine) { m.Next = append(m.Next, 9) }, api.ErrShape},
		{"Out too short", func(m *api.Machine) { m.Out = m.Out[1:] }, api.ErrShape},
		{"Out too long", func(m *api.Machine) { m.Out = append(m.Out, 0) }, api.ErrShape},
		{"Next's first", func(m *api.Machine) { m.Next[0] = 4 }, api.ErrState},
		{"Next's last", func(m *api.Machine) { m.Next[7] = -1 }, api.ErrState},
		{"Next, where nobody comes", func(m *api.Machine) { m.Next[2] = 4 }, api.ErrState},
		{"Out's first", func(m *api.Machine) { m.Out[0] = 9 }, api.ErrOut},
		{"Out's last", func(m *api.Machine) { m.Out[len(m.Out)-1] = -1 }, api.ErrOut},
		{"Next and Out", func(m *api.Machine) { m.Next[7], m.Out[0] = 9, 9 }, api.ErrState},
	}
}
