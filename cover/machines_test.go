package cover_test

import (
	"math"
	"math/rand/v2"
	"slices"

	"tutor/api"
	"tutor/word"
)

func dfa(k int, next, out []int) api.Machine {
	return api.Machine{Kind: api.Dfa, K: k, O: 2, N: len(out), Next: next, Out: out}
}

func mealy(k, o int, next, out []int) api.Machine {
	return api.Machine{Kind: api.Mealy, K: k, O: o, N: len(next) / k, Next: next, Out: out}
}

// acceptor's state 1 can not be come to; the others are come to in the order 0,
// 3, 2; 0 and 2 are alike.
func acceptor() api.Machine {
	return dfa(2, []int{3, 2, 1, 0, 3, 0, 3, 2}, []int{0, 1, 0, 1})
}

// transducer's state 2 can not be come to; the others are come to in the order
// 0, 3, 1; 1 and 3 are alike.
func transducer() api.Machine {
	return mealy(2, 9, []int{3, 1, 1, 0, 2, 1, 3, 0}, []int{1, 2, 3, 8, 1, 4, 3, 8})
}

// saidPerState tells how many numbers of Out are one state's.
func saidPerState(m api.Machine) int {
	if m.Kind == api.Dfa {
		return 1
	}
	return m.K
}

// chain leads from each state to the one behind it; the last one stays, and it
// alone says 1, a Mealy's by its last symbol. So each state is told apart by
// how far the end is.
func chain(kind, n, k int) api.Machine {
	m := api.Machine{Kind: kind, K: k, O: 2, N: n, Next: make([]int, n*k)}
	for i := range m.Next {
		m.Next[i] = min(i/k+1, n-1)
	}
	m.Out = make([]int, n*saidPerState(m))
	m.Out[len(m.Out)-1] = 1
	return m
}

// ring leads by each symbol x to the state that is x + 1 further, round and
// round; all states say said[s], on all ways.
func ring(kind, k int, said []int) api.Machine {
	m := api.Machine{Kind: kind, K: k, O: 2, N: len(said)}
	for s, o := range said {
		for x := range k {
			m.Next = append(m.Next, (s+x+1)%m.N)
		}
		m.Out = append(m.Out, slices.Repeat([]int{o}, saidPerState(m))...)
	}
	return m
}

// lists lists all lists of n numbers below a number.
func lists(n, below int) [][]int {
	l := [][]int{nil}
	for range n {
		var longer [][]int
		for _, x := range l {
			for y := range below {
				longer = append(longer, word.Join(x, []int{y}))
			}
		}
		l = longer
	}
	return l
}

// all lists all machines of one to n states, of k symbols and two outputs.
func all(kind, k, most int) []api.Machine {
	var l []api.Machine
	for n := 1; n <= most; n++ {
		m := api.Machine{Kind: kind, K: k, O: 2, N: n}
		outs := lists(n*saidPerState(m), 2)
		for _, m.Next = range lists(n*k, n) {
			for _, m.Out = range outs {
				l = append(l, m)
			}
		}
	}
	return l
}

func drawnList(draw *rand.Rand, n, below int) []int {
	l := make([]int, n)
	for i := range l {
		l[i] = draw.IntN(below)
	}
	return l
}

// drawnMachine draws one of n states and k symbols. All but one in so many
// numbers that it says are 0, and most ways lead to the next state, so that
// words that tell apart are long; only ways to the first few states are drawn,
// so that some can not be come to.
func drawnMachine(draw *rand.Rand, kind, k, n, seldom int) api.Machine {
	m := api.Machine{Kind: kind, K: k, O: 2, N: n, Next: drawnList(draw, n*k, n)}
	few := 1 + draw.IntN(n)
	for i := range m.Next {
		m.Next[i] %= few
		if draw.IntN(4) > 0 {
			m.Next[i] = (i/k + 1) % few
		}
	}
	m.Out = make([]int, n*saidPerState(m))
	for i := range m.Out {
		if draw.IntN(seldom) == 0 {
			m.Out[i] = 1
		}
	}
	return m
}

// doubled is a machine of more states that says what m says: state s is as m's
// state of[s], and leads to states that are as those that m leads to.
func doubled(draw *rand.Rand, m api.Machine) api.Machine {
	of := append(make([]int, 1), drawnList(draw, m.N, m.N)...)
	for s := range m.N {
		of = append(of, s)
	}
	like := make([][]int, m.N)
	for s, o := range of {
		like[o] = append(like[o], s)
	}
	b := api.Machine{Kind: m.Kind, K: m.K, O: m.O, N: len(of)}
	for _, o := range of {
		for x := range m.K {
			to := like[m.Next[o*m.K+x]]
			b.Next = append(b.Next, to[draw.IntN(len(to))])
		}
		b.Out = append(b.Out, m.Out[o*saidPerState(m):(o+1)*saidPerState(m)]...)
	}
	return b
}

// shuffled is m with other numbers for all states but the first one.
func shuffled(draw *rand.Rand, m api.Machine) api.Machine {
	number := []int{0}
	for _, s := range draw.Perm(m.N - 1) {
		number = append(number, s+1)
	}
	b := m
	b.Next, b.Out = slices.Clone(m.Next), slices.Clone(m.Out)
	per := saidPerState(m)
	for s, to := range number {
		for x := range m.K {
			b.Next[to*m.K+x] = number[m.Next[s*m.K+x]]
		}
		copy(b.Out[to*per:], m.Out[s*per:(s+1)*per])
	}
	return b
}

// drawn lists machines of several sizes.
func drawn() []api.Machine {
	var l []api.Machine
	draw := rand.New(rand.NewPCG(15, 1))
	for _, kind := range []int{api.Dfa, api.Mealy} {
		for k := 1; k <= 4; k++ {
			for _, n := range []int{1, 2, 3, 5, 8, 13, 21} {
				for _, seldom := range []int{2, n * k, 3 * n * k} {
					m := drawnMachine(draw, kind, k, n, seldom)
					l = append(l, m, shuffled(draw, m), shuffled(draw, doubled(draw, m)))
				}
			}
		}
	}
	return append(l, acceptor(), transducer(), mealy(3, 64, drawnList(draw, 15, 5), drawnList(draw, 15, 64)))
}

type fault struct {
	name string
	turn func(m *api.Machine)
	e    api.Errno
}

// faults lists what machine.Check tells of acceptor or transducer turned so.
func faults() []fault {
	return []fault{
		{"the zero machine", func(m *api.Machine) { *m = api.Machine{} }, api.ErrKind},
		{"kind 0", func(m *api.Machine) { m.Kind = 0 }, api.ErrKind},
		{"kind 3", func(m *api.Machine) { m.Kind = 3 }, api.ErrKind},
		{"kind least", func(m *api.Machine) { m.Kind = math.MinInt }, api.ErrKind},
		{"kind 3 and K 0", func(m *api.Machine) { m.Kind, m.K = 3, 0 }, api.ErrKind},
		{"K 0", func(m *api.Machine) { m.K = 0 }, api.ErrArg},
		{"K -1", func(m *api.Machine) { m.K = -1 }, api.ErrArg},
		{"K 65", func(m *api.Machine) { m.K = 65 }, api.ErrArg},
		{"K 65 and O 65", func(m *api.Machine) { m.K, m.O = 65, 65 }, api.ErrArg},
		{"O 0", func(m *api.Machine) { m.O = 0 }, api.ErrOut},
		{"O 65", func(m *api.Machine) { m.O = 65 }, api.ErrOut},
		{"O 65 and N 0", func(m *api.Machine) { m.O, m.N = 65, 0 }, api.ErrOut},
		{"N 0", func(m *api.Machine) { m.N = 0 }, api.ErrMany},
		{"N 0 and no lists", func(m *api.Machine) { m.N, m.Next, m.Out = 0, nil, nil }, api.ErrMany},
		{"N -1", func(m *api.Machine) { m.N = -1 }, api.ErrMany},
		{"N 1025", func(m *api.Machine) { m.N = 1025 }, api.ErrMany},
		{"N greatest", func(m *api.Machine) { m.N = math.MaxInt }, api.ErrMany},
		{"N 3", func(m *api.Machine) { m.N = 3 }, api.ErrShape},
		{"no lists", func(m *api.Machine) { m.Next, m.Out = nil, nil }, api.ErrShape},
		{"Next too short", func(m *api.Machine) { m.Next = m.Next[:7] }, api.ErrShape},
		{"Next too long", func(m *api.Machine) { m.Next = append(m.Next, 0) }, api.ErrShape},
		{"Out too short", func(m *api.Machine) { m.Out = m.Out[1:] }, api.ErrShape},
		{"Out too long", func(m *api.Machine) { m.Out = append(m.Out, 0) }, api.ErrShape},
		{"Out too short, and Next", func(m *api.Machine) { m.Out, m.Next[0] = m.Out[1:], 9 }, api.ErrShape},
		{"Next's first", func(m *api.Machine) { m.Next[0] = 4 }, api.ErrState},
		{"Next's last", func(m *api.Machine) { m.Next[7] = -1 }, api.ErrState},
		{"Next, where nobody comes", func(m *api.Machine) { m.Next[2], m.Next[4] = 4, 4 }, api.ErrState},
		{"Out's first", func(m *api.Machine) { m.Out[0] = 9 }, api.ErrOut},
		{"Out's last", func(m *api.Machine) { m.Out[len(m.Out)-1] = -1 }, api.ErrOut},
		{"Out, where nobody comes", func(m *api.Machine) {
			m.Out[saidPerState(*m)], m.Out[2*saidPerState(*m)] = -1, -1
		}, api.ErrOut},
		{"Next and Out", func(m *api.Machine) { m.Next[7], m.Out[0] = 9, 9 }, api.ErrState},
	}
}
