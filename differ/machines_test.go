package differ_test

import (
	"math"
	"slices"

	"tutor/api"
	"tutor/word"
)

func dfa(k int, next, out []int) api.Machine {
	return api.Machine{Kind: api.Dfa, K: k, O: 2, N: len(out), Next: next, Out: out}
}

func mealy(k, o int, next, out []int) api.Machine {
	return api.Machine{Kind: api.Mealy, K: k, O: o, N: len(next) / k, Next: next, Out: out}
}

// acceptor has alike states, 0 and 3 as well as 1 and 2; 1 and 3 can not be
// come to.
func acceptor() api.Machine {
	return dfa(2, []int{2, 0, 1, 3, 2, 0, 1, 0}, []int{0, 1, 1, 0})
}

// transducer has alike states, 1 and 3; 1 can not be come to.
func transducer() api.Machine {
	return mealy(2, 9, []int{3, 0, 2, 1, 3, 2, 2, 3}, []int{1, 2, 3, 8, 1, 4, 3, 8})
}

// chain leads from each state to the one behind it; the last one stays, and it
// alone says 1. So each state is told apart by how far the end is.
func chain(kind, n, k int) api.Machine {
	m := api.Machine{Kind: kind, K: k, O: 2, N: n, Next: make([]int, n*k)}
	for i := range m.Next {
		m.Next[i] = min(i/k+1, n-1)
	}
	m.Out = make([]int, n*saidPerState(m))
	m.Out[len(m.Out)-1] = 1
	return m
}

// ring leads by each symbol x to the state that is x + 1 further, round and
// round; all states say said[s], on all ways.
func ring(kind, k int, said []int) api.Machine {
	m := api.Machine{Kind: kind, K: k, O: 2, N: len(said)}
	for s, o := range said {
		for x := range k {
			m.Next = append(m.Next, (s+x+1)%m.N)
		}
		m.Out = append(m.Out, slices.Repeat([]int{o}, saidPerState(m))...)
	}
	return m
}

// saidPerState tells how many numbers of Out are one state's.
func saidPerState(m api.Machine) int {
	if m.Kind == api.Dfa {
		return 1
	}
	return m.K
}

// blown is a machine of n states that says what m says: state s is as m's
// state of[s], and of each symbol it leads to one of the states that are as
// the one that m leads to, another one by the next symbol.
func blown(m api.Machine, of []int) api.Machine {
	like := make([][]int, m.N)
	for s, o := range of {
		like[o] = append(like[o], s)
	}
	b := api.Machine{Kind: m.Kind, K: m.K, O: m.O, N: len(of)}
	for s, o := range of {
		for x := range m.K {
			to := like[m.Next[o*m.K+x]]
			b.Next = append(b.Next, to[(s+x)%len(to)])
		}
		b.Out = append(b.Out, m.Out[o*saidPerState(m):(o+1)*saidPerState(m)]...)
	}
	return b
}

// numbers are drawn by a rule from the last one.
type numbers uint64

func (d *numbers) below(n int) int {
	*d = *d*6364136223846793005 + 1442695040888963407
	return int(uint64(*d)>>33) % n
}

func (d *numbers) list(n, below int) []int {
	l := make([]int, n)
	for i := range l {
		l[i] = d.below(below)
	}
	return l
}

// rarely draws n numbers that are 0, but for one in so many.
func (d *numbers) rarely(n, many int) []int {
	l := make([]int, n)
	for i := range l {
		if d.below(many) == 0 {
			l[i] = 1
		}
	}
	return l
}

// machine draws one of n states and k symbols that seldom says anything but 0,
// so that words which tell apart are long.
func (d *numbers) machine(kind, k, n, seldom int) api.Machine {
	m := api.Machine{Kind: kind, K: k, O: 2, N: n, Next: d.list(n*k, n)}
	// Most ways lead to the next state: words are longer by that, too.
	for i := range m.Next {
		if d.below(4) > 0 {
			m.Next[i] = (i/k + 1) % n
		}
	}
	m.Out = d.rarely(n*saidPerState(m), seldom)
	return m
}

// changed is m with one entry drawn anew.
func (d *numbers) changed(m api.Machine) api.Machine {
	m.Next, m.Out = slices.Clone(m.Next), slices.Clone(m.Out)
	if d.below(2) == 0 {
		m.Next[d.below(len(m.Next))] = d.below(m.N)
	} else {
		m.Out[d.below(len(m.Out))] = d.below(m.O)
	}
	return m
}

// drawn lists machines of several sizes.
func drawn() []api.Machine {
	var l []api.Machine
	d := numbers(7)
	for _, kind := range []int{api.Dfa, api.Mealy} {
		for k := 1; k <= 4; k++ {
			for _, n := range []int{1, 2, 3, 5, 8, 13, 21} {
				for _, seldom := range []int{2, n * k, 3 * n * k} {
					l = append(l, d.machine(kind, k, n, seldom))
				}
				m := d.machine(kind, k, n, n)
				of := append(d.list(n, n), d.list(n, n)...)
				for s := range n {
					of = append(of, s)
				}
				l = append(l, blown(m, of))
			}
		}
	}
	return append(l, acceptor(), transducer(), mealy(3, 64, d.list(15, 5), d.list(15, 64)))
}

// lists lists all lists of n numbers below a number.
func lists(n, below int) [][]int {
	l := [][]int{nil}
	for range n {
		var longer [][]int
		for _, x := range l {
			for y := range below {
				longer = append(longer, word.Join(x, []int{y}))
			}
		}
		l = longer
	}
	return l
}

// all lists all machines of one to n states, of k symbols and two outputs.
func all(kind, k, most int) []api.Machine {
	var l []api.Machine
	for n := 1; n <= most; n++ {
		m := api.Machine{Kind: kind, K: k, O: 2, N: n}
		outs := lists(n*saidPerState(m), 2)
		for _, m.Next = range lists(n*k, n) {
			for _, m.Out = range outs {
				l = append(l, m)
			}
		}
	}
	return l
}

type fault struct {
	name string
	turn func(m *api.Machine)
	e    api.Errno
}

// faults lists what machine.Check tells of acceptor or transducer turned so.
func faults() []fault {
	return []fault{
		{"the zero machine", func(m *api.Machine) { *m = api.Machine{} }, api.ErrKind},
		{"kind 0", func(m *api.Machine) { m.Kind = 0 }, api.ErrKind},
		{"kind 3", func(m *api.Machine) { m.Kind = 3 }, api.ErrKind},
		{"kind least", func(m *api.Machine) { m.Kind = math.MinInt }, api.ErrKind},
		{"K 0", func(m *api.Machine) { m.K = 0 }, api.ErrArg},
		{"K -1", func(m *api.Machine) { m.K = -1 }, api.ErrArg},
		{"K 65", func(m *api.Machine) { m.K = 65 }, api.ErrArg},
		{"O 0", func(m *api.Machine) { m.O = 0 }, api.ErrOut},
		{"O 65", func(m *api.Machine) { m.O = 65 }, api.ErrOut},
		{"N 0", func(m *api.Machine) { m.N = 0 }, api.ErrMany},
		{"N 0 and no lists", func(m *api.Machine) { m.N, m.Next, m.Out = 0, nil, nil }, api.ErrMany},
		{"N -1", func(m *api.Machine) { m.N = -1 }, api.ErrMany},
		{"N 1025", func(m *api.Machine) { m.N = 1025 }, api.ErrMany},
		{"N greatest", func(m *api.Machine) { m.N = math.MaxInt }, api.ErrMany},
		{"N 3", func(m *api.Machine) { m.N = 3 }, api.ErrShape},
		{"no lists", func(m *api.Machine) { m.Next, m.Out = nil, nil }, api.ErrShape},
		{"Next too short", func(m *api.Machine) { m.Next = m.Next[:7] }, api.ErrShape},
		{"Next too long", func(m *api.Machine) { m.Next = append(m.Next, 0) }, api.ErrShape},
		{"Out too short", func(m *api.Machine) { m.Out = m.Out[1:] }, api.ErrShape},
		{"Out too long", func(m *api.Machine) { m.Out = append(m.Out, 0) }, api.ErrShape},
		{"Next's first", func(m *api.Machine) { m.Next[0] = 4 }, api.ErrState},
		{"Next's last", func(m *api.Machine) { m.Next[7] = -1 }, api.ErrState},
		{"Next, where nobody comes", func(m *api.Machine) { m.Next[2] = 4 }, api.ErrState},
		{"Out's first", func(m *api.Machine) { m.Out[0] = 9 }, api.ErrOut},
		{"Out's last", func(m *api.Machine) { m.Out[len(m.Out)-1] = -1 }, api.ErrOut},
		{"Next and Out", func(m *api.Machine) { m.Next[7], m.Out[0] = 9, 9 }, api.ErrState},
	}
}
