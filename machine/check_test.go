package machine_test

import (
	"math"
	"slices"
	"testing"

	"tutor/api"
	"tutor/machine"
)

// same makes a list of n numbers that are all x.
func same(n, x int) []int {
	return slices.Repeat([]int{x}, n)
}

// with answers l anew, with x at a place.
func with(l []int, at, x int) []int {
	c := slices.Clone(l)
	c[at] = x
	return c
}

// acceptor says 1 of the words that end in [0 0].
func acceptor() api.Machine {
	return api.Machine{Kind: api.Dfa, K: 2, O: 2, N: 3, Next: []int{1, 0, 2, 0, 2, 0}, Out: []int{0, 0, 1}}
}

func transducer() api.Machine {
	return api.Machine{Kind: api.Mealy, K: 2, O: 3, N: 2, Next: []int{1, 0, 0, 1}, Out: []int{0, 1, 2, 0}}
}

// widest has as many symbols, outputs and states as may be.
func widest(kind int) api.Machine {
	m := api.Machine{Kind: kind, K: api.MaxAlphabet, O: api.MaxOutputs, N: api.MaxStates}
	ways := m.K * m.N
	for i := range ways {
		m.Next = append(m.Next, (i*7+i/m.K+1)%m.N)
		m.Out = append(m.Out, (i*5+i/m.K)%m.O)
	}
	if kind == api.Dfa {
		m.O = 2
		m.Out = m.Out[:m.N:m.N]
		for s := range m.N {
			m.Out[s] %= 2
		}
	}
	return m
}

// The promises name these numbers.
func TestLimits(t *testing.T) {
	got := []int{api.Dfa, api.Mealy, api.MaxAlphabet, api.MaxWord, api.MaxStates, api.MaxOutputs}
	if want := []int{1, 2, 64, 4096, 1024, 64}; !slices.Equal(got, want) {
		t.Errorf("limits are %v, not %v", got, want)
	}
	errors := []api.Errno{api.ErrArg, api.ErrLong, api.ErrMany, api.ErrSymbol, api.ErrKind, api.ErrShape, api.ErrState, api.ErrOut}
	if want := []api.Errno{1, 2, 3, 10, 30, 31, 32, 33}; !slices.Equal(errors, want) {
		t.Errorf("errors are %v, not %v", errors, want)
	}
}

type turned struct {
	name string
	turn func(m *api.Machine)
	at   int
	e    api.Errno
}

func checkTurned(t *testing.T, start func() api.Machine, cases []turned) {
	t.Helper()
	for _, c := range cases {
		m := start()
		c.turn(&m)
		if at, e := machine.Check(m); at != c.at || e != c.e {
			t.Errorf("%s: %d, %d, not %d, %d", c.name, at, e, c.at, c.e)
		}
	}
}

// P3.2, a Dfa.
func TestCheckDfa(t *testing.T) {
	checkTurned(t, acceptor, []turned{
		{"as it is", func(m *api.Machine) {}, 0, api.OK},
		{"one state, one symbol, says 0", func(m *api.Machine) { m.K, m.N, m.Next, m.Out = 1, 1, []int{0}, []int{0} }, 0, api.OK},
		{"one state, one symbol, says 1", func(m *api.Machine) { m.K, m.N, m.Next, m.Out = 1, 1, []int{0}, []int{1} }, 0, api.OK},
		{"states that nothing leads to", func(m *api.Machine) { m.Next = same(6, 0) }, 0, api.OK},

		{"kind 0", func(m *api.Machine) { m.Kind = 0 }, 0, api.ErrKind},
		{"kind 3", func(m *api.Machine) { m.Kind = 3 }, 0, api.ErrKind},
		{"kind -1", func(m *api.Machine) { m.Kind = -1 }, 0, api.ErrKind},
		{"kind greatest", func(m *api.Machine) { m.Kind = math.MaxInt }, 0, api.ErrKind},
		{"kind Mealy, two outputs", func(m *api.Machine) { m.Kind = api.Mealy }, 0, api.ErrShape},

		{"K 0", func(m *api.Machine) { m.K, m.Next = 0, nil }, 0, api.ErrArg},
		{"K -1", func(m *api.Machine) { m.K = -1 }, 0, api.ErrArg},
		{"K 65", func(m *api.Machine) { m.K, m.Next = 65, same(195, 0) }, 0, api.ErrArg},
		{"K least", func(m *api.Machine) { m.K = math.MinInt }, 0, api.ErrArg},
		{"K greatest", func(m *api.Machine) { m.K = math.MaxInt }, 0, api.ErrArg},
		{"K whose product wraps round", func(m *api.Machine) { m.K, m.N, m.Next, m.Out = 1<<62, 4, nil, same(4, 0) }, 0, api.ErrArg},

		{"O 0", func(m *api.Machine) { m.O = 0 }, 0, api.ErrOut},
		{"O 1", func(m *api.Machine) { m.O, m.Out = 1, same(3, 0) }, 0, api.ErrOut},
		{"O 3", func(m *api.Machine) { m.O = 3 }, 0, api.ErrOut},
		{"O 64", func(m *api.Machine) { m.O = 64 }, 0, api.ErrOut},
		{"O -2", func(m *api.Machine) { m.O = -2 }, 0, api.ErrOut},

		{"N 0", func(m *api.Machine) { m.N, m.Next, m.Out = 0, nil, nil }, 0, api.ErrMany},
		{"N -1", func(m *api.Machine) { m.N = -1 }, 0, api.ErrMany},
		{"N 1025", func(m *api.Machine) { m.N, m.Next, m.Out = 1025, same(2050, 0), same(1025, 0) }, 0, api.ErrMany},
		{"N least", func(m *api.Machine) { m.N = math.MinInt }, 0, api.ErrMany},
		{"N greatest", func(m *api.Machine) { m.N = math.MaxInt }, 0, api.ErrMany},
		{"N whose product wraps round", func(m *api.Machine) { m.N, m.K, m.Next, m.Out = 1<<62, 4, nil, nil }, 0, api.ErrMany},

		{"Next nil", func(m *api.Machine) { m.Next = nil }, 0, api.ErrShape},
		{"Next empty", func(m *api.Machine) { m.Next = []int{} }, 0, api.ErrShape},
		{"Next too short", func(m *api.Machine) { m.Next = m.Next[:5] }, 0, api.ErrShape},
		{"Next too long", func(m *api.Machine) { m.Next = append(m.Next, 0) }, 0, api.ErrShape},
		{"Next of N entries", func(m *api.Machine) { m.Next = m.Next[:3] }, 0, api.ErrShape},
		{"Out nil", func(m *api.Machine) { m.Out = nil }, 0, api.ErrShape},
		{"Out too short", func(m *api.Machine) { m.Out = m.Out[:2] }, 0, api.ErrShape},
		{"Out too long", func(m *api.Machine) { m.Out = append(m.Out, 0) }, 0, api.ErrShape},
		{"Out as a Mealy's", func(m *api.Machine) { m.Out = same(6, 0) }, 0, api.ErrShape},

		{"Next's first is N", func(m *api.Machine) { m.Next[0] = 3 }, 0, api.ErrState},
		{"Next's third is -1", func(m *api.Machine) { m.Next[2] = -1 }, 2, api.ErrState},
		{"Next's last is N", func(m *api.Machine) { m.Next[5] = 3 }, 5, api.ErrState},
		{"Next's last is greatest", func(m *api.Machine) { m.Next[5] = math.MaxInt }, 5, api.ErrState},
		{"Next's last is least", func(m *api.Machine) { m.Next[5] = math.MinInt }, 5, api.ErrState},
		{"two of Next", func(m *api.Machine) { m.Next[4], m.Next[1] = -1, 3 }, 1, api.ErrState},
		{"a state that nothing leads to leads nowhere", func(m *api.Machine) { m.Next = []int{0, 0, 0, 0, 0, 9} }, 5, api.ErrState},

		{"Out's first is 2", func(m *api.Machine) { m.Out[0] = 2 }, 0, api.ErrOut},
		{"Out's second is -1", func(m *api.Machine) { m.Out[1] = -1 }, 1, api.ErrOut},
		{"Out's last is 2", func(m *api.Machine) { m.Out[2] = 2 }, 2, api.ErrOut},
		{"Out's last is greatest", func(m *api.Machine) { m.Out[2] = math.MaxInt }, 2, api.ErrOut},
		{"Out's last is least", func(m *api.Machine) { m.Out[2] = math.MinInt }, 2, api.ErrOut},
		{"two of Out", func(m *api.Machine) { m.Out[2], m.Out[1] = -1, 2 }, 1, api.ErrOut},
	})
}

// P3.2, a Mealy.
func TestCheckMealy(t *testing.T) {
	checkTurned(t, transducer, []turned{
		{"as it is", func(m *api.Machine) {}, 0, api.OK},
		{"one output", func(m *api.Machine) { m.O, m.Out = 1, same(4, 0) }, 0, api.OK},
		{"outputs that are not said", func(m *api.Machine) { m.O = 64 }, 0, api.OK},
		{"one state, one symbol", func(m *api.Machine) { m.K, m.N, m.Next, m.Out = 1, 1, []int{0}, []int{2} }, 0, api.OK},

		{"kind 0", func(m *api.Machine) { m.Kind = 0 }, 0, api.ErrKind},
		{"kind 3", func(m *api.Machine) { m.Kind = 3 }, 0, api.ErrKind},
		{"kind Dfa, three outputs", func(m *api.Machine) { m.Kind = api.Dfa }, 0, api.ErrOut},

		{"K 0", func(m *api.Machine) { m.K, m.Next, m.Out = 0, nil, nil }, 0, api.ErrArg},
		{"K -1", func(m *api.Machine) { m.K = -1 }, 0, api.ErrArg},
		{"K 65", func(m *api.Machine) { m.K, m.Next, m.Out = 65, same(130, 0), same(130, 0) }, 0, api.ErrArg},
		{"K whose product wraps round", func(m *api.Machine) { m.K, m.N, m.Next, m.Out = 1<<62, 4, nil, nil }, 0, api.ErrArg},

		{"O 0", func(m *api.Machine) { m.O = 0 }, 0, api.ErrOut},
		{"O -1", func(m *api.Machine) { m.O = -1 }, 0, api.ErrOut},
		{"O 65", func(m *api.Machine) { m.O = 65 }, 0, api.ErrOut},
		{"O greatest", func(m *api.Machine) { m.O = math.MaxInt }, 0, api.ErrOut},
		{"O least", func(m *api.Machine) { m.O = math.MinInt }, 0, api.ErrOut},

		{"N 0", func(m *api.Machine) { m.N, m.Next, m.Out = 0, nil, nil }, 0, api.ErrMany},
		{"N -1", func(m *api.Machine) { m.N = -1 }, 0, api.ErrMany},
		{"N 1025", func(m *api.Machine) { m.N, m.Next, m.Out = 1025, same(2050, 0), same(2050, 0) }, 0, api.ErrMany},
		{"N whose product wraps round", func(m *api.Machine) { m.N, m.K, m.Next, m.Out = 1<<62, 4, nil, nil }, 0, api.ErrMany},

		{"Next nil", func(m *api.Machine) { m.Next = nil }, 0, api.ErrShape},
		{"Next too short", func(m *api.Machine) { m.Next = m.Next[:3] }, 0, api.ErrShape},
		{"Next too long", func(m *api.Machine) { m.Next = append(m.Next, 0) }, 0, api.ErrShape},
		{"Out nil", func(m *api.Machine) { m.Out = nil }, 0, api.ErrShape},
		{"Out too short", func(m *api.Machine) { m.Out = m.Out[:3] }, 0, api.ErrShape},
		{"Out too long", func(m *api.Machine) { m.Out = append(m.Out, 0) }, 0, api.ErrShape},
		{"Out as a Dfa's", func(m *api.Machine) { m.Out = m.Out[:2] }, 0, api.ErrShape},

		{"Next's first is N", func(m *api.Machine) { m.Next[0] = 2 }, 0, api.ErrState},
		{"Next's last is -1", func(m *api.Machine) { m.Next[3] = -1 }, 3, api.ErrState},
		{"two of Next", func(m *api.Machine) { m.Next[3], m.Next[1] = -1, 2 }, 1, api.ErrState},

		{"Out's first is O", func(m *api.Machine) { m.Out[0] = 3 }, 0, api.ErrOut},
		{"Out's last is O", func(m *api.Machine) { m.Out[3] = 3 }, 3, api.ErrOut},
		{"Out's last is -1", func(m *api.Machine) { m.Out[3] = -1 }, 3, api.ErrOut},
		{"two of Out", func(m *api.Machine) { m.Out[3], m.Out[2] = -1, 3 }, 2, api.ErrOut},
		{"one output, and another one said", func(m *api.Machine) { m.O, m.Out = 1, []int{0, 0, 0, 1} }, 3, api.ErrOut},
	})
}

// P3.2: the limits themselves are allowed, and looked at to the last entry.
func TestCheckWidest(t *testing.T) {
	for _, kind := range []int{api.Dfa, api.Mealy} {
		m := widest(kind)
		if at, e := machine.Check(m); at != 0 || e != api.OK {
			t.Errorf("kind %d: %d, %d", kind, at, e)
		}
		x := m
		x.Next = with(m.Next, 65535, 1024)
		if at, e := machine.Check(x); at != 65535 || e != api.ErrState {
			t.Errorf("kind %d: %d, %d", kind, at, e)
		}
		x = m
		x.Out = with(m.Out, len(m.Out)-1, m.O)
		if at, e := machine.Check(x); at != len(m.Out)-1 || e != api.ErrOut {
			t.Errorf("kind %d: %d, %d", kind, at, e)
		}
	}
}

// P3.2: where several errors apply, the one that is named first comes. Each
// of a Mealy's faults is there or not, in all ways.
func TestCheckFirst(t *testing.T) {
	faults := []turned{
		{"Kind", func(m *api.Machine) { m.Kind = 5 }, 0, api.ErrKind},
		{"K", func(m *api.Machine) { m.K = 0 }, 0, api.ErrArg},
		{"O", func(m *api.Machine) { m.O = 65 }, 0, api.ErrOut},
		{"N", func(m *api.Machine) { m.N = 2000 }, 0, api.ErrMany},
		{"shape", func(m *api.Machine) { m.Next = append(m.Next, 9) }, 0, api.ErrShape},
		{"Next", func(m *api.Machine) { m.Next[3] = 9 }, 3, api.ErrState},
		{"Out", func(m *api.Machine) { m.Out[1] = -9 }, 1, api.ErrOut},
	}
	for there := range 1 << len(faults) {
		m := transducer()
		at, e, name := 0, api.OK, ""
		for i, f := range faults {
			if there>>i&1 == 0 {
				continue
			}
			f.turn(&m)
			name += " " + f.name
			if e == api.OK {
				at, e = f.at, f.e
			}
		}
		if gotAt, got := machine.Check(m); gotAt != at || got != e {
			t.Errorf("faults%s: %d, %d, not %d, %d", name, gotAt, got, at, e)
		}
	}
}

// plainFault reads P3.2 sentence by sentence.
func plainFault(m api.Machine) (int, api.Errno) {
	dfa, mealy := m.Kind == 1, m.Kind == 2
	if !dfa && !mealy {
		return 0, 30
	}
	if m.K < 1 || m.K > 64 {
		return 0, 1
	}
	if dfa && m.O != 2 || mealy && (m.O < 1 || m.O > 64) {
		return 0, 33
	}
	if m.N < 1 || m.N > 1024 {
		return 0, 3
	}
	if len(m.Next) != m.N*m.K || dfa && len(m.Out) != m.N || mealy && len(m.Out) != m.N*m.K {
		return 0, 31
	}
	for i, s := range m.Next {
		if s < 0 || s > m.N-1 {
			return i, 32
		}
	}
	for i, o := range m.Out {
		if o < 0 || o > m.O-1 {
			return i, 33
		}
	}
	return 0, 0
}

func TestCheckAsPlainlyRead(t *testing.T) {
	lists := [][]int{nil, {0}, {1}, {-1}, {2}, {0, 1}, {1, 2}, {0, 0, 3}, {0, 1, 1, 0}, {1, 0, 2, 1}, {3, 0, -1, 0}, same(6, 0), {0, 1, 2, 0, 1, 2}, same(8, 1)}
	for kind := -1; kind <= 3; kind++ {
		for _, k := range []int{-1, 0, 1, 2, 3, 64, 65} {
			for _, o := range []int{-1, 0, 1, 2, 3, 64, 65} {
				for _, n := range []int{-1, 0, 1, 2, 3, 1024, 1025} {
					for _, next := range lists {
						for _, out := range lists {
							m := api.Machine{Kind: kind, K: k, O: o, N: n, Next: next, Out: out}
							at, e := machine.Check(m)
							if wantAt, want := plainFault(m); at != wantAt || e != want {
								t.Fatalf("%v: %d, %d, not %d, %d", m, at, e, wantAt, want)
							}
						}
					}
				}
			}
		}
	}
}

// What stands in the spare room is no entry.
func TestCheckSpareRoom(t *testing.T) {
	m := acceptor()
	m.Next = append(m.Next, 99)[:6]
	m.Out = append(m.Out, 99)[:3]
	if at, e := machine.Check(m); at != 0 || e != api.OK {
		t.Errorf("%d, %d", at, e)
	}
	m.Next = m.Next[:5]
	if at, e := machine.Check(m); at != 0 || e != api.ErrShape {
		t.Errorf("%d, %d", at, e)
	}
}
