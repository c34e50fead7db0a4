package block

import (
	"tutor/api"
	"tutor/machine"
)

// sieve parts states. A class is settled if no class has, by any symbol, both
// states that lead into it and others. All states as one class are settled,
// since every way leads into it. Where a settled class is split, it is enough
// to settle one of the two by splitting: the other one is settled by that. So
// one waits, and the lesser one costs less.
type sieve struct {
	part    *Part
	waiting []int  // classes by which is still to be split, one behind the other
	waits   []bool // of a class: whether it is among them
}

// Hopcroft tells which states are alike.
func Hopcroft(m api.Machine) (classes []int, e api.Errno) {
	if _, e = machine.Check(m); e != api.OK {
		return nil, e
	}
	s := &sieve{part: newPart(m.N), waits: make([]bool, 1)}
	s.splitBySaid(m)
	s.splitByWays(m)
	return byLeast(s.part.class), api.OK
}

// splitBySaid parts states of which one says something else than the other, in
// it (Dfa) or on its way by one symbol (Mealy).
func (s *sieve) splitBySaid(m api.Machine) {
	perState := len(m.Out) / m.N
	for i := range perState {
		saying := make([][]int, m.O)
		for state := range m.N {
			o := m.Out[state*perState+i]
			saying[o] = append(saying[o], state)
		}
		for _, l := range saying {
			s.split(l)
		}
	}
}

// splitByWays goes on until all classes are settled.
func (s *sieve) splitByWays(m api.Machine) {
	from := leadingTo(m)
waiting:
	for len(s.waiting) > 0 {
		by := s.take()
		for x := range m.K {
			if s.part.Count() == m.N {
				// Each state is alone: nothing is left to be split.
				break waiting
			}
			var l []int
			for _, state := range by {
				l = append(l, from[state*m.K+x]...)
			}
			s.split(l)
		}
	}
}

// take tells the states of the first class that waits. It may itself be split
// while they are split by, but that moves states within this span alone.
func (s *sieve) take() []int {
	c := s.waiting[0]
	s.waiting = s.waiting[1:]
	s.waits[c] = false
	return s.part.span(c)
}

// split makes one half of each class that is split wait, both if the class
// does already.
func (s *sieve) split(l []int) {
	for _, c := range s.part.split(l) {
		s.waits = append(s.waits, false)
		half := c.made
		if !s.waits[c.from] && len(s.part.span(c.from)) < len(s.part.span(c.made)) {
			half = c.from
		}
		s.waiting = append(s.waiting, half)
		s.waits[half] = true
	}
}

// leadingTo tells of each state and symbol the states that lead to it by this
// symbol, laid out as m.Next is.
func leadingTo(m api.Machine) [][]int {
	from := make([][]int, len(m.Next))
	for way, to := range m.Next {
		x := way % m.K
		from[to*m.K+x] = append(from[to*m.K+x], way/m.K)
	}
	return from
}

// byLeast numbers classes anew, in the order of their least states: that is
// the order in which they first come.
func byLeast(class []int) []int {
	number := map[int]int{}
	classes := make([]int, len(class))
	for state, c := range class {
		if _, there := number[c]; !there {
			number[c] = len(number)
		}
		classes[state] = number[c]
	}
	return classes
}
