package text_test

import (
	"regexp"

	"tutor/api"
	"tutor/text"
)

// imported is what Import tells.
type imported struct {
	m  api.Machine
	e  api.Errno
	at int
}

func importOf(s string) (r imported) {
	r.m, r.e, r.at = text.Import([]byte(s))
	return r
}

func equalImported(a, b imported) bool {
	return equalMachines(a.m, b.m) && a.e == b.e && a.at == b.at
}

func wrong(e api.Errno, at int) imported {
	return imported{e: e, at: at}
}

var notDigits = regexp.MustCompile(`^[^0-9]*`)

// plainImport reads P8.2 and P8.3 in another way: the text is taken apart into
// runs of digits and runs of other bytes; which bytes and which numbers may be
// there is told by how many numbers stand ahead.
func plainImport(s string) imported {
	if len(s) > api.MaxText {
		return wrong(api.ErrLong, 0)
	}
	m := api.Machine{Kind: api.Mealy}
	if s != "" && s[0] == 'd' {
		m.Kind, m.O = api.Dfa, 2
	}
	at := 0
	for i := 0; i < numbersOf(m); i++ {
		between := notDigits.FindString(s[at:])
		if n := common(between, bytesAhead(m, i)); n < len(between) || n < len(bytesAhead(m, i)) {
			return wrong(api.ErrForm, at+n)
		}
		at += len(between)
		r := plainNumber(s, at)
		if r.e != api.OK {
			return wrong(r.e, r.next)
		}
		low, high, e := bounds(m, i)
		if r.n < low || r.n > high {
			return wrong(e, at)
		}
		keep(&m, i, r.n)
		at = r.next
	}
	if n := common(s[at:], "\n"); n == 0 || len(s) > at+1 {
		return wrong(api.ErrForm, at+n)
	}
	return imported{m, api.OK, len(s)}
}

func common(a, b string) int {
	n := 0
	for n < len(a) && n < len(b) && a[n] == b[n] {
		n++
	}
	return n
}

// sizes tells how many numbers the first line has.
func sizes(m api.Machine) int {
	if m.Kind == api.Dfa {
		return 2
	}
	return 3
}

// perLine tells how many numbers a state's line has.
func perLine(m api.Machine) int {
	if m.Kind == api.Dfa {
		return 1 + m.K
	}
	return 2 * m.K
}

func numbersOf(m api.Machine) int {
	return sizes(m) + m.N*perLine(m)
}

// bytesAhead tells what stands ahead of number i, counted from 0 on.
func bytesAhead(m api.Machine, i int) string {
	inLine := i - sizes(m)
	switch {
	case i == 0 && m.Kind == api.Dfa:
		return "dfa "
	case i == 0:
		return "mealy "
	case inLine < 0:
		return " "
	case inLine%perLine(m) == 0:
		return "\n"
	case m.Kind == api.Mealy && inLine%2 == 1:
		return "/"
	}
	return " "
}

// isSaid tells whether number i, of a state's line, is what is said.
func isSaid(m api.Machine, i int) bool {
	inLine := i - sizes(m)
	if m.Kind == api.Dfa {
		return inLine%perLine(m) == 0
	}
	return inLine%2 == 1
}

func bounds(m api.Machine, i int) (low, high int, e api.Errno) {
	switch {
	case i == 0:
		return 1, 64, api.ErrArg
	case i == sizes(m)-1:
		return 1, 1024, api.ErrMany
	case i < sizes(m):
		return 1, 64, api.ErrOut
	case isSaid(m, i):
		return 0, m.O - 1, api.ErrOut
	}
	return 0, m.N - 1, api.ErrState
}

func keep(m *api.Machine, i, n int) {
	switch {
	case i == 0:
		m.K = n
	case i == sizes(*m)-1:
		m.N = n
	case i < sizes(*m):
		m.O = n
	case isSaid(*m, i):
		m.Out = append(m.Out, n)
	default:
		m.Next = append(m.Next, n)
	}
}
