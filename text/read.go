package text

import (
	"strconv"

	"tutor/api"
)

// fault is what is wrong with a text, and the byte at which it stands.
type fault struct {
	e  api.Errno
	at int
}

func (f fault) Error() string {
	return "text: error " + strconv.Itoa(int(f.e)) + " at byte " + strconv.Itoa(f.at)
}

// source is a text and how far it has been read.
type source struct {
	b  []byte
	at int
}

// reader goes on by the bytes that must stand ahead of a number, and by the
// number, which must be from low to high; if it is not, that is e. A text is a
// row of such steps, so one reader, called again and again, reads all of it.
type reader func(ahead string, low, high int, e api.Errno) (int, error)

// number is what a reader does.
func (s *source) number(ahead string, low, high int, e api.Errno) (int, error) {
	if err := s.skip(ahead); err != nil {
		return 0, err
	}
	n, next, form := Number(s.b, s.at)
	if form != api.OK {
		return 0, fault{form, next}
	}
	if n < low || n > high {
		return 0, fault{e, s.at}
	}
	s.at = next
	return n, nil
}

// skip goes on behind bytes that must stand there.
func (s *source) skip(expected string) error {
	for i := range len(expected) {
		if s.at == len(s.b) || s.b[s.at] != expected[i] {
			return fault{api.ErrForm, s.at}
		}
		s.at++
	}
	return nil
}

// end asks for the last line break, and for nothing behind it.
func (s *source) end() error {
	if err := s.skip("\n"); err != nil {
		return err
	}
	if s.at < len(s.b) {
		return fault{api.ErrForm, s.at}
	}
	return nil
}

func readMachine(b []byte) (m api.Machine, err error) {
	if len(b) > api.MaxText {
		return m, fault{api.ErrLong, 0}
	}
	s := source{b: b}
	read := s.number
	if m, err = readSizes(read, kindOf(b)); err != nil {
		return m, err
	}
	for range m.N {
		if err = readState(read, &m); err != nil {
			return m, err
		}
	}
	return m, s.end()
}

// kindOf takes what does not begin as a Dfa's text for a Mealy's: if it is
// neither, the first byte is wrong there too.
func kindOf(b []byte) int {
	if len(b) > 0 && b[0] == 'd' {
		return api.Dfa
	}
	return api.Mealy
}

// readSizes reads the first line, but for the line break.
func readSizes(read reader, kind int) (m api.Machine, err error) {
	m = api.Machine{Kind: kind, O: 2}
	name := "dfa "
	if kind == api.Mealy {
		name = "mealy "
	}
	if m.K, err = read(name, 1, api.MaxAlphabet, api.ErrArg); err != nil {
		return m, err
	}
	if kind == api.Mealy {
		if m.O, err = read(" ", 1, api.MaxOutputs, api.ErrOut); err != nil {
			return m, err
		}
	}
	m.N, err = read(" ", 1, api.MaxStates, api.ErrMany)
	return m, err
}

// readState reads the next state's line into m's lists, the line break ahead
// of it included.
func readState(read reader, m *api.Machine) error {
	if m.Kind == api.Dfa {
		return readDfaState(read, m)
	}
	return readMealyState(read, m)
}

func readDfaState(read reader, m *api.Machine) error {
	said, err := read("\n", 0, m.O-1, api.ErrOut)
	if err != nil {
		return err
	}
	m.Out = append(m.Out, said)
	for range m.K {
		next, err := read(" ", 0, m.N-1, api.ErrState)
		if err != nil {
			return err
		}
		m.Next = append(m.Next, next)
	}
	return nil
}

func readMealyState(read reader, m *api.Machine) error {
	ahead := "\n"
	for range m.K {
		next, err := read(ahead, 0, m.N-1, api.ErrState)
		if err != nil {
			return err
		}
		said, err := read("/", 0, m.O-1, api.ErrOut)
		if err != nil {
			return err
		}
		m.Next = append(m.Next, next)
		m.Out = append(m.Out, said)
		ahead = " "
	}
	return nil
}
