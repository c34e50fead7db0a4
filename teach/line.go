package teach

import (
	"tutor/api"
	"tutor/text"
)

// The bytes by which an answer's line begins.
const (
	saidLetter = 'o'
	yesLetter  = 'y'
	noLetter   = 'n'
)

// writeLine goes on with the reply's line; nil has none.
func writeLine(b []byte, r reply) []byte {
	switch r := r.(type) {
	case said:
		return writeNumbers(b, saidLetter, r.out)
	case yes:
		return writeNumbers(b, yesLetter, nil)
	case no:
		return writeNumbers(b, noLetter, r.word)
	}
	return b
}

func writeNumbers(b []byte, letter byte, l []int) []byte {
	b = append(b, letter)
	for _, n := range l {
		b = append(b, ' ')
		b = append(b, text.Put(n)...)
	}
	return append(b, '\n')
}

// source is a text and how far it has been read. Beside an error it stands at
// the fault.
type source struct {
	b  []byte
	at int
}

func (s *source) answers() (l []api.Answer, e api.Errno) {
	for s.at < len(s.b) {
		if len(l) == api.MaxWords {
			return nil, api.ErrMany
		}
		r, e := s.line()
		if e != api.OK {
			return nil, e
		}
		l = append(l, r.answer())
	}
	return l, api.OK
}

// line reads a line of which at least one byte is there.
func (s *source) line() (r reply, e api.Errno) {
	var l []int
	switch s.b[s.at] {
	case saidLetter:
		l, e = s.numbers()
		r = said{l}
	case yesLetter:
		s.at++
		r = yes{}
	case noLetter:
		l, e = s.numbers()
		r = no{l}
	default:
		e = api.ErrForm
	}
	if e != api.OK {
		return nil, e
	}
	return r, s.lineBreak()
}

// numbers goes on behind a letter and the numbers that follow it.
func (s *source) numbers() (l []int, e api.Errno) {
	s.at++
	for s.at < len(s.b) && s.b[s.at] == ' ' {
		// The blank is one too many, whatever stands behind it: it is the
		// first fault from the left.
		if len(l) == api.MaxWord {
			return nil, api.ErrLong
		}
		n, next, e := text.Number(s.b, s.at+1)
		s.at = next
		if e != api.OK {
			return nil, e
		}
		l = append(l, n)
	}
	return l, api.OK
}

func (s *source) lineBreak() api.Errno {
	if s.at == len(s.b) || s.b[s.at] != '\n' {
		return api.ErrForm
	}
	s.at++
	return api.OK
}
