package text

import "tutor/api"

// writeSizes begins m's text: its first line, but for the line break. A text
// is a row of numbers, each with some bytes ahead of it: so a line's break is
// written with what stands behind it.
func writeSizes(m api.Machine) []byte {
	var b []byte
	if m.Kind == api.Dfa {
		b = writeNumber(b, "dfa ", m.K)
	} else {
		b = writeNumber(b, "mealy ", m.K)
		b = writeNumber(b, " ", m.O)
	}
	return writeNumber(b, " ", m.N)
}

// writeState goes on with the line of state s.
func writeState(b []byte, m api.Machine, s int) []byte {
	if m.Kind == api.Dfa {
		return writeDfaState(b, m, s)
	}
	return writeMealyState(b, m, s)
}

func writeDfaState(b []byte, m api.Machine, s int) []byte {
	b = writeNumber(b, "\n", m.Out[s])
	for x := range m.K {
		b = writeNumber(b, " ", m.Next[s*m.K+x])
	}
	return b
}

func writeMealyState(b []byte, m api.Machine, s int) []byte {
	ahead := "\n"
	for x := range m.K {
		b = writeNumber(b, ahead, m.Next[s*m.K+x])
		b = writeNumber(b, "/", m.Out[s*m.K+x])
		ahead = " "
	}
	return b
}

func writeNumber(b []byte, ahead string, n int) []byte {
	b = append(b, ahead...)
	return append(b, Put(n)...)
}
