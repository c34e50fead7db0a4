package text_test

import (
	"fmt"
	"reflect"
	"strings"
	"testing"

	"tutor/api"
	"tutor/text"
)

// P8.2, P8.3.
func TestExport(t *testing.T) {
	for _, c := range []struct {
		name string
		m    api.Machine
		want string
	}{
		{"the chapter's example", dfa(1, []int{1, 0}, []int{0, 1}), "dfa 1 2\n0 1\n1 0\n"},
		{"a Dfa", acceptor(), acceptorText},
		{"a Mealy", transducer(), transducerText},
		{"the least Dfa", dfa(1, []int{0}, []int{0}), "dfa 1 1\n0 0\n"},
		{"the least Dfa that says 1", dfa(1, []int{0}, []int{1}), "dfa 1 1\n1 0\n"},
		{"the least Mealy", mealy(1, 1, []int{0}, []int{0}), "mealy 1 1 1\n0/0\n"},
		{"a Mealy of one symbol", mealy(1, 2, []int{1, 0}, []int{0, 1}), "mealy 1 2 2\n1/0\n0/1\n"},
		{"a Mealy of one state", mealy(3, 64, []int{0, 0, 0}, []int{63, 9, 10}), "mealy 3 64 1\n0/63 0/9 0/10\n"},
		{"outputs that are not said", mealy(1, 17, []int{0}, []int{0}), "mealy 1 17 1\n0/0\n"},
		{"states that nothing leads to", dfa(1, []int{0, 2, 1}, []int{1, 0, 1}), "dfa 1 3\n1 0\n0 2\n1 1\n"},
		{"as many symbols as may be", dfa(64, make([]int, 64), []int{1}), "dfa 64 1\n1" + strings.Repeat(" 0", 64) + "\n"},
	} {
		if got, e := text.Export(c.m); string(got) != c.want || e != api.OK {
			t.Errorf("%s: %q, %d, not %q", c.name, got, e, c.want)
		}
	}
}

// plainText is P8.2, sentence by sentence.
func plainText(m api.Machine) string {
	var lines []string
	if m.Kind == api.Dfa {
		lines = append(lines, fmt.Sprintf("dfa %d %d", m.K, m.N))
	} else {
		lines = append(lines, fmt.Sprintf("mealy %d %d %d", m.K, m.O, m.N))
	}
	for s := range m.N {
		var parts []string
		if m.Kind == api.Dfa {
			parts = append(parts, fmt.Sprint(m.Out[s]))
		}
		for x := range m.K {
			part := fmt.Sprint(m.Next[s*m.K+x])
			if m.Kind == api.Mealy {
				part += fmt.Sprint("/", m.Out[s*m.K+x])
			}
			parts = append(parts, part)
		}
		lines = append(lines, strings.Join(parts, " "))
	}
	return strings.Join(lines, "\n") + "\n"
}

// P8.2, P8.3; the limits themselves are allowed.
func TestExportAsPlainlyRead(t *testing.T) {
	for _, l := range [][]api.Machine{small(), drawn(), greatest()} {
		for _, m := range l {
			if got, e := text.Export(m); string(got) != plainText(m) || e != api.OK {
				t.Fatalf("kind %d, K %d, O %d, N %d: %.200q, %d", m.Kind, m.K, m.O, m.N, got, e)
			}
		}
	}
}

// P8.3: what Check tells, and nothing beside it.
func TestExportWrongMachines(t *testing.T) {
	for _, start := range []func() api.Machine{acceptor, transducer} {
		for _, f := range faults() {
			m := start()
			f.turn(&m)
			if got, e := text.Export(m); len(got) != 0 || e != f.e {
				t.Errorf("kind %d, %s: %q, %d, not %d", m.Kind, f.name, got, e, f.e)
			}
		}
	}
	for _, c := range []struct {
		name string
		m    api.Machine
		e    api.Errno
	}{
		{"a Dfa of one output", api.Machine{Kind: api.Dfa, K: 1, O: 1, N: 1, Next: []int{0}, Out: []int{0}}, api.ErrOut},
		{"a Dfa without outputs", api.Machine{Kind: api.Dfa, K: 1, O: 0, N: 1, Next: []int{0}, Out: []int{0}}, api.ErrOut},
		{"a Dfa of three outputs", api.Machine{Kind: api.Dfa, K: 1, O: 3, N: 1, Next: []int{0}, Out: []int{0}}, api.ErrOut},
		{"a Dfa that says 2", dfa(1, []int{0}, []int{2}), api.ErrOut},
		{"a Dfa with a Mealy's Out", api.Machine{Kind: api.Dfa, K: 2, O: 2, N: 1, Next: []int{0, 0}, Out: []int{0, 0}}, api.ErrShape},
		{"a Mealy with a Dfa's Out", mealy(2, 2, []int{0, 0}, []int{0}), api.ErrShape},
	} {
		if got, e := text.Export(c.m); len(got) != 0 || e != c.e {
			t.Errorf("%s: %q, %d, not %d", c.name, got, e, c.e)
		}
	}
}

// The signatures are given: what is built on them must not break.
func TestSignatures(t *testing.T) {
	for _, c := range []struct{ got, want any }{
		{text.Export, (func(m api.Machine) ([]byte, api.Errno))(nil)},
		{text.Import, (func(b []byte) (api.Machine, api.Errno, int))(nil)},
		{text.Number, (func(b []byte, at int) (int, int, api.Errno))(nil)},
		{text.Put, (func(n int) []byte)(nil)},
	} {
		if g, w := reflect.TypeOf(c.got), reflect.TypeOf(c.want); g != w {
			t.Errorf("%v, not %v", g, w)
		}
	}
}
