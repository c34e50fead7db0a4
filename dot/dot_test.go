package dot_test

import (
	"fmt"
	"reflect"
	"strings"
	"testing"

	"tutor/api"
	"tutor/dot"
	"tutor/glyph"
)

// joined lays lines out as a drawing has them.
func joined(lines ...string) string {
	return strings.Join(lines, "\n") + "\n"
}

// P9.2: the chapter's example, and some more, byte by byte.
func TestDot(t *testing.T) {
	for _, c := range []struct {
		name  string
		m     api.Machine
		names string
		want  string
	}{
		{"the chapter's example", dfa(1, []int{0}, []int{1}), "a",
			"digraph m {\n  rankdir=LR\n  start [shape=point]\n  0 [shape=doublecircle]\n  start -> 0\n  0 -> 0 [label=\"a\"]\n}\n"},
		{"a Dfa that says 0", dfa(1, []int{0}, []int{0}), "a",
			"digraph m {\n  rankdir=LR\n  start [shape=point]\n  0 [shape=circle]\n  start -> 0\n  0 -> 0 [label=\"a\"]\n}\n"},
		{"the least Mealy", mealy(1, 1, []int{0}, []int{0}), "a",
			"digraph m {\n  rankdir=LR\n  start [shape=point]\n  0 [shape=circle]\n  start -> 0\n  0 -> 0 [label=\"a/0\"]\n}\n"},
		{"a Mealy that says 1", mealy(1, 2, []int{0}, []int{1}), "/",
			"digraph m {\n  rankdir=LR\n  start [shape=point]\n  0 [shape=circle]\n  start -> 0\n  0 -> 0 [label=\"//1\"]\n}\n"},
		{"a Dfa", acceptor(), "a\"", joined(
			`digraph m {`, `  rankdir=LR`, `  start [shape=point]`,
			`  0 [shape=circle]`, `  1 [shape=doublecircle]`, `  2 [shape=doublecircle]`, `  3 [shape=circle]`,
			`  start -> 0`,
			`  0 -> 2 [label="a"]`, `  0 -> 0 [label="\""]`, `  1 -> 1 [label="a"]`, `  1 -> 3 [label="\""]`,
			`  2 -> 2 [label="a"]`, `  2 -> 0 [label="\""]`, `  3 -> 1 [label="a"]`, `  3 -> 0 [label="\""]`,
			`}`)},
		{"a Mealy", transducer(), "\\é", joined(
			`digraph m {`, `  rankdir=LR`, `  start [shape=point]`,
			`  0 [shape=circle]`, `  1 [shape=circle]`, `  2 [shape=circle]`, `  3 [shape=circle]`,
			`  start -> 0`,
			`  0 -> 3 [label="\\/1"]`, `  0 -> 0 [label="é/2"]`, `  1 -> 2 [label="\\/3"]`, `  1 -> 1 [label="é/10"]`,
			`  2 -> 3 [label="\\/1"]`, `  2 -> 2 [label="é/4"]`, `  3 -> 2 [label="\\/3"]`, `  3 -> 3 [label="é/10"]`,
			`}`)},
		{"one name for both symbols", dfa(2, []int{1, 0, 1, 1}, []int{0, 1}), "aa", joined(
			`digraph m {`, `  rankdir=LR`, `  start [shape=point]`, `  0 [shape=circle]`, `  1 [shape=doublecircle]`, `  start -> 0`,
			`  0 -> 1 [label="a"]`, `  0 -> 0 [label="a"]`, `  1 -> 1 [label="a"]`, `  1 -> 1 [label="a"]`, `}`)},
		{"states that nothing leads to", dfa(1, []int{0, 2, 1}, []int{1, 0, 1}), "0", joined(
			`digraph m {`, `  rankdir=LR`, `  start [shape=point]`, `  0 [shape=doublecircle]`, `  1 [shape=circle]`, `  2 [shape=doublecircle]`, `  start -> 0`,
			`  0 -> 0 [label="0"]`, `  1 -> 2 [label="0"]`, `  2 -> 1 [label="0"]`, `}`)},
	} {
		if got, e := dot.Dot(c.m, []rune(c.names)); string(got) != c.want || e != api.OK {
			t.Errorf("%s: %q, %d, not %q", c.name, got, e, c.want)
		}
	}
}

// plainDot is P9.2, sentence by sentence.
func plainDot(m api.Machine, names []rune) string {
	var b strings.Builder
	fmt.Fprintln(&b, "digraph m {")
	fmt.Fprintln(&b, "  rankdir=LR")
	fmt.Fprintln(&b, "  start [shape=point]")
	for s := range m.N {
		if m.Kind == api.Dfa && m.Out[s] == 1 {
			fmt.Fprintf(&b, "  %d [shape=doublecircle]\n", s)
		} else {
			fmt.Fprintf(&b, "  %d [shape=circle]\n", s)
		}
	}
	fmt.Fprintln(&b, "  start -> 0")
	for s := range m.N {
		for x := range m.K {
			label, _ := plainLabel(names[x])
			if m.Kind == api.Mealy {
				label = fmt.Sprintf("%s/%d", label, m.Out[s*m.K+x])
			}
			fmt.Fprintf(&b, "  %d -> %d [label=\"%s\"]\n", s, m.Next[s*m.K+x], label)
		}
	}
	fmt.Fprintln(&b, "}")
	return b.String()
}

// P9.2; the limits themselves are allowed.
func TestDotAsPlainlyRead(t *testing.T) {
	for _, l := range [][]api.Machine{small(), drawn(), greatest()} {
		for _, m := range l {
			for _, names := range namings(m.K) {
				if got, e := dot.Dot(m, names); string(got) != plainDot(m, names) || e != api.OK {
					t.Fatalf("kind %d, K %d, O %d, N %d, names %q: %.200q, %d", m.Kind, m.K, m.O, m.N, string(names), got, e)
				}
			}
		}
	}
}

// P9.2: each line but the first and the last begins with two blanks, and a
// line break stands behind each one, the last one too.
func TestDotLines(t *testing.T) {
	for _, m := range drawn() {
		got, _ := dot.Dot(m, glyph.Default(m.K))
		lines := strings.Split(string(got), "\n")
		last := len(lines) - 1
		if lines[last] != "" || lines[last-1] != "}" || lines[0] != "digraph m {" {
			t.Fatalf("%v: %q", m, got)
		}
		for _, line := range lines[1 : last-1] {
			if !strings.HasPrefix(line, "  ") || strings.HasPrefix(line, "   ") || strings.HasSuffix(line, " ") {
				t.Fatalf("%v: %q", m, line)
			}
		}
	}
}

// P9.2: what Check tells, and nothing beside it, whatever the names are.
func TestDotWrongMachines(t *testing.T) {
	for _, start := range []func() api.Machine{acceptor, transducer} {
		for _, f := range faults() {
			m := start()
			f.turn(&m)
			for _, names := range [][]rune{{'a', 'b'}, {'a'}, {' '}, nil, {' ', -1}, {'a', 'b', 'c'}} {
				if got, e := dot.Dot(m, names); len(got) != 0 || e != f.e {
					t.Errorf("kind %d, %s, names %q: %q, %d, not %d", m.Kind, f.name, names, got, e, f.e)
				}
			}
		}
	}
	for _, c := range []struct {
		name string
		m    api.Machine
		e    api.Errno
	}{
		{"a Dfa of one output", api.Machine{Kind: api.Dfa, K: 1, O: 1, N: 1, Next: []int{0}, Out: []int{0}}, api.ErrOut},
		{"a Dfa of three outputs", api.Machine{Kind: api.Dfa, K: 1, O: 3, N: 1, Next: []int{0}, Out: []int{0}}, api.ErrOut},
		{"a Dfa that says 2", dfa(1, []int{0}, []int{2}), api.ErrOut},
		{"a Dfa with a Mealy's Out", api.Machine{Kind: api.Dfa, K: 2, O: 2, N: 1, Next: []int{0, 0}, Out: []int{0, 0}}, api.ErrShape},
		{"a Mealy with a Dfa's Out", mealy(2, 2, []int{0, 0}, []int{0}), api.ErrShape},
	} {
		if got, e := dot.Dot(c.m, glyph.Default(c.m.K)); len(got) != 0 || e != c.e {
			t.Errorf("%s: %q, %d, not %d", c.name, got, e, c.e)
		}
	}
}

// P9.2: not just K names, good ones or not.
func TestDotNumberOfNames(t *testing.T) {
	long := make([]rune, 1000)
	for i := range long {
		long[i] = 'a'
	}
	for _, m := range []api.Machine{acceptor(), transducer()} {
		for _, names := range [][]rune{nil, {}, {'a'}, {'a', 'b', 'c'}, {' '}, {-1}, {'a', ' ', 'b'}, {' ', -1, 0xd800}, {'a', 'b', ' '}, glyph.Default(64), long} {
			if got, e := dot.Dot(m, names); len(got) != 0 || e != api.ErrArg {
				t.Errorf("kind %d, %d names: %q, %d", m.Kind, len(names), got, e)
			}
		}
		// Names in the spare room do not count.
		room := []rune{'a', 'b', 'c'}
		if got, e := dot.Dot(m, room[:1]); len(got) != 0 || e != api.ErrArg {
			t.Errorf("kind %d, one name and spare room: %q, %d", m.Kind, got, e)
		}
		if got, e := dot.Dot(m, room[:2]); string(got) != plainDot(m, room[:2]) || e != api.OK {
			t.Errorf("kind %d, two names and spare room: %q, %d", m.Kind, got, e)
		}
	}
	for n := range 67 {
		m := dfa(64, make([]int, 64), []int{0})
		want := api.ErrArg
		if n == 64 {
			want = api.OK
		}
		if got, e := dot.Dot(m, long[:n]); e != want || (len(got) == 0) != (e != api.OK) {
			t.Errorf("%d names of 64 symbols: %q, %d", n, got, e)
		}
	}
}

// P9.2: a name that is none, first or last, alone or beside others.
func TestDotWrongNames(t *testing.T) {
	for _, r := range wrongNames() {
		for _, names := range [][]rune{{r}, {r, 'b'}, {'a', r}, {r, r}, {'a', r, 'c'}, {'a', 'b', r}, {' ', r, -1}} {
			for _, kind := range []int{api.Dfa, api.Mealy} {
				d := numbers(7)
				m := d.machine(kind, len(names), 3, 4)
				if got, e := dot.Dot(m, names); len(got) != 0 || e != api.ErrRune {
					t.Errorf("kind %d, names %x: %q, %d", kind, names, got, e)
				}
			}
		}
	}
	for x := range 64 {
		names := glyph.Default(64)
		names[x] = ' '
		if got, e := dot.Dot(dfa(64, make([]int, 64), []int{0}), names); len(got) != 0 || e != api.ErrRune {
			t.Errorf("name %d: %q, %d", x, got, e)
		}
	}
}

// The signatures are given: what is built on them must not break.
func TestSignatures(t *testing.T) {
	for _, c := range []struct{ got, want any }{
		{dot.Dot, (func(m api.Machine, names []rune) ([]byte, api.Errno))(nil)},
		{dot.Label, (func(names []rune, x int) (string, api.Errno))(nil)},
	} {
		if g, w := reflect.TypeOf(c.got), reflect.TypeOf(c.want); g != w {
			t.Errorf("%v, not %v", g, w)
		}
	}
}
