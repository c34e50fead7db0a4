package dot_test

import (
	"bytes"
	"fmt"
	"slices"
	"strings"
	"testing"

	"tutor/api"
	"tutor/dot"
	"tutor/glyph"
)

func drawing(t *testing.T, m api.Machine, names []rune) string {
	t.Helper()
	b, e := dot.Dot(m, names)
	if e != api.OK {
		t.Fatalf("%v: %d", m, e)
	}
	return string(b)
}

// P9.3: how many lines there are.
func TestHowManyLines(t *testing.T) {
	for _, m := range slices.Concat(small(), drawn(), greatest()) {
		for _, names := range namings(m.K) {
			b, _ := dot.Dot(m, names)
			if n := bytes.Count(b, []byte("\n")); n != m.N+m.N*m.K+5 {
				t.Fatalf("kind %d, K %d, N %d: %d lines", m.Kind, m.K, m.N, n)
			}
		}
	}
}

// P9.3: two machines that are drawn alike are the same, but for a Mealy's O;
// and Mealys that part in O alone are drawn alike.
func TestOneDrawingEach(t *testing.T) {
	alike := 0
	for k := 1; k <= 3; k++ {
		for _, names := range namings(k) {
			seen := map[string]api.Machine{}
			for _, m := range small() {
				if m.K != k {
					continue
				}
				s := drawing(t, m, names)
				other, ok := seen[s]
				if ok && (m.Kind != api.Mealy || !equalButO(m, other)) {
					t.Fatalf("%q is drawn of %v and of %v", s, other, m)
				}
				if ok {
					alike++
				}
				seen[s] = m
			}
		}
	}
	if alike == 0 {
		t.Error("no two machines were drawn alike: that tells little")
	}
	for _, o := range []int{3, 4, 10, 63, 64} {
		m := mealy(1, o, []int{1, 0}, []int{0, 2})
		if got, want := drawing(t, m, []rune{'a'}), drawing(t, mealy(1, 5, []int{1, 0}, []int{0, 2}), []rune{'a'}); got != want {
			t.Errorf("O %d: %q, not %q", o, got, want)
		}
	}
}

// P9.3: one entry that is another one is to be seen.
func TestOneEntryOtherwise(t *testing.T) {
	for _, m := range append(drawn(), acceptor(), transducer()) {
		names := glyph.Default(m.K)
		before := drawing(t, m, names)
		for _, l := range []struct {
			list  []int
			below int
		}{{m.Next, m.N}, {m.Out, m.O}} {
			for at := range l.list {
				if len(l.list) > 100 && at%17 != 0 {
					continue
				}
				old := l.list[at]
				l.list[at] = (old + 1) % l.below
				if after := drawing(t, m, names); (after == before) != (l.list[at] == old) {
					t.Fatalf("kind %d, K %d, N %d: entry %d was %d, is %d", m.Kind, m.K, m.N, at, old, l.list[at])
				}
				l.list[at] = old
			}
		}
	}
}

// P9.3: a drawing can be read again, so it tells all but a Mealy's O.
func TestReadAgain(t *testing.T) {
	for _, m := range slices.Concat(small(), drawn(), greatest()) {
		for _, names := range namings(m.K) {
			got, err := machineOf(drawing(t, m, names), names)
			if err != nil || !equalButO(got, m) {
				t.Fatalf("kind %d, K %d, N %d, names %q: %v", m.Kind, m.K, m.N, string(names), err)
			}
		}
	}
}

// machineOf reads a drawing, going by the names alone; O it leaves out.
func machineOf(s string, names []rune) (m api.Machine, err error) {
	m.K = len(names)
	lines := strings.Split(strings.TrimSuffix(s, "\n"), "\n")
	m.N = (len(lines) - 5) / (1 + m.K)
	states, ways := lines[3:3+m.N], lines[4+m.N:len(lines)-1]
	for i, line := range ways {
		var from, to int
		if _, err = fmt.Sscanf(line, "  %d -> %d", &from, &to); err != nil || from != i/m.K {
			return m, fmt.Errorf("%q: %v", line, err)
		}
		m.Next = append(m.Next, to)
		_, label, _ := strings.Cut(line, `[label="`)
		name, _ := plainLabel(names[i%m.K])
		if !strings.HasPrefix(label, name) {
			return m, fmt.Errorf("%q has not %q", line, name)
		}
		var said int
		if _, err = fmt.Sscanf(label[len(name):], `/%d"]`, &said); err == nil {
			m.Kind, m.Out = api.Mealy, append(m.Out, said)
		} else if label[len(name):] != `"]` {
			return m, fmt.Errorf("%q ends otherwise", line)
		}
	}
	if m.Kind == api.Mealy {
		return m, nil
	}
	m.Kind = api.Dfa
	for s, line := range states {
		said := slices.Index([]string{"circle]", "doublecircle]"}, strings.TrimPrefix(line, fmt.Sprintf("  %d [shape=", s)))
		m.Out = append(m.Out, said)
	}
	return m, nil
}
