package dot

import (
	"iter"
	"slices"

	"tutor/api"
	"tutor/text"
)

// writer writes a machine's drawing. Its functions tell what each Kind draws
// in its own way: a state's shape, and what stands at a way. The way from
// state s by symbol x has the number s K + x, as in Next.
type writer struct {
	m     api.Machine
	shape func(s int) string
	label func(way int) string
}

func newWriter(m api.Machine, labels []string) writer {
	w := writer{m: m, shape: plainShape, label: byName(m, labels)}
	if m.Kind == api.Dfa {
		w.shape = byOut(m, w.shape)
	} else {
		w.label = withSaid(m, w.label)
	}
	return w
}

func plainShape(int) string {
	return "circle"
}

// byOut marks the states that say 1.
func byOut(m api.Machine, shape func(s int) string) func(s int) string {
	return func(s int) string {
		if m.Out[s] == 1 {
			return "double" + shape(s)
		}
		return shape(s)
	}
}

func byName(m api.Machine, labels []string) func(way int) string {
	return func(way int) string { return labels[way%m.K] }
}

// withSaid adds what is said on the way.
func withSaid(m api.Machine, label func(way int) string) func(way int) string {
	return func(way int) string { return label(way) + "/" + number(m.Out[way]) }
}

func (w writer) write() []byte {
	var b []byte
	for line := range w.lines() {
		b = append(b, line...)
		b = append(b, '\n')
	}
	return b
}

// lines gives the drawing's lines, without their line breaks.
func (w writer) lines() iter.Seq[string] {
	return oneBehindTheOther(
		these("digraph m {", "  rankdir=LR", "  start [shape=point]"),
		each(w.m.N, w.stateLine),
		these("  start -> 0"),
		each(w.m.N*w.m.K, w.wayLine),
		these("}"),
	)
}

func (w writer) stateLine(s int) string {
	return "  " + number(s) + " [shape=" + w.shape(s) + "]"
}

func (w writer) wayLine(way int) string {
	return "  " + number(way/w.m.K) + " -> " + number(w.m.Next[way]) + ` [label="` + w.label(way) + `"]`
}

func these(lines ...string) iter.Seq[string] {
	return slices.Values(lines)
}

// each gives the lines that a function tells of the numbers below n.
func each(n int, line func(i int) string) iter.Seq[string] {
	return func(yield func(string) bool) {
		for i := range n {
			if !yield(line(i)) {
				return
			}
		}
	}
}

func oneBehindTheOther(parts ...iter.Seq[string]) iter.Seq[string] {
	return func(yield func(string) bool) {
		for _, part := range parts {
			for line := range part {
				if !yield(line) {
					return
				}
			}
		}
	}
}

func number(n int) string {
	return string(text.Put(n))
}
