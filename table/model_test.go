package table_test

import (
	"math/rand/v2"
	"slices"
	"testing"

	"tutor/api"
	"tutor/table"
	"tutor/word"
)

// pair is a word and what is said of it.
type pair struct {
	w, out []int
}

// plain reads the chapter: all it has is what came, as it came.
type plain struct {
	kind, k, o int
	rows, cols [][]int
	puts       []pair
}

func newPlain(kind, k, o int) *plain {
	p := &plain{kind: kind, k: k, o: o, rows: [][]int{{}}}
	if kind == api.Dfa {
		p.cols = [][]int{{}}
		return p
	}
	for x := range k {
		p.cols = append(p.cols, []int{x})
	}
	return p
}

func has(l [][]int, w []int) bool {
	return slices.ContainsFunc(l, func(v []int) bool { return slices.Equal(v, w) })
}

func (p *plain) addRow(w []int) api.Errno {
	if _, e := word.Check(w, p.k); e != api.OK {
		return e
	}
	if len(w) == 0 || !has(p.rows, w[:len(w)-1]) {
		return api.ErrArg
	}
	if !has(p.rows, w) {
		if len(p.rows) == 1024 {
			return api.ErrMany
		}
		p.rows = append(p.rows, slices.Clone(w))
	}
	return api.OK
}

func (p *plain) addCol(w []int) api.Errno {
	if _, e := word.Check(w, p.k); e != api.OK {
		return e
	}
	if p.kind == api.Mealy && len(w) == 0 {
		return api.ErrArg
	}
	if !has(p.cols, w) {
		if len(p.cols) == 1024 {
			return api.ErrMany
		}
		p.cols = append(p.cols, slices.Clone(w))
	}
	return api.OK
}

func (p *plain) put(w, out []int) api.Errno {
	if _, e := word.Check(w, p.k); e != api.OK {
		return e
	}
	want := len(w)
	if p.kind == api.Dfa {
		want = 1
	}
	if len(out) != want || slices.ContainsFunc(out, func(x int) bool { return x < 0 || x >= p.o }) {
		return api.ErrAnswer
	}
	if was, ok := p.said(w); ok && !slices.Equal(was, out) {
		return api.ErrClash
	}
	p.puts = append(p.puts, pair{slices.Clone(w), slices.Clone(out)})
	return api.OK
}

func (p *plain) said(w []int) (out []int, ok bool) {
	for _, x := range p.puts {
		if slices.Equal(x.w, w) {
			return x.out, true
		}
	}
	return nil, false
}

// lines lists the rows, then the edges.
func (p *plain) lines() [][]int {
	l := slices.Clone(p.rows)
	for _, u := range p.rows {
		for x := range p.k {
			l = append(l, word.Join(u, []int{x}))
		}
	}
	return l
}

// cell reads P13.3: nothing, where nothing is said.
func (p *plain) cell(u, e []int) []int {
	out, ok := p.said(word.Join(u, e))
	if ok && p.kind == api.Mealy {
		return out[len(out)-len(e):]
	}
	return out
}

func (p *plain) missing() (w []int, ok bool) {
	for _, u := range p.lines() {
		for _, e := range p.cols {
			v := word.Join(u, e)
			if _, known := p.said(v); !known && len(v) <= 4096 && (!ok || word.Compare(v, w) < 0) {
				w, ok = v, true
			}
		}
	}
	return w, ok
}

func (p *plain) alike(u, v []int) bool {
	return !slices.ContainsFunc(p.cols, func(e []int) bool { return !slices.Equal(p.cell(u, e), p.cell(v, e)) })
}

// rowOf tells the place of the first row to which u is alike; -1, if there is
// none.
func (p *plain) rowOf(u []int) int {
	return slices.IndexFunc(p.rows, func(r []int) bool { return p.alike(r, u) })
}

func (p *plain) open() (w []int, ok bool) {
	if _, missing := p.missing(); missing {
		return nil, false
	}
	for _, u := range p.lines()[len(p.rows):] {
		if p.rowOf(u) < 0 {
			return u, true
		}
	}
	return nil, false
}

func (p *plain) torn() (col []int, ok bool) {
	if _, missing := p.missing(); missing {
		return nil, false
	}
	for i, a := range p.rows {
		for _, b := range p.rows[i+1:] {
			if !p.alike(a, b) {
				continue
			}
			for x := range p.k {
				for _, e := range p.cols {
					col = word.Join([]int{x}, e)
					if !slices.Equal(p.cell(word.Join(a, []int{x}), e), p.cell(word.Join(b, []int{x}), e)) {
						return col, true
					}
				}
			}
		}
	}
	return nil, false
}

// hypo numbers the states as they are come to from the empty row, shorter words
// ahead; a state is known by its first row.
func (p *plain) hypo() (m api.Machine, e api.Errno) {
	_, missing := p.missing()
	_, open := p.open()
	_, torn := p.torn()
	if missing || open || torn {
		return api.Machine{}, api.ErrTime
	}
	m = api.Machine{Kind: p.kind, K: p.k, O: p.o}
	states := []int{0}
	for at := 0; at < len(states); at++ {
		u := p.rows[states[at]]
		if p.kind == api.Dfa {
			m.Out = append(m.Out, p.cell(u, nil)...)
		}
		for x := range p.k {
			if p.kind == api.Mealy {
				m.Out = append(m.Out, p.cell(u, []int{x})...)
			}
			r := p.rowOf(word.Join(u, []int{x}))
			if !slices.Contains(states, r) {
				states = append(states, r)
			}
			m.Next = append(m.Next, slices.Index(states, r))
		}
	}
	m.N = len(states)
	return m, api.OK
}

// both is a table and its plain reading, to which the same is done.
type both struct {
	t *testing.T
	x *table.Table
	p *plain
}

func newBoth(t *testing.T, kind, k, o int) both {
	t.Helper()
	return both{t, made(t, kind, k, o), newPlain(kind, k, o)}
}

func (b both) addRow(w []int) api.Errno {
	b.t.Helper()
	got, want := b.x.AddRow(w), b.p.addRow(w)
	if got != want {
		b.t.Fatalf("behind %v: AddRow(%s): %d, not %d", *b.p, cut(w), got, want)
	}
	return got
}

func (b both) addCol(w []int) api.Errno {
	b.t.Helper()
	got, want := b.x.AddCol(w), b.p.addCol(w)
	if got != want {
		b.t.Fatalf("behind %v: AddCol(%s): %d, not %d", *b.p, cut(w), got, want)
	}
	return got
}

func (b both) put(w, out []int) api.Errno {
	b.t.Helper()
	got, want := b.x.Put(w, out), b.p.put(w, out)
	if got != want {
		b.t.Fatalf("behind %v: Put(%s, %s): %d, not %d", *b.p, cut(w), cut(out), got, want)
	}
	return got
}

// agree holds all that the table tells against the plain reading, and tells
// how it is with it: missing, open, torn, or a machine.
func (b both) agree() string {
	b.t.Helper()
	want := seen{rows: b.p.rows, cols: b.p.cols}
	want.missing, want.misses = b.p.missing()
	want.open, want.opens = b.p.open()
	want.torn, want.tear = b.p.torn()
	want.hypo, want.e = b.p.hypo()
	if got := see(b.x); !got.same(want) {
		b.t.Fatalf("behind %v:\n%v, not\n%v", *b.p, got, want)
	}
	switch {
	case want.misses:
		return "missing"
	case want.opens && want.tear:
		return "open and torn"
	case want.opens:
		return "open"
	case want.tear:
		return "torn"
	case want.hypo.N < len(want.rows):
		return "alike"
	}
	return "machine"
}

// enough fails where something was told too seldom for a test to hold it.
func enough[T comparable](t *testing.T, told map[T]int, least int, each ...T) {
	t.Helper()
	for _, x := range each {
		if told[x] < least {
			t.Errorf("%v is told %d times: that tells little", x, told[x])
		}
	}
}

// words lists all words of at most n symbols.
func words(k, n int) [][]int {
	l, _ := word.All(k, n)
	return l
}

// shape is a choice of rows and columns, as they come.
type shape struct {
	rows, cols [][]int
}

// P13.5, P13.6: small tables, filled with all that can be said, lies too.
func TestAllSmallAsPlainlyRead(t *testing.T) {
	for _, s := range []struct {
		kind, k, o int
		shapes     []shape
	}{
		{api.Dfa, 1, 2, []shape{
			{}, {rows: [][]int{{0}}}, {rows: [][]int{{0}, {0, 0}}}, {rows: [][]int{{0}, {0, 0}, {0, 0, 0}, {0, 0, 0, 0}}},
			{rows: [][]int{{0}, {0, 0}, {0, 0, 0}}, cols: [][]int{{0, 0}, {0}}}, {rows: [][]int{{0}, {0, 0}}, cols: [][]int{{0, 0, 0}}},
		}},
		{api.Dfa, 2, 2, []shape{
			{}, {rows: [][]int{{1}}}, {rows: [][]int{{1}, {0}}}, {rows: [][]int{{1}, {1, 0}}}, {rows: [][]int{{0}}, cols: [][]int{{1}}}, {cols: [][]int{{1}, {0}}},
		}},
		{api.Mealy, 1, 2, []shape{
			{}, {rows: [][]int{{0}}}, {rows: [][]int{{0}, {0, 0}}}, {rows: [][]int{{0}}, cols: [][]int{{0, 0}}}, {rows: [][]int{{0}, {0, 0}}, cols: [][]int{{0, 0}}},
		}},
		{api.Mealy, 1, 3, []shape{{}, {rows: [][]int{{0}}}, {rows: [][]int{{0}}, cols: [][]int{{0, 0}}}}},
		{api.Mealy, 2, 2, []shape{{}}},
	} {
		told := map[string]int{}
		for _, sh := range s.shapes {
			allFills(t, s.kind, s.k, s.o, sh, told)
		}
		enough(t, told, 30, "open", "machine")
		if len(s.shapes) > 1 {
			enough(t, told, 30, "open and torn", "alike")
		}
	}
}

// allFills fills tables of a shape in all ways.
func allFills(t *testing.T, kind, k, o int, sh shape, told map[string]int) {
	t.Helper()
	empty := newBoth(t, kind, k, o)
	needed := shaped(empty, sh)
	for n := 0; ; n++ {
		b, left := newBoth(t, kind, k, o), n
		shaped(b, sh)
		for _, w := range needed {
			out := make([]int, len(w))
			if kind == api.Dfa {
				out = make([]int, 1)
			}
			for i := range out {
				out[i], left = left%o, left/o
			}
			b.put(w, out)
		}
		if left > 0 {
			return
		}
		told[b.agree()]++
	}
}

// shaped gives a new table a shape, and tells the words that are missing then.
func shaped(b both, sh shape) [][]int {
	b.t.Helper()
	for _, w := range sh.rows {
		b.addRow(w)
	}
	for _, w := range sh.cols {
		b.addCol(w)
	}
	p := *b.p
	p.puts = nil
	var l [][]int
	for w, ok := p.missing(); ok; w, ok = p.missing() {
		l = append(l, w)
		p.puts = append(p.puts, pair{w: w})
	}
	return l
}

// P13.2 to P13.6: all ways to do three things of a few, one behind the other,
// looked at behind each of them or at the end alone.
func TestSmallStepsAsPlainlyRead(t *testing.T) {
	for _, kind := range []int{api.Dfa, api.Mealy} {
		var steps []func(b both)
		for _, w := range [][]int{{}, {0}, {1}, {0, 0}, {0, 1}, {2}} {
			steps = append(steps, func(b both) { b.addRow(w) }, func(b both) { b.addCol(w) })
			for _, out := range [][]int{{}, {1}, {0, 1}, {1, 1}, {2}} {
				if kind == api.Mealy || len(out) == 1 {
					steps = append(steps, func(b both) { b.put(w, out) })
				}
			}
		}
		for at := range len(steps) * len(steps) * len(steps) {
			b, last := newBoth(t, kind, 2, 2), newBoth(t, kind, 2, 2)
			for _, i := range []int{at % len(steps), at / len(steps) % len(steps), at / len(steps) / len(steps)} {
				steps[i](b)
				b.agree()
				steps[i](last)
			}
			last.agree()
		}
	}
}

// drawnList draws a list, now and then with a number that is too small or too
// great.
func drawnList(draw *rand.Rand, n, below int) []int {
	l := make([]int, n)
	for i := range l {
		l[i] = draw.IntN(below)
	}
	if n > 0 && draw.IntN(20) == 0 {
		l[draw.IntN(n)] = []int{-1, below}[draw.IntN(2)]
	}
	return l
}

// drawnStep does something with both, and tells the error.
func (b both) drawnStep(draw *rand.Rand) api.Errno {
	b.t.Helper()
	switch draw.IntN(12) {
	case 0:
		return b.addRow(drawnList(draw, draw.IntN(4), b.p.k))
	case 1:
		l := b.p.lines()
		return b.addRow(l[draw.IntN(len(l))])
	case 2:
		return b.addCol(drawnList(draw, draw.IntN(4), b.p.k))
	case 3:
		w, ok := b.x.Open()
		if !ok {
			return api.OK
		}
		return b.addRow(w)
	case 4:
		w, ok := b.x.Torn()
		if !ok {
			return api.OK
		}
		return b.addCol(w)
	}
	w, ok := b.x.Missing()
	if !ok || draw.IntN(4) == 0 {
		w = drawnList(draw, draw.IntN(5), b.p.k)
	}
	n := len(w)
	if b.p.kind == api.Dfa {
		n = 1
	}
	if draw.IntN(30) == 0 {
		n += draw.IntN(3)
	}
	return b.put(w, drawnList(draw, n, b.p.o))
}

// P13.2 to P13.6: drawn tables, of which lies are told; things are looked at in
// between, or not.
func TestDrawnAsPlainlyRead(t *testing.T) {
	draw := rand.New(rand.NewPCG(13, 1))
	errors, told := map[api.Errno]int{}, map[string]int{}
	for range 300 {
		kind, k, o := api.Dfa, 1+draw.IntN(2), 2
		if draw.IntN(2) == 0 {
			kind, o = api.Mealy, 1+draw.IntN(2)
		}
		b := newBoth(t, kind, k, o)
		often := 1 + draw.IntN(9)
		for range 60 {
			errors[b.drawnStep(draw)]++
			if draw.IntN(often) == 0 {
				told[b.agree()]++
			}
		}
		for w, ok := b.x.Missing(); ok; w, ok = b.x.Missing() {
			n := len(w)
			if kind == api.Dfa {
				n = 1
			}
			out := make([]int, n)
			for i := range out {
				out[i] = draw.IntN(o)
			}
			errors[b.put(w, out)]++
		}
		told[b.agree()]++
	}
	enough(t, errors, 50, api.OK, api.ErrArg, api.ErrSymbol, api.ErrAnswer, api.ErrClash)
	enough(t, told, 20, "missing", "open", "torn", "open and torn", "alike", "machine")
}
