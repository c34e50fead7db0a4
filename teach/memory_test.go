package teach_test

import (
	"bytes"
	"slices"
	"testing"

	"tutor/api"
	"tutor/teach"
)

// room is a list that is handed in, laid out anew with marked spare room, and
// what it must stay.
type room[T int | byte] struct {
	whole, before []T
}

func newRoom[T int | byte](l []T) (r room[T], list []T) {
	r.whole = append(slices.Clone(l), 77, 78, 79)
	r.before = slices.Clone(r.whole)
	return r, r.whole[:len(l)]
}

func (r room[T]) changed() bool {
	return !slices.Equal(r.whole, r.before)
}

// rooms are those of several lists.
type rooms []room[int]

func (r *rooms) list(l []int) []int {
	one, given := newRoom(l)
	*r = append(*r, one)
	return given
}

func (r *rooms) machine(m api.Machine) api.Machine {
	m.Next, m.Out = r.list(m.Next), r.list(m.Out)
	return m
}

func (r *rooms) query(q api.Query) api.Query {
	q.Word, q.Hyp = r.list(q.Word), r.machine(q.Hyp)
	return q
}

func (r *rooms) answer(a api.Answer) api.Answer {
	a.Out, a.Word = r.list(a.Out), r.list(a.Word)
	return a
}

func (r rooms) changed() bool {
	return slices.ContainsFunc(r, room[int].changed)
}

func (r rooms) scribble() {
	for _, one := range r {
		scribble(one.whole, -99)
	}
}

// scribble writes all over a list, its spare room too.
func scribble[T int | byte](l []T, by T) {
	l = l[:cap(l)]
	for at := range l {
		l[at] = by
	}
}

// wholly tells whether a list is written over still, its spare room too.
func wholly[T int | byte](l []T, by T) bool {
	return !slices.ContainsFunc(l[:cap(l)], func(x T) bool { return x != by })
}

// apart tells whether no two of the lists share memory, by writing over them.
func apart(lists [][]int) bool {
	for i, l := range lists {
		scribble(l, 1000+i)
	}
	for i, l := range lists {
		if !wholly(l, 1000+i) {
			return false
		}
	}
	return true
}

func someQueries() []api.Query {
	return []api.Query{
		{}, {Kind: 3, Word: []int{1}, Hyp: odd()},
		member(like(acceptor()), 0, 1), member(acceptor()), member(like(transducer()), 1, 0, 1), member(transducer(), 1), member(odd(), 7),
		hypo(odd()), hypo(acceptor()), hypo(transducer()), hypo(api.Machine{}), hypo(dfa(2, []int{0, 0}, []int{1})), hypo(mealy(2, 11, []int{0, 0}, []int{1, 2})),
		{Kind: api.Hypo, Word: []int{5, 6}, Hyp: acceptor()},
	}
}

// Check neither changes nor keeps what is handed in, its spare room included.
func TestCheckMemory(t *testing.T) {
	answers := []api.Answer{{}, out(), out(0), out(1, 2, 3), out(9), yes(), no(), no(0), no(1, 0), no(9), {Kind: api.Yes, Out: []int{1}, Word: []int{2}}, {Kind: api.Out, Out: []int{1}, Word: []int{2}}}
	for _, q := range someQueries() {
		for _, a := range answers {
			var r rooms
			givenQ, givenA := r.query(q), r.answer(a)
			want := plainCheck(q, a)
			for range 2 {
				if got := teach.Check(givenQ, givenA); got != want {
					t.Errorf("%v, %v: %d, not %d", q, a, got, want)
				}
				if r.changed() {
					t.Fatalf("%v, %v: what was handed in is changed", q, a)
				}
			}
		}
	}
}

// Parse neither changes nor keeps the text; no list of an answer shares memory
// with another one, nor with that of another answer or call.
func TestParseMemory(t *testing.T) {
	d := numbers(19)
	texts := []string{"", "y\n", "o\nn\n", "o 1\nn 2\n", "o 0 1\ny\nn 2\n", "x", "o 01\n", "y\ny 1\n", "o 1 2 3", "n 12345\n"}
	for range 50 {
		texts = append(texts, plainShow(d.answers(1+d.below(9))))
	}
	for _, s := range texts {
		want := plainParse(s)
		r, b := newRoom([]byte(s))
		var answers [][]api.Answer
		for range 3 {
			l, e, at := teach.Parse(b)
			if !equalParsed(parsed{l, e, at}, want) {
				t.Fatalf("%q: %v, %d at %d", s, l, e, at)
			}
			answers = append(answers, l)
		}
		if r.changed() {
			t.Fatalf("%q: what was handed in is now %q", s, r.whole)
		}
		scribble(r.whole, 'X')
		if !slices.EqualFunc(answers[2], want.l, equalAnswers) {
			t.Fatalf("%q: the text is part of %v", s, answers[2])
		}
		var lists [][]int
		for _, a := range slices.Concat(answers[0], answers[1]) {
			lists = append(lists, a.Out, a.Word)
		}
		if !apart(lists) || !slices.EqualFunc(answers[2], want.l, equalAnswers) {
			t.Fatalf("%q: two lists share memory", s)
		}
		for i := range answers[0][:cap(answers[0])] {
			answers[0][:cap(answers[0])][i] = api.Answer{Kind: 7}
		}
		if !slices.EqualFunc(answers[2], want.l, equalAnswers) || !equalParsed(parse(s), want) {
			t.Fatalf("%q: two answers share memory", s)
		}
	}
}

// Show neither changes nor keeps the answers, nor what stands in the spare
// room of their list; no two texts share memory.
func TestShowMemory(t *testing.T) {
	d := numbers(37)
	for range 100 {
		l := append(d.answers(d.below(6)), api.Answer{Kind: 9, Out: []int{1}, Word: []int{2}}, api.Answer{Kind: api.Yes, Out: []int{3}, Word: []int{4}})
		want := plainShow(l)
		var r rooms
		var whole []api.Answer
		for _, a := range append(l, out(5), no(6)) {
			whole = append(whole, r.answer(a))
		}
		before := slices.Clone(whole)
		given := whole[:len(l)]
		var texts [][]byte
		for range 3 {
			b := teach.Show(given)
			if string(b) != want {
				t.Fatalf("%v: %q, not %q", l, b, want)
			}
			texts = append(texts, b)
		}
		if r.changed() || !slices.EqualFunc(whole, before, equalAnswers) {
			t.Fatalf("%v: what was handed in is changed", l)
		}
		r.scribble()
		scribble(texts[0], 1)
		scribble(texts[1], 2)
		if !wholly(texts[0], 1) || !wholly(texts[1], 2) || !bytes.Equal(texts[2], []byte(want)) {
			t.Fatalf("%v: two texts share memory", l)
		}
	}
}

// Tell neither changes nor keeps the machine and the query; its answer shares
// nothing with them, nor with another one.
func TestTellMemory(t *testing.T) {
	for _, m := range append(drawn(), api.Machine{}, api.Machine{Kind: api.Dfa, K: 1, O: 2, N: 1, Next: []int{5}, Out: []int{7}}) {
		d := numbers(43)
		queries := append(someQueries(), hypo(m), member(like(m)))
		if m.N > 1 {
			queries = append(queries, hypo(d.changed(m)), member(like(m), d.list(9, m.K)...))
		}
		for _, q := range queries {
			tellMemory(t, m, q)
		}
	}
}

func tellMemory(t *testing.T, m api.Machine, q api.Query) {
	t.Helper()
	want, wantE := teach.Tell(m, q)
	want.Out, want.Word = slices.Clone(want.Out), slices.Clone(want.Word)
	var r rooms
	givenM, givenQ := r.machine(m), r.query(q)
	var answers []api.Answer
	for range 3 {
		a, e := teach.Tell(givenM, givenQ)
		if !equalAnswers(a, want) || e != wantE {
			t.Fatalf("%v, %v: %v, %d, not %v, %d", m, q, a, e, want, wantE)
		}
		answers = append(answers, a)
	}
	if !apart([][]int{answers[0].Out, answers[0].Word, answers[1].Out, answers[1].Word}) || r.changed() {
		t.Fatalf("%v, %v: an answer shares memory with another, or what was handed in is changed", m, q)
	}
	if a, e := teach.Tell(givenM, givenQ); !equalAnswers(a, want) || e != wantE {
		t.Fatalf("%v, %v: later %v, %d", m, q, a, e)
	}
	r.scribble()
	if !equalAnswers(answers[2], want) {
		t.Fatalf("%v, %v: what was handed in is part of %v", m, q, answers[2])
	}
}

// Lists that are handed in may be one and the same.
func TestOneListTwice(t *testing.T) {
	l := []int{1, 0}
	m := dfa(1, l, l)
	if a, e := teach.Tell(m, hypo(m)); !equalAnswers(a, yes()) || e != api.OK {
		t.Errorf("%v, %d", a, e)
	}
	if got := string(teach.Show([]api.Answer{out(l...), no(l...)})); got != "o 1 0\nn 1 0\n" {
		t.Errorf("%q", got)
	}
	if e := teach.Check(member(api.Machine{Kind: api.Mealy, K: 2, O: 2}, l...), out(l...)); e != api.OK {
		t.Errorf("%d", e)
	}
	if !slices.Equal(l, []int{1, 0}) {
		t.Errorf("the list is %v now", l)
	}
}

// What stands in the spare room is no part of a text, nor of a list.
func TestSpareRoom(t *testing.T) {
	b := []byte("o 12 345\ny\nn 6789 0\no\n")
	for n := range len(b) + 1 {
		l, e, at := teach.Parse(b[:n])
		if want := plainParse(string(b[:n])); !equalParsed(parsed{l, e, at}, want) {
			t.Errorf("%d bytes: %v, %d at %d, not %v", n, l, e, at, want)
		}
	}
	l := []int{1, 0, 7}
	if got := string(teach.Show([]api.Answer{out(l[:1]...), no(l[:2]...)}[:1])); got != "o 1\n" {
		t.Errorf("%q", got)
	}
	if e := teach.Check(member(api.Machine{Kind: api.Mealy, K: 2, O: 2}, l[:2]...), out(l[:2]...)); e != api.OK {
		t.Errorf("%d", e)
	}
	if a, e := teach.Tell(odd(), member(api.Machine{}, make([]int, 9)[:1]...)); !equalAnswers(a, out(1)) || e != api.OK {
		t.Errorf("%v, %d", a, e)
	}
}
