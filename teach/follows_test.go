package teach_test

import (
	"slices"
	"strings"
	"testing"

	"tutor/api"
	"tutor/teach"
	"tutor/word"
)

// there holds what is shown and parsed again against what it was.
func there(t *testing.T, l []api.Answer) {
	t.Helper()
	b := teach.Show(l)
	got, e, at := teach.Parse(b)
	if !equalParsed(parsed{got, e, at}, parsed{l, api.OK, len(b)}) {
		t.Fatalf("%.200v: parsed as %.200v, %d at %d", l, got, e, at)
	}
	if again := teach.Show(got); string(again) != string(b) {
		t.Fatalf("%.200q: then %.200q", b, again)
	}
}

// P10.5: what is parsed is shown as the same text.
func TestParsedIsShown(t *testing.T) {
	for _, s := range []string{
		"", "o\n", "y\n", "n\n", "o 0 1\ny\nn 2\n", "n 9999 10 0\n", "y\ny\n", "o 1\no 2\n",
		strings.Repeat("y\n", api.MaxWords), "o" + strings.Repeat(" 9999", api.MaxWord) + "\nn" + strings.Repeat(" 0", api.MaxWord) + "\n",
	} {
		l, e, _ := teach.Parse([]byte(s))
		if b := teach.Show(l); e != api.OK || string(b) != s {
			t.Errorf("%.100q: %d, shown as %.100q", s, e, b)
		}
	}
}

// P10.5: what is shown of answers that Check takes is parsed as they were.
func TestShownIsParsed(t *testing.T) {
	queries := []api.Query{
		member(api.Machine{Kind: api.Dfa, K: 2, O: 2}, 0, 1),
		member(api.Machine{Kind: api.Mealy, K: 2, O: 3}),
		member(api.Machine{Kind: api.Mealy, K: 2, O: 3}, 1),
		member(api.Machine{Kind: api.Mealy, K: 2, O: 2}, 0, 1, 1),
		hypo(api.Machine{Kind: api.Dfa, K: 3, O: 2}),
		hypo(api.Machine{Kind: api.Mealy, K: 1, O: 5}),
	}
	var taken []api.Answer
	for _, q := range queries {
		for kind := range 5 {
			for _, l := range upTo(3, -1, 3) {
				for _, a := range []api.Answer{{Kind: kind, Out: l}, {Kind: kind, Word: l}} {
					if teach.Check(q, a) == api.OK {
						taken = append(taken, a)
						there(t, []api.Answer{a})
					}
				}
			}
		}
	}
	if len(taken) < 50 {
		t.Errorf("%d are taken: that tells little", len(taken))
	}
	there(t, taken)
	d := numbers(11)
	for range 1000 {
		there(t, d.answers(d.below(20)))
	}
	// The longest word, of the greatest numbers.
	longest := slices.Repeat([]int{63}, api.MaxWord)
	said, against := out(longest...), no(longest...)
	if e := teach.Check(member(api.Machine{Kind: api.Mealy, K: 64, O: 64}, longest...), said); e != api.OK {
		t.Errorf("the longest Out: %d", e)
	}
	if e := teach.Check(hypo(api.Machine{Kind: api.Dfa, K: 64, O: 2}), against); e != api.OK {
		t.Errorf("the longest Word: %d", e)
	}
	there(t, []api.Answer{said, against, yes(), against, said})
}

// P10.5: if they are not too many.
func TestShownTooMany(t *testing.T) {
	l := slices.Repeat([]api.Answer{yes()}, api.MaxWords)
	there(t, l)
	if got, e, at := teach.Parse(teach.Show(append(l, no()))); len(got) != 0 || e != api.ErrMany || at != 2*api.MaxWords {
		t.Errorf("one more: %d answers, %d at %d", len(got), e, at)
	}
}

// P10.5: two lists of answers, each of which has no more than its kind, have
// one text just if they are the same.
func TestOneTextEach(t *testing.T) {
	var each []api.Answer
	for _, l := range upTo(2, 0, 11) {
		each = append(each, out(l...), no(l...))
	}
	each = append(each, yes())
	seen := map[string]bool{}
	for _, a := range each {
		seen[string(teach.Show([]api.Answer{a}))] = true
	}
	if len(seen) != len(each) {
		t.Errorf("%d texts of %d answers", len(seen), len(each))
	}
}

// P10.5: what Tell answers, Check takes, where Hyp is like the machine.
func TestToldIsTaken(t *testing.T) {
	d := numbers(13)
	kinds := map[int]int{}
	for _, m := range append(drawn(), slices.Concat(all(api.Dfa, 1, 2, 3), all(api.Mealy, 2, 2, 1), all(api.Mealy, 1, 2, 2))...) {
		var queries []api.Query
		words, _ := word.All(m.K, 1)
		for _, w := range append(words, d.list(5, m.K), d.list(100, m.K), d.list(api.MaxWord, m.K)) {
			queries = append(queries, member(like(m), w...), member(m, w...))
		}
		for range 10 {
			queries = append(queries, hypo(d.changed(m)), hypo(d.machine(m.Kind, m.K, m.O, 1+d.below(9))))
		}
		for _, q := range append(queries, hypo(m)) {
			a, e := teach.Tell(m, q)
			if e != api.OK {
				t.Fatalf("%v, %.100v: %d", m, q, e)
			}
			if e := teach.Check(q, a); e != api.OK {
				t.Fatalf("%v, %.100v: %.100v, of which Check tells %d", m, q, a, e)
			}
			there(t, []api.Answer{a})
			kinds[a.Kind]++
		}
	}
	for _, kind := range []int{api.Out, api.Yes, api.No} {
		if kinds[kind] < 100 {
			t.Errorf("kind %d is told %d times: that tells little", kind, kinds[kind])
		}
	}
}
