package teach

import (
	"tutor/api"
	"tutor/word"
)

// reply is an answer of one of the three kinds, with no more than its kind
// has: each kind is a type.
type reply interface {
	answer() api.Answer
}

// said is what the machine says of a word.
type said struct {
	out []int
}

// yes is that the hypothesis is the machine.
type yes struct{}

// no is that it is not: a word tells them apart.
type no struct {
	word []int
}

func (r said) answer() api.Answer { return api.Answer{Kind: api.Out, Out: r.out} }

func (r yes) answer() api.Answer { return api.Answer{Kind: api.Yes} }

func (r no) answer() api.Answer { return api.Answer{Kind: api.No, Word: r.word} }

// replyOf leaves out what an answer has beside what its kind has; of one that
// has no kind it is nil.
func replyOf(a api.Answer) reply {
	switch a.Kind {
	case api.Out:
		return said{a.Out}
	case api.Yes:
		return yes{}
	case api.No:
		return no{a.Word}
	}
	return nil
}

// fits tells whether a is an answer to q, whose kind is one that there is.
func fits(q api.Query, a api.Answer) bool {
	switch r := replyOf(a).(type) {
	case said:
		return q.Kind == api.Member && len(a.Word) == 0 && mayBeSaid(q, r.out)
	case yes:
		return q.Kind == api.Hypo && len(a.Out) == 0 && len(a.Word) == 0
	case no:
		return q.Kind == api.Hypo && len(a.Out) == 0 && isWord(r.word, q.Hyp.K)
	}
	return false
}

// mayBeSaid tells whether a machine as q describes it may say out of q's word.
func mayBeSaid(q api.Query, out []int) bool {
	switch q.Hyp.Kind {
	case api.Dfa:
		return len(out) == 1 && allBelow(out, 2)
	case api.Mealy:
		return len(out) == len(q.Word) && allBelow(out, q.Hyp.O)
	}
	return false
}

func allBelow(l []int, n int) bool {
	for _, x := range l {
		if x < 0 || x >= n {
			return false
		}
	}
	return true
}

func isWord(w []int, k int) bool {
	_, e := word.Check(w, k)
	return e == api.OK
}
