package teach_test

import (
	"fmt"
	"regexp"
	"slices"
	"strconv"
	"strings"

	"tutor/api"
	"tutor/teach"
)

// plainCheck is P10.2, sentence by sentence.
func plainCheck(q api.Query, a api.Answer) api.Errno {
	outside := func(l []int, high int) bool {
		return slices.ContainsFunc(l, func(x int) bool { return x < 0 || x > high })
	}
	taken := false
	switch {
	case q.Kind != 1 && q.Kind != 2:
		return api.ErrKind
	case q.Kind == 1 && q.Hyp.Kind == 1:
		taken = a.Kind == 1 && len(a.Word) == 0 && (slices.Equal(a.Out, []int{0}) || slices.Equal(a.Out, []int{1}))
	case q.Kind == 1 && q.Hyp.Kind == 2:
		taken = a.Kind == 1 && len(a.Word) == 0 && len(a.Out) == len(q.Word) && !outside(a.Out, q.Hyp.O-1)
	case q.Kind == 2 && a.Kind == 2:
		taken = len(a.Out) == 0 && len(a.Word) == 0
	case q.Kind == 2 && a.Kind == 3:
		taken = len(a.Out) == 0 && q.Hyp.K >= 1 && q.Hyp.K <= 64 && len(a.Word) <= 4096 && !outside(a.Word, q.Hyp.K-1)
	}
	if !taken {
		return api.ErrAnswer
	}
	return api.OK
}

// parsed is what Parse tells.
type parsed struct {
	l  []api.Answer
	e  api.Errno
	at int
}

func parse(s string) (r parsed) {
	r.l, r.e, r.at = teach.Parse([]byte(s))
	return r
}

func equalParsed(a, b parsed) bool {
	return slices.EqualFunc(a.l, b.l, equalAnswers) && a.e == b.e && a.at == b.at
}

func wrong(e api.Errno, at int) parsed {
	return parsed{e: e, at: at}
}

// someLine is as much of what stands first as some line begins with.
var someLine = func() *regexp.Regexp {
	r := regexp.MustCompile(`^([on]( (0|[1-9][0-9]{0,3}))* ?|y|)`)
	r.Longest()
	return r
}()

// plainParse reads P10.3 in another way: the text is cut into lines, and of
// each as much is taken as some line begins with.
func plainParse(s string) parsed {
	if len(s) > 16777216 {
		return wrong(api.ErrLong, 0)
	}
	var l []api.Answer
	at := 0
	for line := range strings.SplitAfterSeq(s, "\n") {
		if line == "" {
			break
		}
		if len(l) == 65536 {
			return wrong(api.ErrMany, at)
		}
		begin := someLine.FindString(line)
		if parts := strings.SplitN(begin, " ", 4098); len(parts) == 4098 {
			return wrong(api.ErrLong, at+len(begin)-len(parts[4097])-1)
		}
		if begin+"\n" != line || begin == "" || strings.HasSuffix(begin, " ") {
			return wrong(api.ErrForm, at+len(begin))
		}
		l = append(l, plainAnswer(begin))
		at += len(line)
	}
	return parsed{l, api.OK, len(s)}
}

func plainAnswer(line string) api.Answer {
	words := strings.Fields(line)
	var l []int
	for _, x := range words[1:] {
		n, _ := strconv.Atoi(x)
		l = append(l, n)
	}
	return map[string]api.Answer{"o": {Kind: 1, Out: l}, "y": {Kind: 2}, "n": {Kind: 3, Word: l}}[words[0]]
}

// plainShow is P10.3, sentence by sentence.
func plainShow(l []api.Answer) string {
	var b strings.Builder
	line := func(letter string, l []int) {
		b.WriteString(letter)
		for _, n := range l {
			fmt.Fprintf(&b, " %d", n)
		}
		b.WriteString("\n")
	}
	for _, a := range l {
		switch a.Kind {
		case 1:
			line("o", a.Out)
		case 2:
			line("y", nil)
		case 3:
			line("n", a.Word)
		}
	}
	return b.String()
}
