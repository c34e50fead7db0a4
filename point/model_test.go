package point_test

import (
	"slices"
	"testing"

	"tutor/api"
)

// plain reads the chapter: all it has is for which places was asked, and what
// was told of them.
type plain struct {
	how, n int
	asked  []int
	told   []bool
}

// bounds are the last place of which it is no, and the first of which it is
// yes.
func (p *plain) bounds() (low, high int) {
	low, high = 0, p.n
	for at, i := range p.asked {
		if p.told[at] {
			high = min(high, i)
		} else {
			low = max(low, i)
		}
	}
	return low, high
}

func (p *plain) over() bool {
	low, high := p.bounds()
	return low+1 == high
}

// ask reads P12.3.
func (p *plain) ask() (i int, more bool) {
	low, high := p.bounds()
	switch {
	case p.over():
		return 0, false
	case p.how == api.Linear:
		return low + 1, true
	case p.how == api.Binary || slices.Contains(p.told, false):
		return (low + high) / 2, true
	}
	last := p.n
	if len(p.asked) > 0 {
		last = p.asked[len(p.asked)-1]
	}
	step := 1
	for range p.asked {
		step += step
	}
	if last-step <= low {
		return low + 1, true
	}
	return last - step, true
}

func (p *plain) tell(v bool) {
	i, more := p.ask()
	if !more {
		panic("told behind the end")
	}
	p.asked = append(p.asked, i)
	p.told = append(p.told, v)
}

// replay holds that a new search, told the same, asks for the same places and
// finds the same.
func (p *plain) replay(t *testing.T) {
	t.Helper()
	s := made(t, p.how, p.n)
	for at, i := range p.asked {
		step(t, s, i, p.told[at])
	}
	low, _ := p.bounds()
	ended(t, s, low, len(p.asked))
}
