package point

import "tutor/api"

// way is one of the three ways to search.
type way interface {
	// place tells which one of those between low and high is asked for; there
	// must be one.
	place(low, high int) int
}

type linear struct{}

type binary struct{}

// exponential is a search that was never told no.
type exponential struct {
	step int // how far ahead of high is asked
}

// newWay is nil, if how is none of the three.
func newWay(how int) way {
	switch how {
	case api.Linear:
		return linear{}
	case api.Binary:
		return binary{}
	case api.Exponential:
		return exponential{step: 1}
	}
	return nil
}

// wayOn tells the way by which is asked on, once v was told: an exponential
// search alone asks otherwise then.
func wayOn(w way, v bool) way {
	if e, ok := w.(exponential); ok {
		return e.on(v)
	}
	return w
}

func (linear) place(low, _ int) int {
	return low + 1
}

func (binary) place(low, high int) int {
	return low + (high-low)/2
}

func (e exponential) place(low, high int) int {
	return max(high-e.step, low+1)
}

func (e exponential) on(v bool) way {
	if !v {
		return binary{}
	}
	return exponential{step: 2 * e.step}
}
