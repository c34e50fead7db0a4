package point_test

import (
	"testing"

	"tutor/api"
	"tutor/point"
)

// step holds what a search answers ahead of its end: it asks for i, as often
// as one likes, has found nothing, takes v, and has counted that.
func step(t *testing.T, s *point.Search, i int, v bool) {
	t.Helper()
	before := s.Asked()
	for range 3 {
		if got, more := s.Ask(); got != i || !more {
			t.Fatalf("behind %d Tells Ask: %d, %v, not %d, true", before, got, more, i)
		}
		if got, ok := s.Found(); got != 0 || ok {
			t.Fatalf("behind %d Tells Found: %d, %v, not 0, false", before, got, ok)
		}
		if got := s.Asked(); got != before {
			t.Fatalf("Asked: %d, then %d, and nothing was told", before, got)
		}
	}
	if e := s.Tell(v); e != api.OK {
		t.Fatalf("behind %d Tells Tell(%v): %d", before, v, e)
	}
	if got := s.Asked(); got != before+1 {
		t.Fatalf("Asked: %d, then %d, by one Tell", before, got)
	}
}

// ended holds what a search answers at its end, and behind it, when more is
// told.
func ended(t *testing.T, s *point.Search, found, asked int) {
	t.Helper()
	for _, v := range []bool{true, false, false, true} {
		for range 2 {
			if i, more := s.Ask(); i != 0 || more {
				t.Fatalf("at the end Ask: %d, %v, not 0, false", i, more)
			}
			if i, ok := s.Found(); i != found || !ok {
				t.Fatalf("at the end Found: %d, %v, not %d, true", i, ok, found)
			}
			if n := s.Asked(); n != asked {
				t.Fatalf("at the end Asked: %d, not %d", n, asked)
			}
		}
		if e := s.Tell(v); e != api.ErrTime {
			t.Fatalf("at the end Tell(%v): %d", v, e)
		}
	}
}

// P12.1 to P12.3, and the examples: the places that are asked for, with what
// is told of them (y: yes, n: no), and the place that is found.
func TestPlaces(t *testing.T) {
	for _, c := range []struct {
		how, n int
		places []int
		told   string
		found  int
	}{
		{api.Binary, 8, []int{4, 2, 3}, "yny", 2},
		{api.Binary, 8, []int{4, 2, 3}, "ynn", 3},
		{api.Binary, 8, []int{4, 2, 1}, "yyy", 0},
		{api.Binary, 8, []int{4, 2, 1}, "yyn", 1},
		{api.Binary, 8, []int{4, 6, 5}, "nyy", 4},
		{api.Binary, 8, []int{4, 6, 7}, "nnn", 7},
		{api.Binary, 7, []int{3, 1, 2}, "yny", 1},
		{api.Binary, 7, []int{3, 1}, "yy", 0},
		{api.Binary, 7, []int{3, 5, 6}, "nny", 5},
		{api.Binary, 3, []int{1}, "y", 0},
		{api.Binary, 3, []int{1, 2}, "nn", 2},
		{api.Binary, 4096, []int{2048, 1024, 512, 256, 128, 64, 32, 16, 8, 4, 2, 1}, "yyyyyyyyyyyy", 0},
		{api.Binary, 4095, []int{2047, 3071, 3583, 3839, 3967, 4031, 4063, 4079, 4087, 4091, 4093, 4094}, "nnnnnnnnnnnn", 4094},
		{api.Linear, 3, []int{1}, "y", 0},
		{api.Linear, 3, []int{1, 2}, "ny", 1},
		{api.Linear, 3, []int{1, 2}, "nn", 2},
		{api.Linear, 8, []int{1, 2, 3, 4, 5}, "nnnny", 4},
		{api.Linear, 8, []int{1, 2, 3, 4, 5, 6, 7}, "nnnnnnn", 7},
		{api.Linear, 4096, []int{1}, "y", 0},
		{api.Exponential, 8, []int{7, 5, 1, 3, 4}, "yynnn", 4},
		{api.Exponential, 8, []int{7, 5, 1, 3, 4}, "yynny", 3},
		{api.Exponential, 8, []int{7, 5, 1, 3, 2}, "yynyn", 2},
		{api.Exponential, 8, []int{7, 5, 1}, "yyy", 0},
		{api.Exponential, 8, []int{7}, "n", 7},
		{api.Exponential, 8, []int{7, 5, 6}, "ynn", 6},
		{api.Exponential, 8, []int{7, 5, 6}, "yny", 5},
		{api.Exponential, 3, []int{2, 1}, "yy", 0},
		{api.Exponential, 3, []int{2, 1}, "yn", 1},
		{api.Exponential, 3, []int{2}, "n", 2},
		{api.Exponential, 4, []int{3, 1}, "yy", 0},
		{api.Exponential, 4, []int{3, 1, 2}, "yny", 1},
		{api.Exponential, 6, []int{5, 3, 1}, "yyy", 0},
		{api.Exponential, 6, []int{5, 3, 1, 2}, "yynn", 2},
		{api.Exponential, 7, []int{6, 4, 1}, "yyy", 0},
		{api.Exponential, 9, []int{8, 6, 2, 1}, "yyyy", 0},
		{api.Exponential, 9, []int{8, 6, 2, 1}, "yyyn", 1},
		{api.Exponential, 9, []int{8, 6, 2, 4, 3}, "yynyy", 2},
		{api.Exponential, 20, []int{19, 17, 13, 5, 9, 11, 12}, "yyynnnn", 12},
		{api.Exponential, 20, []int{19, 17, 13, 5, 1, 3, 2}, "yyyynyy", 1},
		{api.Exponential, 4096, []int{4095, 4093, 4089, 4081, 4065, 4033, 3969, 3841, 3585, 3073, 2049, 1}, "yyyyyyyyyyyy", 0},
		{api.Exponential, 4095, []int{4094, 4092, 4088, 4080, 4064, 4032, 3968, 3840, 3584, 3072, 2048, 1}, "yyyyyyyyyyyy", 0},
	} {
		s := made(t, c.how, c.n)
		for at, i := range c.places {
			step(t, s, i, c.told[at] == 'y')
		}
		ended(t, s, c.found, len(c.places))
	}
}

// P12.3: every row of yes and no that there can be, held against the plain
// reading; a row's end is one of the places, and each place is one row's.
func TestAllRows(t *testing.T) {
	for _, how := range ways() {
		for n := 1; n <= 70; n++ {
			p := plain{how: how, n: n}
			if rows := p.rows(t); rows != n {
				t.Errorf("way %d, n %d: %d rows end", how, n, rows)
			}
		}
	}
}

// rows goes on with a yes and with a no till the search has ended, and tells
// how many rows there are.
func (p plain) rows(t *testing.T) int {
	if p.over() {
		p.replay(t)
		return 1
	}
	n := 0
	for _, v := range []bool{true, false} {
		on := plain{p.how, p.n, append([]int(nil), p.asked...), append([]bool(nil), p.told...)}
		on.tell(v)
		n += on.rows(t)
	}
	return n
}

// P12.3: of an Exponential always told yes the places lie 1, 3, 7, 15 .. ahead
// of n, as long as that is above 1; then comes 1. One no among these, the
// first, a middle or the last one, and it asks for the middle of what is left.
func TestExponentialSteps(t *testing.T) {
	for n := 2; n <= 4096; n++ {
		chain := chainOf(n)
		for no := range len(chain) + 1 {
			s := made(t, api.Exponential, n)
			for at, i := range chain[:no] {
				if got, more := s.Ask(); got != i || !more {
					t.Fatalf("n %d, %d times yes: %d, %v, not %d", n, at, got, more, i)
				}
				s.Tell(true)
			}
			if no == len(chain) {
				ended(t, s, 0, len(chain))
				continue
			}
			high := append([]int{n}, chain...)[no]
			behindNo(t, s, chain[no], high)
		}
	}
}

func chainOf(n int) []int {
	var chain []int
	for far := 1; n-far > 1; far = 2*far + 1 {
		chain = append(chain, n-far)
	}
	return append(chain, 1)
}

// behindNo tells no of a place, and holds that the search asks from then on as
// a Binary does.
func behindNo(t *testing.T, s *point.Search, low, high int) {
	t.Helper()
	if i, more := s.Ask(); i != low || !more {
		t.Fatalf("%d, %v, not %d", i, more, low)
	}
	s.Tell(false)
	for turn := 0; high > low+1; turn++ {
		middle := (low + high) / 2
		if i, more := s.Ask(); i != middle || !more {
			t.Fatalf("behind a no, from %d to %d: %d, %v, not %d", low, high, i, more, middle)
		}
		v := turn%3 == 1
		s.Tell(v)
		if v {
			high = middle
		} else {
			low = middle
		}
	}
	if i, ok := s.Found(); i != low || !ok {
		t.Fatalf("found %d, %v, not %d", i, ok, low)
	}
}
