package block_test

import (
	"math/rand/v2"
	"slices"
	"testing"

	"tutor/api"
	"tutor/block"
)

// plainSplit reads P6.2: it tells the classes behind Split(l), and those that
// it makes.
func plainSplit(class, l []int) (after, made []int) {
	after = slices.Clone(class)
	next := slices.Max(class) + 1
	for c := range next {
		var in, others []int
		for i := range class {
			switch {
			case class[i] == c && slices.Contains(l, i):
				in = append(in, i)
			case class[i] == c:
				others = append(others, i)
			}
		}
		if len(in) == 0 || len(others) == 0 {
			continue
		}
		for _, i := range in {
			after[i] = next
		}
		made = append(made, next)
		next++
	}
	return after, made
}

// splitFollows reads P6.5, of what the object tells before and behind a Split.
func splitFollows(t *testing.T, p *block.Part, before, l []int) {
	t.Helper()
	after := p.All()
	for i := range after {
		for j := range after {
			both := slices.Contains(l, i) == slices.Contains(l, j)
			if (after[i] == after[j]) != (before[i] == before[j] && both) {
				t.Fatalf("Split(%v) of %v: %v: %d and %d", l, before, after, i, j)
			}
		}
	}
	for c := range p.Count() {
		in, e := p.Members(c)
		if len(in) == 0 || e != api.OK {
			t.Fatalf("Split(%v) of %v: class %d of %v is %v, %d", l, before, c, after, in, e)
		}
		for _, i := range in {
			if after[i] != c || slices.Contains(l, i) != slices.Contains(l, in[0]) {
				t.Fatalf("Split(%v) of %v: class %d of %v has %v", l, before, c, after, in)
			}
		}
	}
}

// P6.2, P6.3, P6.5, step by step.
func asPlainlyRead(t *testing.T, n int, lists [][]int) {
	t.Helper()
	p := newPart(t, n)
	class := make([]int, n)
	for _, l := range lists {
		before := p.All()
		after, made := plainSplit(class, l)
		splitTo(t, p, l, made, after)
		splitFollows(t, p, before, l)
		class = after
	}
}

// chosen tells the numbers whose bits are set, from the greatest on and each
// twice: neither is to play a part.
func chosen(bits int) []int {
	var l []int
	for i := 10; i >= 0; i-- {
		if bits>>i&1 != 0 {
			l = append(l, i, i)
		}
	}
	return l
}

// All ways to split few numbers three times.
func TestSmallAsPlainlyRead(t *testing.T) {
	for n := 1; n <= 4; n++ {
		for steps := range 1 << (3 * n) {
			var lists [][]int
			for at := range 3 {
				lists = append(lists, chosen(steps>>(at*n)&(1<<n-1)))
			}
			asPlainlyRead(t, n, lists)
		}
	}
}

func TestDrawnAsPlainlyRead(t *testing.T) {
	draw := rand.New(rand.NewPCG(6, 1))
	for range 400 {
		n := 1 + draw.IntN(40)
		var lists [][]int
		for range 12 {
			l := make([]int, draw.IntN(n+3))
			for at := range l {
				l[at] = draw.IntN(n)
			}
			lists = append(lists, l)
		}
		asPlainlyRead(t, n, lists)
	}
}
