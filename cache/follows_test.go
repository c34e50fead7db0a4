package cache_test

import (
	"math/rand/v2"
	"slices"
	"testing"

	"tutor/api"
	"tutor/machine"
	"tutor/word"
)

// P11.6: what was Put is told from then on, whatever comes: lies, lists that
// are no words, answers that do not fit, and more than there is room for.
func TestToldFromThenOn(t *testing.T) {
	draw := rand.New(rand.NewPCG(11, 6))
	for _, kind := range []int{api.Dfa, api.Mealy} {
		for range 40 {
			k, most := 1+draw.IntN(3), 5+draw.IntN(80)
			c := made(t, kind, k, 2, most)
			var kept []pair
			for range 60 {
				w := drawnList(draw, draw.IntN(6), k)
				n := len(w)
				if kind == api.Dfa {
					n = 1
				}
				out := drawnList(draw, n, 2)
				if c.Put(w, out) == api.OK {
					kept = append(kept, pair{w, out})
				}
				for _, x := range kept {
					gets(t, c, x.w, x.out, true)
					has(t, c, true, x.w)
					puts(t, c, api.OK, x.w, x.out)
				}
			}
			if len(kept) < 3 {
				t.Errorf("%d are kept: that tells little", len(kept))
			}
		}
	}
}

// drawnMachine draws one with n states.
func drawnMachine(draw *rand.Rand, kind, k, o, n int) api.Machine {
	m := api.Machine{Kind: kind, K: k, O: o, N: n}
	for range n * k {
		m.Next = append(m.Next, draw.IntN(n))
		m.Out = append(m.Out, draw.IntN(o))
	}
	if kind == api.Dfa {
		m.Out = m.Out[:n]
	}
	return m
}

// P11.6: a cache that is filled with what one machine says never clashes, and
// tells what the machine says; one number otherwise, and it does clash.
func TestOneMachineNeverClashes(t *testing.T) {
	draw := rand.New(rand.NewPCG(11, 7))
	for _, kind := range []int{api.Dfa, api.Mealy} {
		for range 60 {
			k, o := 1+draw.IntN(4), 2
			if kind == api.Mealy {
				o = 1 + draw.IntN(4)
			}
			m := drawnMachine(draw, kind, k, o, 1+draw.IntN(9))
			c := made(t, kind, k, o, api.MaxNodes)
			asked, _ := word.All(k, 3)
			draw.Shuffle(len(asked), func(i, j int) { asked[i], asked[j] = asked[j], asked[i] })
			for range 5 {
				w := make([]int, draw.IntN(300))
				for i := range w {
					w[i] = draw.IntN(k)
				}
				asked = append(asked, w)
			}
			for _, w := range asked {
				out, e := machine.Run(m, w)
				if e != api.OK {
					t.Fatalf("%v, %v: %d", m, w, e)
				}
				puts(t, c, api.OK, w, out)
			}
			for _, w := range asked {
				out, _ := machine.Run(m, w)
				gets(t, c, w, out, true)
				if len(out) > 0 && o > 1 {
					lie := slices.Clone(out)
					lie[len(lie)-1] = (lie[len(lie)-1] + 1) % o
					puts(t, c, api.ErrClash, w, lie)
				}
			}
		}
	}
}
