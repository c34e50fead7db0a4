package word_test

import (
	"math"
	"math/big"
	"testing"

	"tutor/api"
	"tutor/word"
)

const most = api.MaxCount

// P1.5.
func TestAdd(t *testing.T) {
	for _, c := range []struct {
		a, b, want int
		e          api.Errno
	}{
		{0, 0, 0, api.OK},
		{2, 3, 5, api.OK},
		{most, 0, most, api.OK},
		{most - 1, 1, most, api.OK},
		{most / 2, most / 2, most, api.OK},
		{most, 1, 0, api.ErrOver},
		{most / 2, most/2 + 1, 0, api.ErrOver},
		{most, most, 0, api.ErrOver},
		{-1, 0, 0, api.ErrArg},
		{-1, 1, 0, api.ErrArg},
		{-1, most, 0, api.ErrArg},
		{-5, most + 5, 0, api.ErrArg},
		{most + 1, 0, 0, api.ErrArg},
		{most + 1, most, 0, api.ErrArg},
		{math.MaxInt, 1, 0, api.ErrArg},
		{math.MaxInt, math.MaxInt, 0, api.ErrArg},
		{math.MinInt, math.MinInt, 0, api.ErrArg},
		{math.MinInt, math.MaxInt, 0, api.ErrArg},
	} {
		holdBothWays(t, "Add", word.Add, c.a, c.b, c.want, c.e)
	}
}

// P1.5.
func TestMul(t *testing.T) {
	for _, c := range []struct {
		a, b, want int
		e          api.Errno
	}{
		{0, 0, 0, api.OK},
		{6, 7, 42, api.OK},
		{0, most, 0, api.OK},
		{1, most, most, api.OK},
		{1 << 20, 1 << 20, most, api.OK},
		{3, most / 3, most / 3 * 3, api.OK},
		{most - 1, 1, most - 1, api.OK},
		{3, most/3 + 1, 0, api.ErrOver},
		{1<<20 + 1, 1 << 20, 0, api.ErrOver},
		{2, most, 0, api.ErrOver},
		{2, most/2 + 1, 0, api.ErrOver},
		{1 << 32, 1 << 32, 0, api.ErrOver}, // 2^64 wraps round to 0
		{1 << 31, 1 << 32, 0, api.ErrOver}, // 2^63 wraps round to below 0
		{most, most, 0, api.ErrOver},
		{-1, 0, 0, api.ErrArg},
		{-1, -1, 0, api.ErrArg},
		{-1, most, 0, api.ErrArg},
		{0, most + 1, 0, api.ErrArg},
		{most, most + 1, 0, api.ErrArg},
		{math.MaxInt, 0, 0, api.ErrArg},
		{math.MinInt, -1, 0, api.ErrArg},
		{math.MaxInt, math.MaxInt, 0, api.ErrArg},
	} {
		holdBothWays(t, "Mul", word.Mul, c.a, c.b, c.want, c.e)
	}
}

func holdBothWays(t *testing.T, name string, f func(a, b int) (int, api.Errno), a, b, want int, e api.Errno) {
	t.Helper()
	if n, err := f(a, b); n != want || err != e {
		t.Errorf("%s(%d, %d) is %d, %d, not %d, %d", name, a, b, n, err, want, e)
	}
	if n, err := f(b, a); n != want || err != e {
		t.Errorf("%s(%d, %d) is %d, %d, not %d, %d", name, b, a, n, err, want, e)
	}
}

// P1.5.
func TestCount(t *testing.T) {
	for _, c := range []struct {
		k, n, want int
		e          api.Errno
	}{
		{2, 3, 15, api.OK},
		{2, 0, 1, api.OK},
		{1, 0, 1, api.OK},
		{1, 5, 6, api.OK},
		{3, 2, 13, api.OK},
		{1, api.MaxWord + 1, api.MaxWord + 2, api.OK},
		{api.MaxAlphabet, 0, 1, api.OK},
		{api.MaxAlphabet, 1, 65, api.OK},
		{1, most - 1, most, api.OK},
		{2, 39, most - 1, api.OK},
		{1, most, 0, api.ErrOver},
		{1, most + 1, 0, api.ErrOver},
		{1, math.MaxInt, 0, api.ErrOver},
		{2, 40, 0, api.ErrOver},
		{2, math.MaxInt, 0, api.ErrOver},
		{3, most, 0, api.ErrOver},
		{api.MaxAlphabet, 7, 0, api.ErrOver},
		{api.MaxAlphabet, math.MaxInt, 0, api.ErrOver},
		{0, 0, 0, api.ErrArg},
		{-1, 3, 0, api.ErrArg},
		{api.MaxAlphabet + 1, 0, 0, api.ErrArg},
		{2, -1, 0, api.ErrArg},
		{1, -1, 0, api.ErrArg},
		{2, math.MinInt, 0, api.ErrArg},
		{math.MinInt, math.MinInt, 0, api.ErrArg},
		{0, math.MaxInt, 0, api.ErrArg},
		{65, math.MaxInt, 0, api.ErrArg},
	} {
		if n, e := word.Count(c.k, c.n); n != c.want || e != c.e {
			t.Errorf("Count(%d, %d) is %d, %d, not %d, %d", c.k, c.n, n, e, c.want, c.e)
		}
	}
}

// P1.5: over each alphabet, held against sums that have no end.
func TestCountByGreatNumbers(t *testing.T) {
	for k := 1; k <= api.MaxAlphabet; k++ {
		sum, power := big.NewInt(0), big.NewInt(1)
		for n := range 45 {
			sum.Add(sum, power)
			power.Mul(power, big.NewInt(int64(k)))
			want, wantE := 0, api.ErrOver
			if sum.Cmp(big.NewInt(most)) <= 0 {
				want, wantE = int(sum.Int64()), api.OK
			}
			if got, e := word.Count(k, n); got != want || e != wantE {
				t.Fatalf("Count(%d, %d) is %d, %d, not %d, %d", k, n, got, e, want, wantE)
			}
		}
	}
}
