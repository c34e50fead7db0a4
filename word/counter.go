package word

import "tutor/api"

// Add answers the sum of two counters.
func Add(a, b int) (int, api.Errno) {
	if !isCounter(a) || !isCounter(b) {
		return 0, api.ErrArg
	}
	if a > api.MaxCount-b {
		return 0, api.ErrOver
	}
	return a + b, api.OK
}

// Mul answers the product of two counters.
func Mul(a, b int) (int, api.Errno) {
	if !isCounter(a) || !isCounter(b) {
		return 0, api.ErrArg
	}
	// Asked by a quotient, since the product itself may wrap round.
	if b > 0 && a > api.MaxCount/b {
		return 0, api.ErrOver
	}
	return a * b, api.OK
}

// Count tells how many words over k symbols have at most n symbols.
func Count(k, n int) (int, api.Errno) {
	if !isAlphabet(k) || n < 0 {
		return 0, api.ErrArg
	}
	// One word a length: the loop below would take n steps, up to MaxCount.
	if k == 1 {
		if n >= api.MaxCount {
			return 0, api.ErrOver
		}
		return n + 1, api.OK
	}
	// The empty word, and each shorter word behind each of the k symbols.
	count := 1
	for range n {
		longer, e := Mul(count, k)
		if e == api.OK {
			count, e = Add(longer, 1)
		}
		if e != api.OK {
			return 0, e
		}
	}
	return count, api.OK
}

func isCounter(a int) bool {
	return a >= 0 && a <= api.MaxCount
}
