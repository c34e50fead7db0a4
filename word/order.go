package word

import (
	"slices"

	"tutor/api"
)

// Next answers the word over k symbols that comes right behind w.
func Next(w []int, k int) ([]int, api.Errno) {
	if _, e := Check(w, k); e != api.OK {
		return nil, e
	}
	if next, ok := sameLength(w, k); ok {
		return next, api.OK
	}
	if len(w) == api.MaxWord {
		return nil, api.ErrLong
	}
	return make([]int, len(w)+1), api.OK
}

// At answers the word over k symbols that has i words ahead of it.
func At(k, i int) ([]int, api.Errno) {
	if !isAlphabet(k) || i < 0 {
		return nil, api.ErrArg
	}
	if i > api.MaxCount {
		return nil, api.ErrOver
	}
	// The words in their order are the numbers written with the digits 1 to k
	// and no zero; symbol x is the digit x + 1. The last one is found first.
	var w []int
	for ; i > 0; i = (i - 1) / k {
		if len(w) == api.MaxWord {
			return nil, api.ErrLong
		}
		w = append(w, (i-1)%k)
	}
	slices.Reverse(w)
	return w, api.OK
}

// Rank counts the words over k symbols that are ahead of w.
func Rank(w []int, k int) (int, api.Errno) {
	if _, e := Check(w, k); e != api.OK {
		return 0, e
	}
	rank := 0
	for i := range len(w) {
		// A beginning has no more words ahead of it than w, so that one can
		// stop here, and MaxCount times MaxAlphabet is far from wrapping round.
		rank = rank*k + w[i] + 1
		if rank > api.MaxCount {
			return 0, api.ErrOver
		}
	}
	return rank, api.OK
}

// All lists the words over k symbols with at most n symbols, in the order.
func All(k, n int) ([][]int, api.Errno) {
	count, e := Count(k, n)
	if e != api.OK {
		return nil, e
	}
	if count > api.MaxWords {
		return nil, api.ErrMany
	}
	all := make([][]int, 0, count)
	// Not by Next: over one symbol n may be above MaxWord.
	for length := range n + 1 {
		for w, more := make([]int, length), true; more; w, more = sameLength(w, k) {
			all = append(all, w)
		}
	}
	return all, api.OK
}

// sameLength answers the next word that is as long as w, in new memory; false:
// w is the last one of its length.
func sameLength(w []int, k int) ([]int, bool) {
	at := len(w) - 1
	for at >= 0 && w[at] == k-1 {
		at--
	}
	if at < 0 {
		return nil, false
	}
	next := make([]int, len(w))
	copy(next, w[:at+1])
	next[at]++
	return next, true
}
