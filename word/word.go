// Package word is layer 1: words over numbers, their order, their places in
// it, and counters with an end. See shared/doc/01-word.md.
package word

import (
	"cmp"

	"tutor/api"
)

// Check tells whether w is a word over k symbols, and where it first is none.
func Check(w []int, k int) (at int, e api.Errno) {
	if !isAlphabet(k) {
		return 0, api.ErrArg
	}
	if len(w) > api.MaxWord {
		return 0, api.ErrLong
	}
	for i := range len(w) {
		if w[i] < 0 || w[i] >= k {
			return i, api.ErrSymbol
		}
	}
	return 0, api.OK
}

// Compare tells which of two lists is ahead: -1 if a is, 1 if b is, 0 if they
// are the same.
func Compare(a, b []int) int {
	if len(a) != len(b) {
		return cmp.Compare(len(a), len(b))
	}
	for i := range len(a) {
		if a[i] != b[i] {
			return cmp.Compare(a[i], b[i])
		}
	}
	return 0
}

// Join puts lists one behind the other.
func Join(l ...[]int) []int {
	var joined []int
	for _, w := range l {
		joined = append(joined, w...)
	}
	return joined
}

// Prefixes lists the beginnings of w, from the empty one to w.
func Prefixes(w []int) [][]int {
	l := make([][]int, len(w)+1)
	for n := range len(w) + 1 {
		l[n] = fresh(w[:n])
	}
	return l
}

// Suffixes lists the ends of w, from the empty one to w.
func Suffixes(w []int) [][]int {
	l := make([][]int, len(w)+1)
	for n := range len(w) + 1 {
		l[n] = fresh(w[len(w)-n:])
	}
	return l
}

func isAlphabet(k int) bool {
	return k >= 1 && k <= api.MaxAlphabet
}

// fresh copies w, since a piece of w would share its memory, and its spare
// room, with whoever handed w in.
func fresh(w []int) []int {
	c := make([]int, len(w))
	copy(c, w)
	return c
}
