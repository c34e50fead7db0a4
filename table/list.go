package table

import (
	"cmp"
	"slices"
)

// list is what stands in a row, one behind the other: words, places of them,
// the cells of one row of the table.
type list[T comparable] []T

func (l list[T]) has(x T) bool {
	return slices.Contains(l, x)
}

// common tells how many things two lists that are as long have in common, ahead
// of the first one in which they differ.
func (l list[T]) common(other list[T]) int {
	for i, x := range l {
		if x != other[i] {
			return i
		}
	}
	return len(l)
}

// spelt is a list of numbers, symbols or what is said, each of them a byte:
// one can be put behind another and held against it, and be a key.
type spelt string

func spell(l []int) spelt {
	b := make([]byte, len(l))
	for i, x := range l {
		b[i] = byte(x)
	}
	return spelt(b)
}

func symbol(x int) spelt {
	return spell([]int{x})
}

func (s spelt) numbers() []int {
	l := make([]int, len(s))
	for i := range len(s) {
		l[i] = int(s[i])
	}
	return l
}

// compare tells which of two words is ahead, as word.Compare does.
func (s spelt) compare(other spelt) int {
	if len(s) != len(other) {
		return cmp.Compare(len(s), len(other))
	}
	return cmp.Compare(s, other)
}
