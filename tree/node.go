package tree

import "tutor/word"

// node is a part of the tree: an inner node or a leaf.
type node interface {
	place() spot
}

// spot is where a node stands.
type spot struct {
	above *inner // nil: it is the root
	by    said   // the answer at the node above, whose child it is
	depth int    // so many inner nodes stand above
}

// inner asks what is said with its word.
type inner struct {
	spot
	word     []int
	children map[said]node
}

// leaf is a state.
type leaf struct {
	spot
	state  int
	access []int
}

// said is an answer at an inner node, each of its numbers a byte: a key.
type said string

func spell(out []int) said {
	b := make([]byte, len(out))
	for i, x := range out {
		b[i] = byte(x)
	}
	return said(b)
}

func (s spot) place() spot {
	return s
}

func (n *inner) below(by said) spot {
	return spot{above: n, by: by, depth: n.depth + 1}
}

// where tells at which inner node what is sifted is, or to which leaf it has
// come; neither, if nothing is sifted.
func (t *Tree) where() (*inner, *leaf) {
	switch n := t.at.(type) {
	case *inner:
		return n, nil
	case *leaf:
		return nil, n
	}
	return nil, nil
}

func (t *Tree) makeNode(at spot, d []int) *inner {
	n := &inner{spot: at, word: word.Join(d), children: map[said]node{}}
	t.hang(n)
	return n
}

func (t *Tree) makeState(at spot, w []int) *leaf {
	l := &leaf{spot: at, state: len(t.leaves), access: word.Join(w)}
	t.leaves = append(t.leaves, l)
	t.hang(l)
	return l
}

func (t *Tree) move(l *leaf, to spot) {
	l.spot = to
	t.hang(l)
}

// hang makes the tree know a node by where it stands. Nothing is ever taken
// away, so the greatest depth stays one.
func (t *Tree) hang(n node) {
	at := n.place()
	t.depth = max(t.depth, at.depth)
	if at.above == nil {
		t.root = n
		return
	}
	at.above.children[at.by] = n
}

// lowestAbove tells the lowest inner node above two leaves that are not one.
func lowestAbove(a, b *leaf) *inner {
	n, other := a.above, b.above
	for n != other {
		if n.depth >= other.depth {
			n = n.above
		} else {
			other = other.above
		}
	}
	return n
}
