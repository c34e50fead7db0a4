package table

import (
	"slices"

	"tutor/api"
)

// line is a row or an edge.
type line struct {
	word     spelt
	edges    int // the place of its first edge, the others stand behind it; 0: it is no row
	compared int // by so many columns, from the first one on, its class is found
	class    int // lines that are compared by as many columns have the same one, if their cells are the same
}

// cell is what is said; nothing, if its word is too long to be asked for.
type cell struct {
	said spelt
}

// step is a class of lines, and a cell by which it is split.
type step struct {
	class int
	cell  cell
}

func (l line) isRow() bool {
	return l.edges > 0
}

func (t *Table) edge(place, x int) int {
	return t.lines[place].edges + x
}

// find tells the place of the row or edge that is w; w must be a word.
func (t *Table) find(w []int) (place int, ok bool) {
	for _, x := range w {
		if !t.lines[place].isRow() {
			return 0, false
		}
		place = t.edge(place, x)
	}
	return place, true
}

// makeRow makes a row of an edge. Its own edges are words that stand right
// behind one another in the order.
func (t *Table) makeRow(place int) {
	w := t.lines[place].word
	t.lines[place].edges = len(t.lines)
	t.rows = append(t.rows, place)
	at, _ := slices.BinarySearchFunc(t.order, w+symbol(0), func(p int, v spelt) int { return t.lines[p].word.compare(v) })
	var edges list[int]
	for x := range t.k {
		edges = append(edges, len(t.lines))
		t.lines = append(t.lines, line{word: w + symbol(x)})
	}
	t.order = slices.Insert(t.order, at, edges...)
	for c, n := range t.known {
		t.known[c] = min(n, at)
	}
}

func (t *Table) makeCol(e spelt) {
	t.cols = append(t.cols, e)
	t.known = append(t.known, 0)
}

// cell tells the cell of a line and a column, if it is known. Of a word that
// is too long it is known that nothing is said.
func (t *Table) cell(place, c int) (told cell, ok bool) {
	u, e := t.lines[place].word, t.cols[c]
	if len(u)+len(e) > api.MaxWord {
		return cell{}, true
	}
	told, ok = t.cells[u+e]
	if ok && t.kind == api.Mealy {
		told.said = told.said[len(u):]
	}
	return told, ok
}

// cellsOf tells what stands in a row, or behind an edge, of so many columns
// from the first one on; it must be known.
func (t *Table) cellsOf(place, cols int) list[cell] {
	var l list[cell]
	for c := range cols {
		told, _ := t.cell(place, c)
		l = append(l, told)
	}
	return l
}

func (t *Table) isKnown(place, c int) bool {
	if c < t.lines[place].compared {
		return true
	}
	_, ok := t.cell(place, c)
	return ok
}

// firstMissing looks at one word a column: behind it the lines make words that
// stand in the order in which the lines stand.
func (t *Table) firstMissing() (w spelt, ok bool) {
	most := api.MaxWord
	for c := range t.cols {
		v, missing := t.missingIn(c, most)
		if missing && (!ok || v.compare(w) < 0) {
			w, ok, most = v, true, len(v)
		}
	}
	return w, ok
}

// missingIn tells the first word of a column whose cell is not known, if that
// has at most so many symbols. What is known stays so: it goes on from where
// it was.
func (t *Table) missingIn(c, most int) (w spelt, ok bool) {
	for _, place := range t.order[t.known[c]:] {
		u, e := t.lines[place].word, t.cols[c]
		if len(u)+len(e) > most {
			break
		}
		if !t.isKnown(place, c) {
			return u + e, true
		}
		t.known[c]++
	}
	return "", false
}

// compareAll finds the class of each line; false, if a cell is missing. Cells
// stay as they are, so that a line goes on with the columns that came
// meanwhile.
func (t *Table) compareAll() bool {
	if _, missing := t.firstMissing(); missing {
		return false
	}
	for place := range t.lines {
		l := &t.lines[place]
		for ; l.compared < len(t.cols); l.compared++ {
			told, _ := t.cell(place, l.compared)
			l.class = t.classBehind(step{l.class, told})
		}
	}
	return true
}

// classBehind numbers classes from 1 on, as they come; 0 is that of all lines
// ahead of the first column.
func (t *Table) classBehind(s step) int {
	class, there := t.classes[s]
	if !there {
		class = len(t.classes) + 1
		t.classes[s] = class
	}
	return class
}

// open tells the place of the first edge that is alike to no row; all lines
// must be compared.
func (t *Table) open() (place int, ok bool) {
	held := map[int]int{}
	for _, place := range t.rows {
		held[t.lines[place].class]++
	}
	for _, row := range t.rows {
		for x := range t.k {
			place = t.edge(row, x)
			if held[t.lines[place].class] == 0 {
				return place, true
			}
		}
	}
	return 0, false
}

// torn tells a column by which rows that are alike would be no more; all lines
// must be compared.
func (t *Table) torn() (w spelt, ok bool) {
	for i, a := range t.rows {
		for _, b := range t.rows[i+1:] {
			if t.lines[a].class != t.lines[b].class {
				continue
			}
			if w, ok = t.tornBetween(a, b); ok {
				return w, true
			}
		}
	}
	return "", false
}

func (t *Table) tornBetween(a, b int) (w spelt, ok bool) {
	for x := range t.k {
		next, other := t.edge(a, x), t.edge(b, x)
		if t.lines[next].class == t.lines[other].class {
			continue
		}
		c := t.cellsOf(next, len(t.cols)).common(t.cellsOf(other, len(t.cols)))
		return symbol(x) + t.cols[c], true
	}
	return "", false
}
