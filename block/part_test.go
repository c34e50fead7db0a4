package block_test

import (
	"math"
	"slices"
	"testing"

	"tutor/api"
	"tutor/block"
)

func newPart(t *testing.T, n int) *block.Part {
	t.Helper()
	p, e := block.New(n)
	if p == nil || e != api.OK {
		t.Fatalf("New(%d): %v, %d", n, p, e)
	}
	return p
}

// holdAll holds all that an object tells against the classes that it should
// have, those of 0 to n - 1.
func holdAll(t *testing.T, p *block.Part, want []int) {
	t.Helper()
	if got := p.All(); !slices.Equal(got, want) {
		t.Fatalf("All: %v, not %v", got, want)
	}
	for i, c := range want {
		if got, e := p.Class(i); got != c || e != api.OK {
			t.Fatalf("Class(%d): %d, %d in %v", i, got, e, want)
		}
	}
	members := make([][]int, slices.Max(want)+1)
	for i, c := range want {
		members[c] = append(members[c], i)
	}
	if got := p.Count(); got != len(members) {
		t.Fatalf("Count: %d in %v", got, want)
	}
	for c, l := range members {
		if got, e := p.Members(c); !slices.Equal(got, l) || e != api.OK {
			t.Fatalf("Members(%d): %v, %d in %v", c, got, e, want)
		}
	}
	if got, e := p.Members(len(members)); len(got) != 0 || e != api.ErrArg {
		t.Fatalf("Members(%d): %v, %d in %v", len(members), got, e, want)
	}
}

// splitTo splits by l, and holds what it tells and what it leaves.
func splitTo(t *testing.T, p *block.Part, l, made, all []int) {
	t.Helper()
	if got, e := p.Split(l); !slices.Equal(got, made) || e != api.OK {
		t.Fatalf("Split(%v): %v, %d, not %v", l, got, e, made)
	}
	holdAll(t, p, all)
}

// P6.1.
func TestNew(t *testing.T) {
	for _, n := range []int{1, 2, 7, api.MaxWords - 1, api.MaxWords} {
		holdAll(t, newPart(t, n), make([]int, n))
	}
	for _, c := range []struct {
		n int
		e api.Errno
	}{
		{0, api.ErrArg}, {-1, api.ErrArg}, {math.MinInt, api.ErrArg},
		{api.MaxWords + 1, api.ErrMany}, {1 << 32, api.ErrMany}, {math.MaxInt, api.ErrMany},
	} {
		if p, e := block.New(c.n); p != nil || e != c.e {
			t.Errorf("New(%d): %v, %d, not %d", c.n, p, e, c.e)
		}
	}
}

// P6.1: also where what is handed in may not be.
func TestNilObject(t *testing.T) {
	var p *block.Part
	for _, l := range [][]int{nil, {}, {0}, {1, 2}, {-1}, {math.MaxInt}} {
		if made, e := p.Split(l); len(made) != 0 || e != api.ErrNil {
			t.Errorf("Split(%v): %v, %d", l, made, e)
		}
	}
	for _, i := range []int{math.MinInt, -1, 0, 1, math.MaxInt} {
		if c, e := p.Class(i); c != 0 || e != api.ErrNil {
			t.Errorf("Class(%d): %d, %d", i, c, e)
		}
		if l, e := p.Members(i); len(l) != 0 || e != api.ErrNil {
			t.Errorf("Members(%d): %v, %d", i, l, e)
		}
	}
	if n := p.Count(); n != 0 {
		t.Errorf("Count: %d", n)
	}
	if l := p.All(); len(l) != 0 {
		t.Errorf("All: %v", l)
	}
}

// P6.2, P6.3: the chapter's example.
func TestExample(t *testing.T) {
	p := newPart(t, 4)
	splitTo(t, p, []int{1, 2}, []int{1}, []int{0, 1, 1, 0})
	splitTo(t, p, []int{0, 1, 1}, []int{2, 3}, []int{2, 3, 1, 0})
	if l, e := p.Members(0); !slices.Equal(l, []int{3}) || e != api.OK {
		t.Errorf("Members(0): %v, %d", l, e)
	}
}

// P6.2.
func TestSplit(t *testing.T) {
	type step struct{ l, made, all []int }
	for _, c := range []struct {
		name  string
		n     int
		steps []step
	}{
		{"one number", 1, []step{{nil, nil, []int{0}}, {[]int{0}, nil, []int{0}}, {[]int{0, 0}, nil, []int{0}}}},
		{"none", 3, []step{{nil, nil, []int{0, 0, 0}}, {[]int{}, nil, []int{0, 0, 0}}}},
		{"all", 3, []step{{[]int{2, 0, 1}, nil, []int{0, 0, 0}}}},
		{"all, some twice", 3, []step{{[]int{2, 0, 2, 1, 0, 2}, nil, []int{0, 0, 0}}}},
		{"all but one", 3, []step{{[]int{2, 0}, []int{1}, []int{1, 0, 1}}}},
		{"as many numbers as there are, but not all", 3, []step{{[]int{1, 1, 1}, []int{1}, []int{0, 1, 0}}}},
		{"those in the list are the new class, though they are more", 4, []step{{[]int{0, 1, 3}, []int{1}, []int{1, 1, 0, 1}}}},
		{"those in the list are the new class, though 0 is among them", 2, []step{{[]int{0}, []int{1}, []int{1, 0}}}},
		{"twice the same", 4, []step{{[]int{1, 2}, []int{1}, []int{0, 1, 1, 0}}, {[]int{2, 1}, nil, []int{0, 1, 1, 0}}}},
		{"what is left over", 4, []step{{[]int{1, 2}, []int{1}, []int{0, 1, 1, 0}}, {[]int{0, 3}, nil, []int{0, 1, 1, 0}}}},
		{"one class wholly, one in part", 4, []step{
			{[]int{1, 2}, []int{1}, []int{0, 1, 1, 0}},
			{[]int{2, 3, 1}, []int{2}, []int{0, 1, 1, 2}},
		}},
		{"classes by their numbers, not by the list", 6, []step{
			{[]int{3, 4, 5}, []int{1}, []int{0, 0, 0, 1, 1, 1}},
			{[]int{4, 1}, []int{2, 3}, []int{0, 2, 0, 1, 3, 1}},
			{[]int{5, 2}, []int{4, 5}, []int{0, 2, 4, 1, 3, 5}},
		}},
		{"classes by their numbers, not by their least", 6, []step{
			{[]int{0, 1}, []int{1}, []int{1, 1, 0, 0, 0, 0}},
			{[]int{2, 3}, []int{2}, []int{1, 1, 2, 2, 0, 0}},
			{[]int{1, 3, 5}, []int{3, 4, 5}, []int{1, 4, 2, 5, 0, 3}},
		}},
		{"new classes are not split by the same list", 3, []step{
			{[]int{1}, []int{1}, []int{0, 1, 0}},
			{[]int{1, 0}, []int{2}, []int{2, 1, 0}},
		}},
	} {
		t.Run(c.name, func(t *testing.T) {
			p := newPart(t, c.n)
			for _, s := range c.steps {
				splitTo(t, p, s.l, s.made, s.all)
			}
		})
	}
}

// P6.2: many classes at once, in the order of their numbers, which is turned
// round against that of what is in them.
func TestSplitMany(t *testing.T) {
	const half = 500
	p := newPart(t, 2*half)
	all := make([]int, 2*half)
	for c := 1; c < half; c++ {
		pair := []int{2 * (half - 1 - c), 2*(half-1-c) + 1}
		all[pair[0]], all[pair[1]] = c, c
		if made, e := p.Split(pair); !slices.Equal(made, []int{c}) || e != api.OK {
			t.Fatalf("Split(%v): %v, %d", pair, made, e)
		}
	}
	var odd, want []int
	for c := range half {
		odd, want = append(odd, 2*c+1), append(want, half+c)
	}
	for _, i := range odd {
		all[i] += half
	}
	splitTo(t, p, odd, want, all)
}

// P6.2: a wrong number, wherever it stands, changes nothing.
func TestSplitWrong(t *testing.T) {
	for _, n := range []int{1, 2, 5} {
		for _, wrong := range []int{math.MinInt, -n, -1, n, n + 1, 1 << 32, math.MaxInt} {
			p := newPart(t, n)
			before := make([]int, n)
			for _, l := range [][]int{{wrong}, {wrong, 0}, {0, wrong}, {0, 0, wrong, n - 1}, {wrong, wrong}} {
				if made, e := p.Split(l); len(made) != 0 || e != api.ErrArg {
					t.Errorf("of %d numbers, Split(%v): %v, %d", n, l, made, e)
				}
				holdAll(t, p, before)
			}
		}
	}
	p := newPart(t, 5)
	splitTo(t, p, []int{1, 3}, []int{1}, []int{0, 1, 0, 1, 0})
	if made, e := p.Split([]int{3, 4, 5}); len(made) != 0 || e != api.ErrArg {
		t.Errorf("a wrong number at the end: %v, %d", made, e)
	}
	holdAll(t, p, []int{0, 1, 0, 1, 0})
	splitTo(t, p, []int{3, 4}, []int{2, 3}, []int{0, 1, 0, 3, 2})
}

// P6.3.
func TestAskedWrong(t *testing.T) {
	p := newPart(t, 3)
	splitTo(t, p, []int{1}, []int{1}, []int{0, 1, 0})
	for _, i := range []int{math.MinInt, -3, -1, 3, 4, math.MaxInt} {
		if c, e := p.Class(i); c != 0 || e != api.ErrArg {
			t.Errorf("Class(%d): %d, %d", i, c, e)
		}
	}
	for _, c := range []int{math.MinInt, -2, -1, 2, 3, math.MaxInt} {
		if l, e := p.Members(c); len(l) != 0 || e != api.ErrArg {
			t.Errorf("Members(%d): %v, %d", c, l, e)
		}
	}
	holdAll(t, p, []int{0, 1, 0})
}

// P6.3: in order, however the list stood and whatever was split before.
func TestMembersInOrder(t *testing.T) {
	p := newPart(t, 9)
	splitTo(t, p, []int{8, 2, 5, 0, 3}, []int{1}, []int{1, 0, 1, 1, 0, 1, 0, 0, 1})
	splitTo(t, p, []int{7, 1, 5, 3, 5}, []int{2, 3}, []int{1, 2, 1, 3, 0, 3, 0, 2, 1})
	for c, want := range [][]int{{4, 6}, {0, 2, 8}, {1, 7}, {3, 5}} {
		if got, e := p.Members(c); !slices.Equal(got, want) || e != api.OK {
			t.Errorf("Members(%d): %v, %d, not %v", c, got, e, want)
		}
	}
}

// As many numbers as may be, until each is alone: bit by bit, and one by one.
func TestGreatest(t *testing.T) {
	const n = api.MaxWords
	p := newPart(t, n)
	all := make([]int, n)
	for bit := 1; bit < n; bit *= 2 {
		var l, made []int
		for i := range n {
			if i&bit != 0 {
				l = append(l, i)
				all[i] += bit
			}
		}
		for c := range bit {
			made = append(made, bit+c)
		}
		splitTo(t, p, l, made, all)
	}
	p = newPart(t, n)
	for i := range n - 1 {
		if made, e := p.Split([]int{n - 1 - i}); !slices.Equal(made, []int{i + 1}) || e != api.OK {
			t.Fatalf("Split of %d: %v, %d", n-1-i, made, e)
		}
	}
	for i := range n {
		all[i] = (n - i) % n
	}
	holdAll(t, p, all)
}

// Many numbers in the list, far more than are held.
func TestSplitLongList(t *testing.T) {
	p := newPart(t, 3)
	l := make([]int, 1<<20)
	for at := range l {
		l[at] = at % 2 * 2
	}
	splitTo(t, p, l, []int{1}, []int{1, 0, 1})
}

// Two objects share nothing.
func TestObjectsApart(t *testing.T) {
	p, q := newPart(t, 4), newPart(t, 4)
	splitTo(t, p, []int{1, 2}, []int{1}, []int{0, 1, 1, 0})
	holdAll(t, q, []int{0, 0, 0, 0})
	splitTo(t, q, []int{0}, []int{1}, []int{1, 0, 0, 0})
	holdAll(t, p, []int{0, 1, 1, 0})
}

// What the zero value tells is open, but it tells something.
func TestZeroValueEnds(t *testing.T) {
	var p block.Part
	for _, l := range [][]int{nil, {0}, {-1, 1}} {
		p.Split(l)
	}
	for i := -1; i <= 1; i++ {
		p.Class(i)
		p.Members(i)
	}
	p.Count()
	p.All()
}
