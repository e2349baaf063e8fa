package avl

import (
	"testing"
)

// shape holds what the nodes of a tree tell against the tree, and answers it: each one's totals are so, and its sides' heights differ by one at most.
func shape(t *testing.T, n *node) totals {
	t.Helper()
	if n == nil {
		return totals{}
	}
	l, r := shape(t, n.sides[left]), shape(t, n.sides[right])
	want := totals{items: l.items + r.items + 1, sum: l.sum + r.sum + n.size, height: max(l.height, r.height) + 1}
	if n.total != want {
		t.Fatalf("a node tells %v, it is %v", n.total, want)
	}
	if l.height > r.height+1 || r.height > l.height+1 {
		t.Fatalf("a node's sides are %d and %d high", l.height, r.height)
	}
	return want
}

// nodes is all nodes of a tree as they are.
func nodes(l *Tree) map[*node]node {
	out := map[*node]node{}
	l.root.each(func(n *node) { out[n] = *n })
	return out
}

// touched is how many nodes a change has made, or made other ones.
func touched(l *Tree, change func()) int {
	was := nodes(l)
	change()
	k := 0
	for at, n := range nodes(l) {
		if was[at] != n {
			k++
		}
	}
	return k
}

// P4.2: Height is that of the tree that there is, behind each change.
func TestShape(t *testing.T) {
	l := New()
	for i := range 2000 {
		n := l.Len()
		switch i % 7 {
		case 0, 1, 2:
			l.Insert(i*i%(n+1), i, i%5)
		case 3:
			l.Insert(n, i, i%5)
		case 4:
			l.Insert(0, i, i%5)
		case 5:
			l.Remove(i * 31 % n)
		case 6:
			l.Set(i*17%n, i, i%3)
		}
		if got := shape(t, l.root); got.items != l.Len() || got.sum != l.Sum() || got.height != l.Height() {
			t.Fatalf("Len, Sum, Height are %d, %d, %d, the tree's are %v", l.Len(), l.Sum(), l.Height(), got)
		}
	}
	for l.Len() > 0 {
		l.Remove(l.Len() * 2 / 3)
		shape(t, l.root)
	}
	if l.root != nil {
		t.Error("of an empty list something is kept")
	}
}

// P4.2: from both sides, and from each place within, down to nothing.
func TestShapeTakenDown(t *testing.T) {
	for n := range 40 {
		for from := range n {
			l := New()
			for i := range n {
				l.Insert(i*7%(i+1), i, 1)
			}
			for l.Len() > 0 {
				l.Remove(min(from, l.Len()-1))
				shape(t, l.root)
			}
		}
	}
}

// T5: a change touches the nodes above its item and some beside them, of all others none; a question touches none.
func TestLittleWork(t *testing.T) {
	l := New()
	for i := range 3000 {
		l.Insert(i*i%(i+1), i, i%9)
	}
	most := 3 * (l.Height() + 1)
	for i := range 75 {
		at := i * 40
		for name, change := range map[string]func(){
			"Insert": func() { l.Insert(at, i, i) },
			"Remove": func() { l.Remove(at) },
			"Set":    func() { l.Set(at, i, i+1) },
		} {
			if k := touched(l, change); k > most {
				t.Fatalf("%s(%d) touches %d nodes of %d", name, at, k, l.Len())
			}
		}
		if k := touched(l, func() { l.Get(at); l.Find(at); l.Before(at); l.Keys() }); k > 0 {
			t.Fatalf("questions touch %d nodes", k)
		}
	}
}

// T5: a search looks at no more nodes than the tree is high.
func TestLittleLooking(t *testing.T) {
	l := New()
	for i := range 5000 {
		l.Insert(i*i%(i+1), i, i%9)
	}
	for want := -1; want <= l.Sum()+1; want++ {
		var s search
		for _, lead := range []func(*node) int{s.byPlace, s.byGap, s.byEnd} {
			s = search{want: want}
			looks := 0
			l.root.follow(func(n *node) int {
				looks++
				return lead(n)
			})
			if looks > l.Height() {
				t.Fatalf("a search for %d looks at %d nodes, the tree is %d high", want, looks, l.Height())
			}
		}
	}
}
