package avl_test

import (
	"math"
	"slices"
	"testing"

	"abecedary/api"
	"abecedary/avl"
)

const widest = 1 << 40

// item is what a list holds.
type item struct{ key, size int }

// list is what a tree stands for, by the words of the promise.
type list []item

func (l list) has(i int) bool { return i >= 0 && i < len(l) }

func (l list) before(i int) int {
	n := 0
	for k := range l {
		if k < i {
			n += l[k].size
		}
	}
	return n
}

func (l list) find(at int) (int, int) {
	if at < 0 {
		return 0, 0
	}
	from := 0
	for i, k := range l {
		if from+k.size > at {
			return i, at - from
		}
		from += k.size
	}
	return len(l), 0
}

func (l list) keys() []int {
	var out []int
	for _, k := range l {
		out = append(out, k.key)
	}
	return out
}

// highest is the greatest height that a tree of n items may have.
func highest(n int) int {
	h, least, next := 0, 0, 1
	for next <= n {
		h, least, next = h+1, next, least+next+1
	}
	return h
}

// both is a tree and the list that it stands for.
type both struct {
	tree *avl.Tree
	list list
}

func (b *both) insert(t *testing.T, i, key, size int) {
	t.Helper()
	want := i >= 0 && i <= len(b.list) && size >= 0 && size <= widest && len(b.list) < api.MaxText
	if got := b.tree.Insert(i, key, size); got != want {
		t.Fatalf("Insert(%d, %d, %d) into %d items: %v", i, key, size, len(b.list), got)
	}
	if want {
		b.list = slices.Insert(b.list, i, item{key, size})
	}
}

func (b *both) remove(t *testing.T, i int) {
	t.Helper()
	want := b.list.has(i)
	if got := b.tree.Remove(i); got != want {
		t.Fatalf("Remove(%d) of %d items: %v", i, len(b.list), got)
	}
	if want {
		b.list = slices.Delete(b.list, i, i+1)
	}
}

func (b *both) set(t *testing.T, i, key, size int) {
	t.Helper()
	want := b.list.has(i) && size >= 0 && size <= widest
	if got := b.tree.Set(i, key, size); got != want {
		t.Fatalf("Set(%d, %d, %d) of %d items: %v", i, key, size, len(b.list), got)
	}
	if want {
		b.list[i] = item{key, size}
	}
}

// whole holds what is told of all items against the list.
func (b *both) whole(t *testing.T) {
	t.Helper()
	n := len(b.list)
	if got := b.tree.Len(); got != n {
		t.Fatalf("Len of %d items: %d", n, got)
	}
	if got, want := b.tree.Sum(), b.list.before(n); got != want {
		t.Fatalf("Sum of %v: %d, want %d", b.list, got, want)
	}
	if got, want := b.tree.Keys(), b.list.keys(); !slices.Equal(got, want) {
		t.Fatalf("Keys: %v, want %v", got, want)
	}
	if got := b.tree.Height(); got > highest(n) || got < 0 || got > 62 || n >= 1<<got {
		t.Fatalf("Height of %d items: %d", n, got)
	}
}

// item holds what is told of one place in the list against it.
func (b *both) item(t *testing.T, i int) {
	t.Helper()
	var want item
	if b.list.has(i) {
		want = b.list[i]
	}
	key, size, ok := b.tree.Get(i)
	if key != want.key || size != want.size || ok != b.list.has(i) {
		t.Fatalf("Get(%d) of %v: %d, %d, %v", i, b.list, key, size, ok)
	}
	at := b.list.before(i)
	if got := b.tree.Before(i); got != at {
		t.Fatalf("Before(%d) of %v: %d, want %d", i, b.list, got, at)
	}
	for _, x := range []int{at - 1, at, at + 1, at + want.size/2, at + want.size - 1, at + want.size} {
		b.find(t, x)
	}
	if found, off := b.tree.Find(at); want.size > 0 && (found != i || off != 0) {
		t.Fatalf("Find(Before(%d)) of %v: %d, %d", i, b.list, found, off)
	}
}

// find holds what lies at a place against the list.
func (b *both) find(t *testing.T, at int) {
	t.Helper()
	i, off := b.list.find(at)
	if got, far := b.tree.Find(at); got != i || far != off {
		t.Fatalf("Find(%d) of %v: %d, %d, want %d, %d", at, b.list, got, far, i, off)
	}
}

// all holds a tree against its list at all places, those around it too.
func (b *both) all(t *testing.T) {
	t.Helper()
	b.whole(t)
	for i := -2; i <= len(b.list)+2; i++ {
		b.item(t, i)
	}
	for _, x := range []int{math.MinInt, math.MinInt + 1, -1 << 40, 1 << 40, 1 << 60, math.MaxInt - 1, math.MaxInt} {
		b.item(t, x)
	}
}

// of is a tree of such sizes; its keys are the places that they begin with.
func of(t *testing.T, sizes ...int) *both {
	t.Helper()
	b := &both{tree: avl.New()}
	for i, size := range sizes {
		b.insert(t, i, i, size)
	}
	return b
}

// mixer is numbers that look like any, the same ones each time.
type mixer uint64

func (m *mixer) below(n int) int {
	*m = *m*6364136223846793005 + 1442695040888963407
	return int(uint64(*m) >> 33 % uint64(n))
}

// P4.1, P4.2: a list of nothing.
func TestNothing(t *testing.T) {
	b := of(t)
	b.all(t)
	if b.tree.Height() != 0 {
		t.Error("Height of no item is", b.tree.Height())
	}
	for _, i := range []int{-1, 0, 1} {
		b.remove(t, i)
		b.set(t, i, 7, 7)
	}
	b.all(t)
}

// P4.1: ordinary items, in the middle and at both ends, told by hand.
func TestOrdinary(t *testing.T) {
	l := avl.New()
	if !l.Insert(0, 20, 5) || !l.Insert(0, 10, 3) || !l.Insert(2, 40, 2) || !l.Insert(2, 30, 0) {
		t.Fatal("Insert")
	}
	if l.Len() != 4 || l.Sum() != 10 || !slices.Equal(l.Keys(), []int{10, 20, 30, 40}) {
		t.Error(l.Len(), l.Sum(), l.Keys())
	}
	for at, want := range map[int][2]int{-1: {0, 0}, 0: {0, 0}, 2: {0, 2}, 3: {1, 0}, 7: {1, 4}, 8: {3, 0}, 9: {3, 1}, 10: {4, 0}, 11: {4, 0}} {
		if i, off := l.Find(at); i != want[0] || off != want[1] {
			t.Errorf("Find(%d): %d, %d", at, i, off)
		}
	}
	for i, want := range map[int]int{-1: 0, 0: 0, 1: 3, 2: 8, 3: 8, 4: 10, 5: 10} {
		if got := l.Before(i); got != want {
			t.Errorf("Before(%d): %d", i, got)
		}
	}
	if !l.Set(2, 31, 4) || !l.Remove(0) {
		t.Error("Set, Remove")
	}
	if key, size, ok := l.Get(1); key != 31 || size != 4 || !ok {
		t.Error("Get(1):", key, size, ok)
	}
	if l.Len() != 3 || l.Sum() != 11 || !slices.Equal(l.Keys(), []int{20, 31, 40}) {
		t.Error(l.Len(), l.Sum(), l.Keys())
	}
}

// P4.1: all ways to change a small list, one behind the other.
func TestAllSmallWays(t *testing.T) {
	sizes := []int{2, 0, 1, widest, 3, 0}
	var grow func(steps []func(*both))
	grow = func(steps []func(*both)) {
		b := &both{tree: avl.New()}
		for _, s := range steps {
			s(b)
		}
		b.all(t)
		k := len(steps)
		if k == len(sizes) {
			return
		}
		next := func(s func(*both)) { grow(append(slices.Clone(steps), s)) }
		for i := range len(b.list) + 1 {
			next(func(b *both) { b.insert(t, i, k, sizes[k]) })
		}
		for i := range b.list {
			next(func(b *both) { b.remove(t, i) })
		}
		if n := len(b.list); n > 0 {
			next(func(b *both) { b.set(t, n/2, -k, sizes[k]) })
		}
	}
	grow(nil)
}

// P4.1, P4.2: long lists that grow and shrink at all places.
func TestManyChanges(t *testing.T) {
	m := mixer(1)
	b := of(t)
	for round := range 12 {
		for range 600 {
			n := len(b.list)
			size := []int{0, 1, 2, 5, 1000, widest}[m.below(6)]
			switch x := m.below(10); {
			case x < 2:
				b.set(t, m.below(n+2)-1, m.below(99)-50, size)
			case (x < 7) == (round%3 < 2):
				b.insert(t, m.below(n+1), m.below(99)-50, size)
			default:
				b.remove(t, m.below(n+2)-1)
			}
			b.whole(t)
			b.item(t, m.below(n+1))
			b.find(t, m.below(b.list.before(n)+2))
		}
		b.all(t)
	}
	for len(b.list) > 0 {
		b.remove(t, m.below(len(b.list)))
		b.whole(t)
	}
	b.all(t)
}

// P4.1: what is refused is false, and nothing.
func TestRefused(t *testing.T) {
	b := of(t, 4, 0, 2)
	for _, i := range []int{math.MinInt, -5, -1, 3, 4, 1 << 40, math.MaxInt} {
		if i != 3 {
			b.insert(t, i, 1, 1)
		}
		b.remove(t, i)
		b.set(t, i, 1, 1)
		b.all(t)
	}
	for _, size := range []int{math.MinInt, -widest, -1, widest + 1, 1 << 41, math.MaxInt} {
		for i := -1; i <= 4; i++ {
			b.insert(t, i, 9, size)
			b.set(t, i, 9, size)
		}
		b.all(t)
	}
	if b.tree.Len() != 3 || b.tree.Sum() != 6 || !slices.Equal(b.tree.Keys(), []int{0, 1, 2}) {
		t.Error("a refused call has changed something")
	}
}

// P4.1: sizes at their edges, keys of all kinds.
func TestEdgesOfItems(t *testing.T) {
	b := of(t, widest, 0, widest, 0)
	b.insert(t, 2, math.MinInt, widest)
	b.insert(t, 0, math.MaxInt, 0)
	b.insert(t, 6, -1, 0)
	b.insert(t, 7, math.MaxInt, 1)
	b.all(t)
	b.set(t, 7, math.MinInt, widest)
	b.set(t, 1, 0, 0)
	b.all(t)
	if b.tree.Sum() != 3*widest {
		t.Error("Sum:", b.tree.Sum())
	}
}

// P4.1: items of size 0 hold no place: the first one whose end is above lies behind them.
func TestItemsWithoutSize(t *testing.T) {
	of(t, 0, 0, 0).all(t)
	of(t, 0, 0, 5, 0, 0, 1, 0).all(t)
	for _, c := range []struct {
		sizes []int
		at    int
		i     int
		off   int
	}{
		{[]int{0, 0, 5}, 0, 2, 0}, {[]int{0, 0, 5}, -1, 0, 0}, {[]int{0, 0}, 0, 2, 0}, {[]int{0, 0}, -7, 0, 0}, {[]int{5, 0}, 5, 2, 0}, {[]int{5, 0, 1}, 5, 2, 0}, {[]int{5, 0, 1}, 4, 0, 4},
	} {
		if i, off := of(t, c.sizes...).tree.Find(c.at); i != c.i || off != c.off {
			t.Errorf("Find(%d) of sizes %v: %d, %d", c.at, c.sizes, i, off)
		}
	}
}

// P4.2: the document's example: three items, in whichever order they came; and other heights that are sure.
func TestSureHeights(t *testing.T) {
	for _, places := range [][]int{{0, 1, 2}, {0, 0, 0}, {0, 1, 1}, {0, 0, 1}, {0, 0, 2}, {0, 1, 0}} {
		l := avl.New()
		for _, i := range places {
			l.Insert(i, 7, 7)
		}
		if l.Height() != 2 {
			t.Errorf("three items, put at %v: height %d", places, l.Height())
		}
	}
	b := of(t)
	for n, want := range []int{0, 1, 2, 2, 3} {
		if got := b.tree.Height(); got != want {
			t.Errorf("%d items: height %d", n, got)
		}
		b.insert(t, n, n, n)
	}
}

// P4.2: the numbers that the document names.
func TestHighest(t *testing.T) {
	for n, want := range []int{0, 1, 2, 2, 3, 3, 3, 4, 4, 4, 4, 4, 5} {
		if got := highest(n); got != want {
			t.Errorf("%d items: at most %d high, the document says %d", n, got, want)
		}
	}
}

// P4.1, P4.2, T5: as many items as there may be, put at the end, at the front, in the middle, anywhere, and taken again.
func TestFull(t *testing.T) {
	m := mixer(5)
	ways := map[string]func(n int) int{
		"end":      func(n int) int { return n },
		"front":    func(n int) int { return 0 },
		"middle":   func(n int) int { return n / 2 },
		"both":     func(n int) int { return n % 2 * n },
		"anywhere": func(n int) int { return m.below(n + 1) },
	}
	for name, place := range ways {
		l := avl.New()
		for n := range api.MaxText {
			if !l.Insert(place(n), n, widest) || l.Len() != n+1 || l.Height() > highest(n+1) {
				t.Fatalf("%s: %d items: Len %d, Height %d", name, n+1, l.Len(), l.Height())
			}
		}
		full(t, l)
		for n := api.MaxText - 1; n >= 0; n-- {
			if !l.Remove(place(n)) || l.Len() != n || l.Height() > highest(n) || l.Sum() != n*widest {
				t.Fatalf("%s: back to %d items: Len %d, Height %d", name, n, l.Len(), l.Height())
			}
		}
	}
}

// full holds a full list of the widest items: there is no room for one more, whatever it is.
func full(t *testing.T, l *avl.Tree) {
	t.Helper()
	n := api.MaxText
	keys := l.Keys()
	for _, i := range []int{-1, 0, 1, n / 2, n, n + 1} {
		if l.Insert(i, 5, 0) || l.Insert(i, 5, 5) {
			t.Fatalf("Insert(%d) into a full list", i)
		}
	}
	if l.Len() != n || l.Sum() != n*widest || !slices.Equal(l.Keys(), keys) {
		t.Fatal("a refused call has changed a full list")
	}
	if i, off := l.Find(n*widest - 1); i != n-1 || off != widest-1 {
		t.Fatalf("Find of the last place: %d, %d", i, off)
	}
	if !l.Remove(n/2) || !l.Insert(n/2, keys[n/2], widest) || l.Insert(0, 0, 0) {
		t.Fatal("a list that was full")
	}
	if !l.Set(n-1, keys[n-1], 0) || l.Sum() != (n-1)*widest || !l.Set(n-1, keys[n-1], widest) || !slices.Equal(l.Keys(), keys) {
		t.Fatal("Set in a full list")
	}
}

// P4.3: Find of Before.
func TestFindOfBefore(t *testing.T) {
	b := of(t)
	for i := range 300 {
		b.insert(t, i/3, i, i%4*i)
	}
	b.all(t)
}

// R3, R4: two lists have nothing in common; what Keys answers is new memory.
func TestNothingInCommon(t *testing.T) {
	one, two := of(t, 1, 2, 3), of(t, 1, 2, 3)
	one.remove(t, 1)
	one.set(t, 0, 5, 5)
	two.all(t)
	one.all(t)
	keys := two.tree.Keys()
	more := append(keys, 8)
	keys[0] = 9
	other := append(two.tree.Keys(), 7)
	if more[3] != 8 || other[3] != 7 || other[0] != 0 {
		t.Error("two answers of Keys share memory")
	}
	two.insert(t, 0, 6, 6)
	if !slices.Equal(keys, []int{9, 1, 2}) {
		t.Error("a change has changed an answer")
	}
	two.all(t)
}
