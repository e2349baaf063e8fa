package history_test

import (
	"fmt"
	"math"
	"slices"
	"testing"

	"abecedary/api"
	"abecedary/edit"
	"abecedary/history"
)

// group is n edits, such as no other seed has.
func group(n, seed int) []api.Edit {
	var out []api.Edit
	for i := range n {
		out = append(out, api.Edit{At: seed*1000 + i, Del: fmt.Sprint("del", seed), Ins: fmt.Sprint("ins", i)})
	}
	return out
}

// mixer is numbers that look like any, the same ones each time.
type mixer uint64

func (m *mixer) below(n int) int {
	*m = *m*6364136223846793005 + 1442695040888963407
	return int(uint64(*m) >> 33 % uint64(n))
}

// lists is what a history stands for by the words of P8.1: groups that can be undone, the last one at the end; groups that can be redone, the next one at the front.
type lists struct {
	depth      int
	undo, redo [][]api.Edit
}

func (l *lists) push(group []api.Edit) {
	if len(group) == 0 {
		return
	}
	l.undo, l.redo = append(l.undo, slices.Clone(group)), nil
	for len(l.undo) > l.depth {
		l.undo = l.undo[1:]
	}
}

func (l *lists) back() ([]api.Edit, bool) {
	n := len(l.undo)
	if n == 0 {
		return nil, false
	}
	group := l.undo[n-1]
	l.undo, l.redo = l.undo[:n-1], slices.Insert(l.redo, 0, group)
	return group, true
}

func (l *lists) again() ([]api.Edit, bool) {
	if len(l.redo) == 0 {
		return nil, false
	}
	group := l.redo[0]
	l.undo, l.redo = append(l.undo, group), l.redo[1:]
	return group, true
}

// both is a history and the lists that it stands for.
type both struct {
	history *history.History
	lists   lists
}

// of is a history of a depth, which the document cuts to cut.
func of(t *testing.T, depth, cut int) *both {
	t.Helper()
	h := history.New(depth)
	if h == nil {
		t.Fatalf("New(%d): nil", depth)
	}
	b := &both{history: h, lists: lists{depth: cut}}
	b.same(t)
	return b
}

// same holds how many there are against the lists.
func (b *both) same(t *testing.T) {
	t.Helper()
	undo, redo := b.history.Len()
	if undo != len(b.lists.undo) || redo != len(b.lists.redo) {
		t.Fatalf("depth %d: Len %d, %d, want %d, %d", b.lists.depth, undo, redo, len(b.lists.undo), len(b.lists.redo))
	}
}

func (b *both) push(t *testing.T, group []api.Edit) {
	t.Helper()
	b.lists.push(group)
	b.history.Push(group)
	b.same(t)
}

func (b *both) undo(t *testing.T) bool {
	t.Helper()
	want, wantOK := b.lists.back()
	got, ok := b.history.Undo()
	b.answered(t, "Undo", got, want, ok, wantOK)
	return ok
}

func (b *both) redo(t *testing.T) bool {
	t.Helper()
	want, wantOK := b.lists.again()
	got, ok := b.history.Redo()
	b.answered(t, "Redo", got, want, ok, wantOK)
	return ok
}

func (b *both) answered(t *testing.T, name string, got, want []api.Edit, ok, wantOK bool) {
	t.Helper()
	if ok != wantOK || !slices.Equal(got, want) {
		t.Fatalf("depth %d: %s: %v %t, want %v %t", b.lists.depth, name, got, ok, want, wantOK)
	}
	b.same(t)
}

// all undoes all that there is and does it again, twice, and beyond both ends.
func (b *both) all(t *testing.T) {
	t.Helper()
	for range 2 {
		for b.undo(t) {
		}
		b.undo(t)
		for b.redo(t) {
		}
		b.redo(t)
	}
}

// The document's example: nothing is ever undone.
func TestExample(t *testing.T) {
	for _, depth := range []int{0, -1, -50, math.MinInt} {
		b := of(t, depth, 0)
		for i := range 120 {
			b.push(t, group(i%3, i))
			b.all(t)
		}
		if undo, redo := b.history.Len(); undo != 0 || redo != 0 {
			t.Errorf("New(%d): Len %d, %d", depth, undo, redo)
		}
	}
}

// P8.1: ordinary groups, told by hand.
func TestOrdinary(t *testing.T) {
	one := []api.Edit{{At: 0, Ins: "a"}}
	two := []api.Edit{{At: 5, Del: "x", Ins: "yz"}, {At: 1, Del: "x", Ins: "yz"}}
	three := []api.Edit{{At: 2, Del: "b"}}
	h := history.New(2)
	is := func(name string, got []api.Edit, ok bool, want []api.Edit) {
		t.Helper()
		if ok != (want != nil) || !slices.Equal(got, want) {
			t.Fatalf("%s: %v %t, want %v", name, got, ok, want)
		}
	}
	undo := func(want []api.Edit) { t.Helper(); got, ok := h.Undo(); is("Undo", got, ok, want) }
	redo := func(want []api.Edit) { t.Helper(); got, ok := h.Redo(); is("Redo", got, ok, want) }
	undo(nil)
	redo(nil)
	h.Push(one)
	h.Push(two)
	redo(nil)
	undo(two)
	undo(one)
	undo(nil)
	redo(one)
	redo(two)
	redo(nil)
	h.Push(three) // one is forgotten
	undo(three)
	undo(two)
	undo(nil)
	redo(two)
	h.Push(one) // three can't be redone any more
	redo(nil)
	undo(one)
	h.Push(nil)
	h.Push([]api.Edit{})
	redo(one) // a group of no edits is nothing
	undo(one)
	undo(two)
	if u, r := h.Len(); u != 0 || r != 2 {
		t.Error("Len", u, r)
	}
}

// P8.1: all ways of few calls, one behind the other, at all small depths.
func TestAllSmallWays(t *testing.T) {
	const calls, ways = 7, 4
	total := 1
	for range calls {
		total *= ways
	}
	for depth := range 4 {
		for way := range total {
			b := of(t, depth, depth)
			for i := range calls {
				switch way % ways {
				case 0:
					b.push(t, group(1+i%2, i))
				case 1:
					b.push(t, nil)
				case 2:
					b.undo(t)
				case 3:
					b.redo(t)
				}
				way /= ways
			}
			b.all(t)
		}
	}
}

// P8.1: each depth, and such as are cut, around as many groups: the oldest ones are forgotten, those and no more.
func TestDepths(t *testing.T) {
	depths := map[int]int{math.MinInt: 0, -1: 0, api.MaxDepth + 1: api.MaxDepth, 2 * api.MaxDepth: api.MaxDepth, 1 << 32: api.MaxDepth, math.MaxInt: api.MaxDepth}
	for depth := range api.MaxDepth + 1 {
		depths[depth] = depth
	}
	for depth, cut := range depths {
		b := of(t, depth, cut)
		for i := range 3*api.MaxDepth + 7 {
			b.push(t, group(1+i%3, i))
			if undo, _ := b.history.Len(); undo != min(i+1, cut) {
				t.Fatalf("New(%d), %d groups: %d can be undone", depth, i+1, undo)
			}
		}
		b.all(t)
	}
}

// P8.1: a Push, wherever the history stands, at each place of the ring: what could be redone is gone, what could be undone is there as before, less the oldest one where there is no room.
func TestPushAnywhere(t *testing.T) {
	for _, depth := range []int{1, 2, 3, 7, 49, 50} {
		for ahead := range depth + 3 {
			for back := range depth + 2 {
				b := of(t, depth, depth)
				for i := range depth + ahead {
					b.push(t, group(1, i))
				}
				for range back {
					b.undo(t)
				}
				b.push(t, []api.Edit{}) // nothing: all can still be redone
				b.push(t, group(2, 999))
				if b.redo(t) {
					t.Fatal("redone behind a Push")
				}
				b.all(t)
			}
		}
	}
}

// P8.1: long runs of calls.
func TestManyCalls(t *testing.T) {
	m := mixer(8)
	for _, depth := range []int{1, 2, 5, 33, 49, 50, 51} {
		b := of(t, depth, min(depth, api.MaxDepth))
		for i := range 6000 {
			// By turns rather many Pushes, rather many Undos, rather many Redos.
			switch x := m.below(10); {
			case x < 4-i/100%3:
				b.push(t, group(m.below(4), i))
			case x < 8-i/100%3*2:
				b.undo(t)
			default:
				b.redo(t)
			}
		}
		b.all(t)
	}
}

// P8.1, R5: edits of any kind: places that are nowhere, bytes that are no text, edits of nothing; groups of one and of many. The order in a group, and an edit that is there twice, stay.
func TestAnyEdits(t *testing.T) {
	b := of(t, 9, 9)
	long := make([]byte, api.MaxText)
	for _, g := range [][]api.Edit{
		{{}},
		{{}, {}, {}},
		{{At: math.MinInt, Del: "\xff", Ins: "\x00"}, {At: math.MaxInt, Del: "é", Ins: "\xc3"}},
		{{At: 7, Del: "a", Ins: "b"}, {At: 3, Del: "a", Ins: "b"}, {At: 7, Del: "a", Ins: "b"}},
		{{At: 1, Del: string(long), Ins: string(long) + string(long)}},
		group(20000, 1),
	} {
		b.push(t, g)
		b.all(t)
	}
}

// P8.2: Redo of Undo is the same group, and Undo of Redo too, over and over, from each place on.
func TestRedoOfUndo(t *testing.T) {
	h := history.New(20)
	for i := range 33 {
		h.Push(group(1+i%4, i))
	}
	for left := 20; left > 0; left-- {
		for range 3 {
			undone, ok := h.Undo()
			if want := group(1+(left+12)%4, left+12); !ok || !slices.Equal(undone, want) {
				t.Fatalf("Undo: %v %t, want %v", undone, ok, want)
			}
			redone, ok := h.Redo()
			if !ok || !slices.Equal(redone, undone) {
				t.Fatalf("Redo: %v %t, undone was %v", redone, ok, undone)
			}
		}
		if undo, redo := h.Len(); undo != left || redo != 20-left {
			t.Fatalf("Len %d, %d, want %d, %d", undo, redo, left, 20-left)
		}
		h.Undo()
	}
}

// T2: by the groups a text is undone as it was, and done again as it was then.
func TestTextThereAndBack(t *testing.T) {
	m := mixer(3)
	for _, depth := range []int{1, 6, api.MaxDepth} {
		h, text := history.New(depth), "some text"
		texts := []string{text}
		apply := func(e api.Edit) {
			next, ok := edit.Apply(text, e)
			if !ok {
				t.Fatalf("%v does not stand in %q", e, text)
			}
			text = next
		}
		for i := range 2 * api.MaxDepth {
			var g []api.Edit
			for range 1 + m.below(3) {
				at := m.below(len(text) + 1)
				e := api.Edit{At: at, Del: text[at:min(at+m.below(3), len(text))], Ins: "abcdef"[:m.below(3)] + fmt.Sprint(i)}
				apply(e)
				g = append(g, e)
			}
			h.Push(g)
			texts = append(texts, text)
		}
		for range 3 {
			last := len(texts) - 1
			for i := range depth {
				g, _ := h.Undo()
				for _, e := range slices.Backward(g) {
					apply(edit.Inverse(e))
				}
				if text != texts[last-i-1] {
					t.Fatalf("undone: %q, was %q", text, texts[last-i-1])
				}
			}
			for i := range depth {
				g, _ := h.Redo()
				for _, e := range g {
					apply(e)
				}
				if text != texts[last-depth+i+1] {
					t.Fatalf("done again: %q, was %q", text, texts[last-depth+i+1])
				}
			}
		}
	}
}

// spoil makes other edits of all that a group's memory has room for.
func spoil(group []api.Edit) {
	for i := range group[:cap(group)] {
		group[:cap(group)][i] = api.Edit{At: -7, Del: "spoilt", Ins: "spoilt"}
	}
}

// R3: a group that is handed in is neither changed nor kept; one that is answered is new memory, its spare room too.
func TestNothingShared(t *testing.T) {
	for _, n := range []int{1, 3, 5, 100} {
		want := group(n, 1)
		in := append(make([]api.Edit, 0, n+5), want...)
		h := history.New(5)
		h.Push(in)
		if !slices.Equal(in, want) || in[:n+1][n] != (api.Edit{}) {
			t.Fatal("Push has changed its group")
		}
		spoil(in)
		for range 3 {
			undone, _ := h.Undo()
			if !slices.Equal(undone, want) {
				t.Fatalf("Undo: %v", undone)
			}
			spoil(undone)
			redone, _ := h.Redo()
			if !slices.Equal(redone, want) {
				t.Fatalf("Redo: %v", redone)
			}
			spoil(redone)
		}
	}
}

// R2: where there is none the answer is a zero one, and nothing has changed.
func TestNone(t *testing.T) {
	h := history.New(3)
	none := func(name string, got []api.Edit, ok bool) {
		t.Helper()
		if got != nil || ok {
			t.Fatalf("%s: %v %t", name, got, ok)
		}
	}
	for range 3 {
		got, ok := h.Undo()
		none("Undo", got, ok)
		got, ok = h.Redo()
		none("Redo", got, ok)
	}
	h.Push(group(1, 1))
	for range 3 {
		got, ok := h.Redo()
		none("Redo", got, ok)
	}
	h.Undo()
	for range 3 {
		got, ok := h.Undo()
		none("Undo", got, ok)
	}
	if undo, redo := h.Len(); undo != 0 || redo != 1 {
		t.Error("Len", undo, redo)
	}
	if got, ok := h.Redo(); !ok || !slices.Equal(got, group(1, 1)) {
		t.Error(got, ok)
	}
}

// R4: two histories have nothing in common, though the same groups were handed to both.
func TestNothingInCommon(t *testing.T) {
	one, two := of(t, 4, 4), of(t, 4, 4)
	for i := range 6 {
		g := group(2, i)
		one.push(t, g)
		two.push(t, g)
	}
	one.undo(t)
	one.undo(t)
	one.push(t, group(1, 77))
	two.all(t)
	two.undo(t)
	one.all(t)
	two.all(t)
}
