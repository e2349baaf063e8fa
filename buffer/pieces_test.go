package buffer

import (
	"slices"
	"strings"
	"testing"

	"abecedary/api"
)

// item is a piece as the tree and the array hold it.
type item struct {
	key, size int
	piece     piece
}

// items is the pieces in order; each must have a place of its own in the array, and lie in its store.
func items(t *testing.T, b *Buffer) []item {
	t.Helper()
	var out []item
	used := map[int]bool{}
	for _, key := range b.pieces.free {
		used[key] = true
	}
	for i := range b.order.Len() {
		key, size, _ := b.order.Get(i)
		if key < 0 || key >= len(b.pieces.all) || used[key] {
			t.Fatalf("item %d has no place of its own: %d", i, key)
		}
		used[key] = true
		p := b.pieces.all[key]
		room := b.pieces.original.Len()
		if p.added {
			room = b.pieces.additions.Len()
		}
		if size < 1 || p.from < 0 || p.from+size > room {
			t.Fatalf("item %d: %d bytes from %d on, of %d", i, size, p.from, room)
		}
		out = append(out, item{key: key, size: size, piece: p})
	}
	if len(out)+len(b.pieces.free) != len(b.pieces.all) {
		t.Fatalf("%d pieces, %d free places, %d in all", len(out), len(b.pieces.free), len(b.pieces.all))
	}
	return out
}

// P6.1, P6.2: pieces are ranges of both stores, which hold what was there and what was added, no more; places are used again, so the array is as long as there were pieces at once.
func TestPlacesAreUsedAgain(t *testing.T) {
	b, _ := New(strings.Repeat("abc", 100), 1000)
	most, put := 0, 0
	for i := range 5000 {
		at := i * 7919 % (b.Len() + 1)
		if i/20%2 == 0 {
			if b.Insert(at, "xyz"[:i%4]) == api.OK {
				put += i % 4
			}
		} else {
			b.Delete(at, min(5, b.Len()-at))
		}
		most = max(most, len(items(t, b)))
		// A Delete cuts at both its ends ahead of what it takes: there are up to two pieces more than behind it.
		if len(b.pieces.all) > most+2 {
			t.Fatalf("change %d: an array of %d for at most %d pieces", i, len(b.pieces.all), most)
		}
	}
	b.Delete(0, b.Len())
	if len(items(t, b)) != 0 {
		t.Error("pieces of nothing")
	}
	if b.pieces.original.Len() != 300 || b.pieces.additions.Len() != put {
		t.Errorf("stores of %d and %d bytes, want 300, %d", b.pieces.original.Len(), b.pieces.additions.Len(), put)
	}
}

// P6.1: what is refused, and what does nothing, adds nothing to a store.
func TestNothingIsAdded(t *testing.T) {
	b, _ := New("abc", 5)
	ahead := items(t, b)
	b.Insert(-1, "x")
	b.Insert(4, "x")
	b.Insert(1, "xyz")
	b.Insert(1, "")
	b.Delete(1, 0)
	b.Delete(1, 3)
	if b.pieces.additions.Len() != 0 || !slices.Equal(items(t, b), ahead) {
		t.Error(b.pieces.additions.Len(), items(t, b))
	}
}

// T5: a change touches the pieces that it lies in, of all others none.
func TestLittleWork(t *testing.T) {
	b, _ := New("", api.MaxText)
	for i := range 3000 {
		b.Insert(i*i%(b.Len()+1), "some text"[:1+i%9])
	}
	for i := range 100 {
		at := i * 111
		for name, change := range map[string]func(){
			"Insert": func() { b.Insert(at, "new") },
			"Delete": func() { b.Delete(at, 3) },
		} {
			ahead := items(t, b)
			change()
			behind := items(t, b)
			from, to := 0, 0
			for from < min(len(ahead), len(behind)) && ahead[from] == behind[from] {
				from++
			}
			for to < min(len(ahead), len(behind))-from && ahead[len(ahead)-1-to] == behind[len(behind)-1-to] {
				to++
			}
			if gone, come := len(ahead)-from-to, len(behind)-from-to; gone > 4 || come > 3 {
				t.Fatalf("%s at %d: for %d pieces %d others", name, at, gone, come)
			}
		}
	}
	if n := testing.AllocsPerRun(100, func() { b.Slice(b.Len()/2, 3) }); n > 20 {
		t.Errorf("a short Slice of a long text takes memory %v times", n)
	}
}
