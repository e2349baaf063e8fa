package store

import (
	"strings"
	"testing"
)

// The chunks that there are stay where they are, as they are; there is none to spare.
func TestNeverMoved(t *testing.T) {
	s := New(strings.Repeat("a", room+1))
	var were []*chunk
	var held []chunk
	for i := range 3 * room {
		if want := (s.n + room - 1) / room; len(s.chunks) != want {
			t.Fatal(i, len(s.chunks), want)
		}
		for j, c := range were {
			if s.chunks[j] != c || (j < len(held)-1 && *c != held[j]) {
				t.Fatal("moved", i, j)
			}
		}
		were, held = append(were[:0], s.chunks...), held[:0]
		for _, c := range s.chunks {
			held = append(held, *c)
		}
		s.Add(strings.Repeat(string(rune('a'+i%26)), i%7))
	}
	if len(New("").chunks) != 0 {
		t.Error("a chunk of nothing")
	}
}
