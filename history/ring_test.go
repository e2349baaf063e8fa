package history

import (
	"testing"

	"abecedary/api"
)

// held is how many places of the ring have a group.
func held(h *History) int {
	n := 0
	for _, g := range h.ring {
		if g != nil {
			n++
		}
	}
	return n
}

// P8.1: what is forgotten is not kept: neither the oldest group nor such as can't be redone any more, nor any where nothing is ever undone.
func TestForgotten(t *testing.T) {
	for depth := range api.MaxDepth + 1 {
		h := New(depth)
		for i := range 400 {
			for range i % 7 {
				h.Undo()
			}
			if i%3 == 0 {
				h.Redo()
			}
			for range i % 11 {
				h.Push([]api.Edit{{At: i}})
			}
			undo, redo := h.Len()
			if held(h) != undo+redo || undo+redo > depth {
				t.Fatalf("depth %d: %d groups are kept, %d can be undone, %d redone", depth, held(h), undo, redo)
			}
		}
	}
}
