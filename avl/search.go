package avl

// search goes down a tree by one of its methods, and tells what it has left on its left side.
type search struct {
	want  int
	ahead totals
}

// byPlace leads to the item that has want others ahead of it.
func (s *search) byPlace(n *node) int {
	at := s.ahead.items + n.sides[left].all().items
	switch {
	case s.want < at:
		return left
	case s.want == at:
		return here
	}
	return s.pass(n)
}

// byGap leads to the gap between the first want items and the others.
func (s *search) byGap(n *node) int {
	if s.want <= s.ahead.items+n.sides[left].all().items {
		return left
	}
	return s.pass(n)
}

// byEnd leads to the first item whose end is above want.
func (s *search) byEnd(n *node) int {
	from := s.ahead.sum + n.sides[left].all().sum
	switch {
	case s.want < from:
		return left
	case s.want < from+n.size:
		s.leave(n.sides[left].all())
		return here
	}
	return s.pass(n)
}

// pass leaves a node and what is on its left, and leads to the right.
func (s *search) pass(n *node) int {
	s.leave(n.sides[left].all())
	s.leave(totals{items: 1, sum: n.size})
	return right
}

// leave counts items that lie ahead.
func (s *search) leave(t totals) {
	s.ahead.items += t.items
	s.ahead.sum += t.sum
}
