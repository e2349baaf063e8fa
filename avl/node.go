package avl

// A node's two sides; here is neither of them.
const (
	left  = 0
	right = 1
	here  = 2
)

// totals is what is told of a tree's items together.
type totals struct{ items, sum, height int }

// node is an item with the trees on both its sides.
type node struct {
	sides     [2]*node
	key, size int
	total     totals
}

// all is what is told of a tree; there is nothing in nil.
func (n *node) all() totals {
	if n == nil {
		return totals{}
	}
	return n.total
}

// measure tells a node's totals anew, by those of its sides.
func (n *node) measure() {
	l, r := n.sides[left].all(), n.sides[right].all()
	n.total = totals{
		items:  l.items + 1 + r.items,
		sum:    l.sum + n.size + r.sum,
		height: 1 + max(l.height, r.height),
	}
}

// lean is by how much a side is higher than the other one.
func (n *node) lean(side int) int {
	return n.sides[side].all().height - n.sides[1-side].all().height
}

// each goes through a tree's nodes in order.
func (n *node) each(visit func(*node)) {
	if n == nil {
		return
	}
	n.sides[left].each(visit)
	visit(n)
	n.sides[right].each(visit)
}

// follow goes down to the node where lead says here; nil: the tree ended first.
func (n *node) follow(lead func(*node) int) *node {
	for n != nil {
		side := lead(n)
		if side == here {
			return n
		}
		n = n.sides[side]
	}
	return nil
}

// change goes down as follow does, lets act change what stands at the place that it comes to, and mends all nodes from there upward.
func change(place **node, lead func(*node) int, act func(place **node)) {
	n, side := *place, here
	if n != nil {
		side = lead(n)
	}
	if side == here {
		act(place)
	} else {
		change(&n.sides[side], lead, act)
	}
	mend(place)
}

// take takes the node at a place out of its tree; what stands there then is still to be mended.
func take(place **node) {
	gone := *place
	if gone.sides[right] == nil {
		*place = gone.sides[left]
		return
	}
	var next *node
	change(&gone.sides[right], first, func(place **node) {
		next = *place
		*place = next.sides[right]
	})
	next.sides = gone.sides
	*place = next
}

// first leads to a tree's first node.
func first(n *node) int {
	if n.sides[left] == nil {
		return here
	}
	return left
}

// mend measures the node at a place whose sides are mended, and turns it where one of them is higher by two.
func mend(place **node) {
	n := *place
	if n == nil {
		return
	}
	n.measure()
	for high, child := range n.sides {
		if n.lean(high) < 2 {
			continue
		}
		// A child that leans inward would only be too high on the other side, once it is turned up.
		if child.lean(1-high) > 0 {
			turner(&n.sides[high])(1 - high)
		}
		turner(place)(high)
		return
	}
}

// turner holds the node at a place, and turns it: its child on the high side comes up there, and it goes down on the other one.
func turner(place **node) func(high int) {
	return func(high int) {
		down := *place
		up := down.sides[high]
		down.sides[high], up.sides[1-high] = up.sides[1-high], down
		down.measure()
		up.measure()
		*place = up
	}
}
