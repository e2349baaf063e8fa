package dawg

import (
	"sort"
)

// none is the place of an arc that there is not.
const none = -1

// node is what a state is. No two are alike, so from no two the same endings lead to words: such two would have the same arcs.
type node struct {
	final bool
	first int32 // the place of the arc with the least byte
}

// arc is a byte that leads on, and those behind it. No two are alike, so like lists of arcs begin at one place: states share them, and the ends of longer ones.
type arc struct {
	by   byte
	to   int32 // a state
	next int32 // the place of the arc with the next greater byte
}

// builder makes an automaton. Its maps tell which nodes and arcs are there; they are not kept.
type builder struct {
	auto   *Auto
	states map[node]int32
	places map[arc]int32
}

// built is the automaton of words that rise, none of them twice.
func built(words []string) *Auto {
	b := builder{auto: &Auto{}, states: map[node]int32{}, places: map[arc]int32{}}
	b.auto.start = int(b.state(words, 0))
	return b.auto
}

// state is where so many bytes lead that all these words begin with.
func (b *builder) state(words []string, bytes int) int32 {
	n := node{first: none}
	// The word that ends here, if there is one, is the beginning of all others.
	if len(words) > 0 && len(words[0]) == bytes {
		n.final = true
		words = words[1:]
	}
	// From the greatest byte on, since an arc names the one behind it.
	for len(words) > 0 {
		by := words[len(words)-1][bytes]
		from := sort.Search(len(words), func(i int) bool { return words[i][bytes] >= by })
		x := arc{by: by, to: b.state(words[from:], bytes+1), next: n.first}
		n.first = number(b.places, &b.auto.arcs, x)
		words = words[:from]
	}
	return number(b.states, &b.auto.nodes, n)
}

// number is the place of a thing in a list; one that is not known is put behind the others.
func number[T comparable](known map[T]int32, l *[]T, x T) int32 {
	n, ok := known[x]
	if !ok {
		n = int32(len(*l))
		*l = append(*l, x)
		known[x] = n
	}
	return n
}
