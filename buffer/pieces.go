package buffer

import "abecedary/store"

// original is what was there at first.
type original struct{ *store.Store }

// additions is what was added, in the order in which it came.
type additions struct{ *store.Store }

// piece is where a range begins, in the original or in the additions; its length is the tree's.
type piece struct {
	added bool
	from  int
}

// pieces is an array of pieces and, embedded, both stores that they are ranges of. A piece is known by its place there, which stays while its neighbours in the text change.
type pieces struct {
	original
	additions
	all  []piece
	free []int
}

// newPieces is an array without pieces, ahead of a text.
func newPieces(s string) pieces {
	return pieces{original: original{store.New(s)}, additions: additions{store.New("")}}
}

// put is a piece more: its place.
func (l *pieces) put(p piece) int {
	// Places are used again: else the array would grow with each change, however short the text stays.
	if last := len(l.free) - 1; last >= 0 {
		key := l.free[last]
		l.free = l.free[:last]
		l.all[key] = p
		return key
	}
	l.all = append(l.all, p)
	return len(l.all) - 1
}

// add is a piece more, of a text that is added: its place.
func (l *pieces) add(s string) int {
	return l.put(piece{added: true, from: l.additions.Add(s)})
}

// rest is a piece more, of all of another one but its first bytes: its place.
func (l *pieces) rest(key, off int) int {
	p := l.all[key]
	return l.put(piece{added: p.added, from: p.from + off})
}

// drop is a piece less.
func (l *pieces) drop(key int) { l.free = append(l.free, key) }

// part is n bytes of a piece.
func (l *pieces) part(key, off, n int) string {
	p := l.all[key]
	slice := l.original.Slice
	if p.added {
		slice = l.additions.Slice
	}
	s, _ := slice(p.from+off, n)
	return s
}
