package buffer_test

import (
	"math"
	"strings"
	"testing"

	"abecedary/api"
	"abecedary/buffer"
)

// mixed is n bytes, of all values, that do not repeat soon.
func mixed(n, seed int) string {
	b := make([]byte, n)
	x := uint32(seed)*2654435761 + 1
	for i := range b {
		x = x*1664525 + 1013904223
		b[i] = byte(x >> 24)
	}
	return string(b)
}

// mixer is numbers that look like any, the same ones each time.
type mixer uint64

func (m *mixer) below(n int) int {
	*m = *m*6364136223846793005 + 1442695040888963407
	return int(uint64(*m) >> 33 % uint64(n))
}

// edges is numbers at which a sum or a difference would wrap round, and those around a length.
func edges(n int) []int {
	return []int{math.MinInt, math.MinInt + 1, -1 << 32, -n - 1, -1, 0, 1, n / 2, n - 1, n, n + 1, 1 << 32, math.MaxInt - n, math.MaxInt - 1, math.MaxInt}
}

// highest is the greatest height that a tree of n items may have.
func highest(n int) int {
	h, least, next := 0, 0, 1
	for next <= n {
		h, least, next = h+1, next, least+next+1
	}
	return h
}

// both is a buffer, and the flat text that it stands for by the words of the promise.
type both struct {
	buf  *buffer.Buffer
	text string
	most int
}

// of is a buffer of a text that may have most bytes.
func of(t *testing.T, s string, most int) *both {
	t.Helper()
	b, e := buffer.New(s, most)
	if b == nil || e != api.OK {
		t.Fatalf("New(%.40q, %d): %v, %d", s, most, b, e)
	}
	return &both{buf: b, text: s, most: min(max(most, 0), api.MaxText)}
}

func (b *both) has(at, n int) bool {
	return at >= 0 && n >= 0 && at <= len(b.text) && n <= len(b.text)-at
}

// wantInsert is what P6.1 says of an Insert.
func (b *both) wantInsert(at int, s string) api.Errno {
	if !b.has(at, 0) {
		return api.ErrPlace
	}
	if len(b.text)+len(s) > b.most {
		return api.ErrBig
	}
	return api.OK
}

func (b *both) insert(t *testing.T, at int, s string) {
	t.Helper()
	ahead, high := b.buf.Pieces(), b.buf.Height()
	want := b.wantInsert(at, s)
	if got := b.buf.Insert(at, s); got != want {
		t.Fatalf("Insert(%d, %.40q) into %d bytes of %d: %d, want %d", at, s, len(b.text), b.most, got, want)
	}
	if want == api.OK {
		b.text = b.text[:at] + s + b.text[at:]
	}
	if n := b.buf.Pieces(); n > ahead+2 {
		t.Fatalf("Insert(%d, %.40q) made of %d pieces %d", at, s, ahead, n)
	}
	b.same(t, want != api.OK || s == "", ahead, high)
}

func (b *both) delete(t *testing.T, at, n int) {
	t.Helper()
	ahead, high := b.buf.Pieces(), b.buf.Height()
	want := api.OK
	if !b.has(at, n) {
		want = api.ErrPlace
	}
	if got := b.buf.Delete(at, n); got != want {
		t.Fatalf("Delete(%d, %d) of %d bytes: %d, want %d", at, n, len(b.text), got, want)
	}
	if want == api.OK {
		b.text = b.text[:at] + b.text[at+n:]
	}
	if k := b.buf.Pieces(); k > ahead+1 {
		t.Fatalf("Delete(%d, %d) made of %d pieces %d", at, n, ahead, k)
	}
	b.same(t, want != api.OK || n == 0, ahead, high)
}

// same holds, of a call that does nothing, that pieces and height stay; of all calls what is told quickly.
func (b *both) same(t *testing.T, nothing bool, pieces, height int) {
	t.Helper()
	if nothing && (b.buf.Pieces() != pieces || b.buf.Height() != height) {
		t.Fatalf("nothing was done, but of %d pieces, %d high, are %d, %d", pieces, height, b.buf.Pieces(), b.buf.Height())
	}
	if got := b.buf.Len(); got != len(b.text) {
		t.Fatalf("Len: %d, want %d", got, len(b.text))
	}
	n := b.buf.Pieces()
	if n > len(b.text) || n < 0 || (n == 0) != (b.text == "") {
		t.Fatalf("%d bytes in %d pieces", len(b.text), n)
	}
	if got := b.buf.Height(); got > highest(n) || got > 62 || n >= 1<<got {
		t.Fatalf("%d pieces: %d high", n, got)
	}
}

// whole holds the text against the flat one.
func (b *both) whole(t *testing.T) {
	t.Helper()
	if got := b.buf.Text(); got != b.text {
		t.Fatalf("Text: %.60q, want %.60q", got, b.text)
	}
}

func (b *both) slice(t *testing.T, at, n int) {
	t.Helper()
	want, wantE := "", api.ErrPlace
	if b.has(at, n) {
		want, wantE = b.text[at:at+n], api.OK
	}
	if got, e := b.buf.Slice(at, n); got != want || e != wantE {
		t.Fatalf("Slice(%d, %d) of %d bytes: %.40q, %d, want %.40q, %d", at, n, len(b.text), got, e, want, wantE)
	}
}

func (b *both) byte(t *testing.T, at int) {
	t.Helper()
	want, wantE := byte(0), api.ErrPlace
	if b.has(at, 1) {
		want, wantE = b.text[at], api.OK
	}
	if got, e := b.buf.Byte(at); got != want || e != wantE {
		t.Fatalf("Byte(%d) of %d bytes: %d, %d, want %d, %d", at, len(b.text), got, e, want, wantE)
	}
}

// all holds a short text at all places, those around it too.
func (b *both) all(t *testing.T) {
	t.Helper()
	b.whole(t)
	for at := -2; at <= len(b.text)+2; at++ {
		b.byte(t, at)
		for n := -2; n <= len(b.text)+2; n++ {
			b.slice(t, at, n)
		}
	}
}

// The document's example, and other texts told by hand.
func TestOrdinary(t *testing.T) {
	b, e := buffer.New("ab", 9)
	if e != api.OK || b.Text() != "ab" || b.Len() != 2 || b.Pieces() != 1 || b.Height() != 1 {
		t.Fatal(e, b.Text(), b.Len(), b.Pieces(), b.Height())
	}
	if e := b.Insert(1, "x"); e != api.OK || b.Text() != "axb" || b.Pieces() != 3 || b.Height() != 2 {
		t.Error(e, b.Text(), b.Pieces(), b.Height())
	}
	if c, e := b.Byte(1); c != 'x' || e != api.OK {
		t.Error(c, e)
	}
	if s, e := b.Slice(1, 2); s != "xb" || e != api.OK {
		t.Error(s, e)
	}
	if e := b.Delete(0, 2); e != api.OK || b.Text() != "b" || b.Len() != 1 || b.Pieces() != 1 {
		t.Error(e, b.Text(), b.Len(), b.Pieces())
	}
	if e := b.Insert(1, "é\xff"); e != api.OK || b.Text() != "bé\xff" || b.Len() != 4 {
		t.Error(e, b.Text(), b.Len())
	}
	if e := b.Delete(0, 4); e != api.OK || b.Text() != "" || b.Len() != 0 || b.Pieces() != 0 || b.Height() != 0 {
		t.Error(e, b.Text(), b.Len(), b.Pieces(), b.Height())
	}
}

// P6.1, New: most, cut at both ends, and texts of about as many bytes. P6.2: a new text is one piece, an empty one none.
func TestNew(t *testing.T) {
	long := mixed(api.MaxText+1, 1)
	for _, n := range []int{0, 1, 2, 100, api.MaxText - 1, api.MaxText, api.MaxText + 1} {
		for _, most := range append(edges(api.MaxText), edges(n)...) {
			s := long[:n]
			if n > min(max(most, 0), api.MaxText) {
				if b, e := buffer.New(s, most); b != nil || e != api.ErrBig {
					t.Fatalf("New of %d bytes, %d: %v, %d", n, most, b, e)
				}
				continue
			}
			b := of(t, s, most)
			b.whole(t)
			b.same(t, true, min(n, 1), min(n, 1))
		}
	}
}

// P6.1, most: it is kept to, whatever it is cut from, and by what was put, not by what was taken since.
func TestMost(t *testing.T) {
	for _, most := range []int{-7, 0, 1, 5, 100, api.MaxText - 1, api.MaxText, api.MaxText + 9, math.MaxInt, math.MinInt} {
		b := of(t, "", most)
		for _, n := range []int{b.most + 1, b.most, 1, 0} {
			b.insert(t, 0, mixed(n, n))
		}
		b.whole(t)
		b.delete(t, 0, b.most/3)
		b.insert(t, len(b.text)/2, mixed(b.most/3+1, 3))
		b.insert(t, len(b.text)/2, mixed(b.most/3, 4))
		b.insert(t, len(b.text), "x")
		b.insert(t, len(b.text)+1, "x") // both errors apply: the place is named first
		b.insert(t, -1, "x")
		b.insert(t, len(b.text), "")
		b.whole(t)
		if len(b.text) != b.most {
			t.Fatalf("of %d bytes that may be there are %d", most, len(b.text))
		}
	}
}

// P6.1, P6.2: every way to change a short text three times, refused ones too.
func TestAllSmallWays(t *testing.T) {
	const most = 5
	var grow func(first string, steps []func(*both), depth int)
	grow = func(first string, steps []func(*both), depth int) {
		b := of(t, first, most)
		for _, s := range steps {
			s(b)
		}
		b.all(t)
		if depth == 0 {
			return
		}
		next := func(s func(*both)) { grow(first, append(steps[:len(steps):len(steps)], s), depth-1) }
		n := len(b.text)
		for at := -1; at <= n+1; at++ {
			for _, s := range []string{"", "x", "\xff\x00"} {
				next(func(b *both) { b.insert(t, at, s) })
			}
			for k := -1; k <= n-max(at, 0)+1; k++ {
				next(func(b *both) { b.delete(t, at, k) })
			}
		}
	}
	for _, first := range []string{"", "a", "abc"} {
		grow(first, nil, 3)
	}
}

// P6.1: numbers of any kind, in texts of no, one, some and many pieces; what is refused changes nothing.
func TestEdges(t *testing.T) {
	for _, pieces := range []int{0, 1, 2, 9, 500} {
		b := of(t, "", 2000)
		for i := range pieces {
			b.insert(t, i, mixed(1+i%3, i))
		}
		for _, at := range edges(len(b.text)) {
			b.byte(t, at)
			for _, n := range edges(len(b.text)) {
				b.slice(t, at, n)
				if !b.has(at, n) {
					b.delete(t, at, n)
				}
			}
			b.insert(t, at, "")
			b.insert(t, at, mixed(2001-len(b.text), 1))
			b.delete(t, at, 0)
		}
		b.whole(t)
	}
}

// P6.1: slices that begin and end at every place of a text of many pieces.
func TestSliceOfManyPieces(t *testing.T) {
	b := of(t, mixed(60, 1), 200)
	for i := range 20 {
		b.insert(t, i*7%len(b.text), mixed(1+i%5, i))
	}
	b.delete(t, 11, 9)
	b.all(t)
}

// P6.2: what an Insert and a Delete make of the pieces, at a piece's ends and within it.
func TestPieces(t *testing.T) {
	for _, c := range []struct {
		name   string
		change func(*both)
		want   int
	}{
		{"nothing into a piece", func(b *both) { b.insert(t, 2, "") }, 1},
		{"into a piece", func(b *both) { b.insert(t, 2, "xy") }, 3},
		{"ahead of a piece", func(b *both) { b.insert(t, 0, "xy") }, 2},
		{"behind a piece", func(b *both) { b.insert(t, 4, "xy") }, 2},
		{"between two", func(b *both) { b.insert(t, 4, "xy"); b.insert(t, 4, "z") }, 3},
		{"nothing of a piece", func(b *both) { b.delete(t, 2, 0) }, 1},
		{"out of a piece", func(b *both) { b.delete(t, 1, 2) }, 2},
		{"a piece's beginning", func(b *both) { b.delete(t, 0, 2) }, 1},
		{"a piece's end", func(b *both) { b.delete(t, 2, 2) }, 1},
		{"a whole piece", func(b *both) { b.delete(t, 0, 4) }, 0},
		{"the end of one, the beginning of the next one", func(b *both) { b.insert(t, 4, "xy"); b.delete(t, 3, 2) }, 2},
		{"from within one to within the third one", func(b *both) { b.insert(t, 2, "xy"); b.delete(t, 1, 4) }, 2},
		{"the one between two", func(b *both) { b.insert(t, 2, "xy"); b.delete(t, 2, 2) }, 2},
		{"all of three", func(b *both) { b.insert(t, 2, "xy"); b.delete(t, 0, 6) }, 0},
	} {
		b := of(t, "abcd", 10)
		c.change(b)
		if got := b.buf.Pieces(); got != c.want {
			t.Errorf("%s: %d pieces, want %d", c.name, got, c.want)
		}
		b.all(t)
	}
}

// P6.1, P6.2, P6.3: long texts that grow and shrink at all places.
func TestManyChanges(t *testing.T) {
	m := mixer(3)
	b := of(t, mixed(3000, 2), 9000)
	for round := range 10 {
		for i := range 400 {
			n := len(b.text)
			at := m.below(n+3) - 1
			switch {
			case m.below(8) < 5-round%4:
				b.insert(t, at, mixed(m.below(12)*m.below(12), i))
			default:
				b.delete(t, at, m.below(10)*m.below(10))
			}
			b.slice(t, m.below(len(b.text)+1), m.below(200))
			b.byte(t, m.below(len(b.text)+1))
		}
		b.whole(t)
	}
	for len(b.text) > 0 {
		n := min(1+m.below(50), len(b.text))
		b.delete(t, m.below(len(b.text)-n+1), n)
	}
	b.whole(t)
}

// step is a change that was done: what went and what came at a place.
type step struct {
	at       int
	del, ins string
	ahead    string
}

// P6.3, T2: undone it is as it was, done again as it was then, over and over.
func TestThereAndBack(t *testing.T) {
	m := mixer(9)
	b := of(t, mixed(500, 7), 2000)
	var done []step
	for i := range 300 {
		at := m.below(len(b.text) + 1)
		n := m.below(min(20, len(b.text)-at) + 1)
		s := step{at: at, del: b.text[at : at+n], ins: mixed(m.below(20), i), ahead: b.text}
		done = append(done, s)
		b.delete(t, at, n)
		b.insert(t, at, s.ins)
	}
	last := b.text
	for range 3 {
		for i := len(done) - 1; i >= 0; i-- {
			b.delete(t, done[i].at, len(done[i].ins))
			b.insert(t, done[i].at, done[i].del)
			if b.buf.Text() != done[i].ahead {
				t.Fatalf("change %d undone: another text", i)
			}
		}
		for _, s := range done {
			b.delete(t, s.at, len(s.del))
			b.insert(t, s.at, s.ins)
		}
		if b.buf.Text() != last {
			t.Fatal("all done again: another text")
		}
	}
}

// P6.1, P6.2, T5: as many pieces as there may be, put at the end, at the front, in the middle, anywhere: the tree is low; each byte is where it belongs.
func TestFullOfSmallPieces(t *testing.T) {
	m := mixer(5)
	for name, place := range map[string]func(n int) int{
		"end":      func(n int) int { return n },
		"front":    func(n int) int { return 0 },
		"middle":   func(n int) int { return n / 2 },
		"anywhere": func(n int) int { return m.below(n + 1) },
	} {
		b, _ := buffer.New("", api.MaxText)
		var flat []byte
		for n := range api.MaxText {
			at, c := place(n), byte(n*7>>3)
			if e := b.Insert(at, string([]byte{c})); e != api.OK {
				t.Fatalf("%s: byte %d: %d", name, n, e)
			}
			flat = append(flat, 0)
			copy(flat[at+1:], flat[at:])
			flat[at] = c
			if k := b.Pieces(); k > n+1 || b.Height() > highest(k) {
				t.Fatalf("%s: %d bytes: %d pieces, %d high", name, n+1, k, b.Height())
			}
		}
		if b.Text() != string(flat) {
			t.Fatalf("%s: another text", name)
		}
		full := &both{buf: b, text: string(flat), most: api.MaxText}
		full.insert(t, 0, "x")
		full.insert(t, api.MaxText, "")
		full.delete(t, 1000, 50000)
		full.whole(t)
		full.insert(t, 500, mixed(50000, 1))
		full.insert(t, 501, "x")
		full.whole(t)
		full.delete(t, 0, api.MaxText)
		full.whole(t)
	}
}

// P6.1, P6.2: a text of as many bytes as there may be that is cut at each place, until there are as many pieces as bytes.
func TestCutEverywhere(t *testing.T) {
	b, _ := buffer.New(strings.Repeat("a", api.MaxText), api.MaxText)
	for at := 1; at < api.MaxText; at += 2 {
		if b.Delete(at, 1) != api.OK || b.Insert(at, "b") != api.OK {
			t.Fatal(at)
		}
	}
	if b.Pieces() != api.MaxText || b.Height() > highest(api.MaxText) {
		t.Error(b.Pieces(), b.Height())
	}
	full := &both{buf: b, text: strings.Repeat("ab", api.MaxText/2), most: api.MaxText}
	full.whole(t)
	full.insert(t, 7, "x")
	full.delete(t, 7, 1)
	full.insert(t, 7, "x")
	full.slice(t, 5, 5)
	full.slice(t, 0, api.MaxText)
	full.slice(t, 1, api.MaxText)
	full.byte(t, api.MaxText-1)
	full.byte(t, api.MaxText)
}

// R4: two buffers have nothing in common.
func TestApart(t *testing.T) {
	a, b := of(t, "same text", 20), of(t, "same text", 20)
	a.insert(t, 4, "one")
	b.insert(t, 4, "another")
	a.delete(t, 0, 2)
	b.delete(t, 9, 3)
	a.all(t)
	b.all(t)
}

// R2, R3: what was answered stays, whatever comes behind it.
func TestAnswersStay(t *testing.T) {
	b := of(t, mixed(3000, 8), 4000)
	var got, want []string
	for i := range 200 {
		b.insert(t, i*13, strings.Repeat("z", 1+i%4))
		b.delete(t, i*11, 2)
		s, _ := b.buf.Slice(i*9, 40)
		got, want = append(got, s, b.buf.Text()), append(want, b.text[i*9:i*9+40], b.text)
	}
	for i := range got {
		if got[i] != want[i] {
			t.Fatal("an answer has changed", i)
		}
	}
}
