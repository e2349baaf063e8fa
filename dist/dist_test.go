package dist_test

import (
	"math"
	"slices"
	"strings"
	"testing"

	"abecedary/dist"
)

// codes is a text's code points.
func codes(s string) []int {
	var l []int
	for _, r := range s {
		l = append(l, int(r))
	}
	return l
}

// told is D of all codes, as P17.1 says it word by word, each D once.
func told(a, b []int) int {
	known := make([][]int, len(a)+1)
	for i := range known {
		known[i] = slices.Repeat([]int{-1}, len(b)+1)
	}
	var d func(i, k int) int
	d = func(i, k int) int {
		if k == 0 {
			return i
		}
		if i == 0 {
			return k
		}
		if known[i][k] < 0 {
			cost := 1
			if a[i-1] == b[k-1] {
				cost = 0
			}
			n := []int{d(i-1, k) + 1, d(i, k-1) + 1, d(i-1, k-1) + cost}
			if i > 1 && k > 1 && a[i-1] == b[k-2] && b[k-1] == a[i-2] {
				n = append(n, d(i-2, k-2)+1)
			}
			known[i][k] = slices.Min(n)
		}
		return known[i][k]
	}
	return d(len(a), len(b))
}

// isFar holds that two words are so far, either way round, and what Near says of that.
func isFar(t *testing.T, a, b []int, want int) {
	t.Helper()
	for range 2 {
		if got := dist.Far(a, b); got != want {
			t.Fatalf("Far of %v, %v: %d, want %d", a, b, got, want)
		}
		for _, most := range []int{math.MinInt, math.MinInt + 1, -1 << 32, want - 3, want - 2, want - 1, -1} {
			if got, ok := dist.Near(a, b, min(most, want-1)); got != 0 || ok {
				t.Fatalf("Near of %v, %v, at most %d: %d, %v, but they are %d", a, b, min(most, want-1), got, ok, want)
			}
		}
		for _, most := range []int{want, want + 1, want + 2, want + 3, len(a), len(b), len(a) + len(b), 1 << 32, math.MaxInt - 1, math.MaxInt} {
			if got, ok := dist.Near(a, b, max(most, want)); got != want || !ok {
				t.Fatalf("Near of %v, %v, at most %d: %d, %v, want %d", a, b, max(most, want), got, ok, want)
			}
		}
		a, b = b, a
	}
}

// isAsTold holds Far and Near against the words of P17.1 and P17.2.
func isAsTold(t *testing.T, a, b []int) {
	t.Helper()
	want := told(a, b)
	isFar(t, a, b, want)
	if (want == 0) != slices.Equal(a, b) {
		t.Fatalf("%v and %v are %d", a, b, want)
	}
}

// The document's examples.
func TestExamples(t *testing.T) {
	if got := dist.Far(codes("ab"), codes("ba")); got != 1 {
		t.Error("ab, ba:", got)
	}
	if got := dist.Far(codes("ca"), codes("abc")); got != 3 {
		t.Error("ca, abc:", got)
	}
}

// P17.1: words told by hand.
func TestTable(t *testing.T) {
	for _, c := range []struct {
		a, b string
		far  int
	}{
		// None, or the same.
		{"", "", 0},
		{"", "a", 1},
		{"", "cat", 3},
		{"cat", "cat", 0},
		// One code put or taken, at each place.
		{"at", "cat", 1},
		{"ct", "cat", 1},
		{"ca", "cat", 1},
		{"catt", "cat", 1},
		// One turned, at each place.
		{"bat", "cat", 1},
		{"cut", "cat", 1},
		{"cab", "cat", 1},
		// One exchanged with the next one, at each place.
		{"act", "cat", 1},
		{"cta", "cat", 1},
		{"abcd", "badc", 2},
		{"abcdef", "badcfe", 3},
		// Exchanged by two places: that is none.
		{"abc", "cba", 2},
		{"cat", "tac", 2},
		{"abcd", "cdab", 4},
		// What was exchanged is not changed again, nor exchanged once more.
		{"ab", "bca", 3},
		{"ab", "bxa", 3},
		{"abc", "bca", 2},
		{"abcd", "bcda", 2},
		{"abc", "cab", 2},
		// Ahead of an exchange, and behind it, all else goes on.
		{"xabc", "bac", 2},
		{"abc", "bacx", 2},
		{"abx", "bay", 2},
		{"xab", "yba", 2},
		{"abab", "baba", 2},
		{"aab", "aba", 1},
		{"aabb", "abab", 1},
		// Several ways.
		{"kitten", "sitting", 3},
		{"saturday", "sunday", 3},
		{"receive", "recieve", 1},
		{"intention", "execution", 5},
		{"a", "bcdefg", 6},
		{"a", "bcdefga", 6},
		{"abcdef", "ghijkl", 6},
		{"abcdef", "", 6},
		{"aaaa", "aa", 2},
		// Great and small letters are unlike codes; a code point is one code, whatever its bytes.
		{"Cat", "cat", 1},
		{"été", "ete", 2},
		{"é\U0001f600", "\U0001f600é", 1},
		{"日本", "本", 1},
	} {
		a, b := codes(c.a), codes(c.b)
		if got := told(a, b); got != c.far {
			t.Fatalf("%q, %q are %d by the recurrence, not %d", c.a, c.b, got, c.far)
		}
		isFar(t, a, b, c.far)
	}
}

// words is all words of at most n of these codes.
func words(n int, of ...int) [][]int {
	l := [][]int{nil}
	for from := 0; n > 0; n-- {
		to := len(l)
		for _, head := range l[from:to] {
			for _, x := range of {
				l = append(l, append(slices.Clone(head), x))
			}
		}
		from = to
	}
	return l
}

// P17.1, P17.2: all pairs of small words.
func TestAllSmall(t *testing.T) {
	for _, l := range [][][]int{words(6, 'a', 'b'), words(4, 'a', 'b', 'c'), words(3, 0, -1, math.MinInt, math.MaxInt)} {
		for i, a := range l {
			for _, b := range l[i:] {
				isAsTold(t, a, b)
			}
		}
	}
}

// P17.1: every number of codes of the one beside every number of the other one, all unlike, or all the same.
func TestAllLengths(t *testing.T) {
	for n := range 40 {
		for m := range 40 {
			same, other := slices.Repeat([]int{'a'}, n), slices.Repeat([]int{'b'}, m)
			isFar(t, same, other, max(n, m))
			isFar(t, same, slices.Repeat([]int{'a'}, m), max(n, m)-min(n, m))
		}
	}
}

// mixer is numbers that look like any, the same ones each time.
type mixer uint64

func (m *mixer) below(n int) int {
	*m = *m*6364136223846793005 + 1442695040888963407
	return int(uint64(*m) >> 33 % uint64(n))
}

// code is one of some numbers, of any kind.
func (m *mixer) code(kinds int) int {
	return []int{'a', 'b', 'c', 'A', 0, -1, -256, 0xd800, 0x10ffff, 0x110000, math.MinInt, math.MaxInt, 1 << 40, 0xe9}[m.below(min(kinds, 14))]
}

// word is up to n codes.
func (m *mixer) word(n, kinds int) []int {
	var l []int
	for range m.below(n + 1) {
		l = append(l, m.code(kinds))
	}
	return l
}

// nearby is a word with a few changes.
func (m *mixer) nearby(l []int, changes, kinds int) []int {
	l = slices.Clone(l)
	for range changes {
		i := m.below(len(l) + 1)
		switch m.below(4) {
		case 0:
			l = slices.Insert(l, i, m.code(kinds))
		case 1:
			l = slices.Delete(l, min(i, len(l)), min(i+1, len(l)))
		case 2:
			if i < len(l) {
				l[i] = m.code(kinds)
			}
		case 3:
			if i > 0 && i < len(l) {
				l[i-1], l[i] = l[i], l[i-1]
			}
		}
	}
	return l
}

// P17.1, P17.2: words without a pattern, and such as are near each other.
func TestAny(t *testing.T) {
	m := mixer(17)
	for range 6000 {
		kinds := 2 + m.below(13)
		a := m.word(30, kinds)
		isAsTold(t, a, m.word(30, kinds))
		isAsTold(t, a, m.nearby(a, m.below(8), kinds))
		isAsTold(t, a, slices.Clone(a))
	}
}

// P17.1: words of the length that is suggested for, of one code more, and of many.
func TestLongWords(t *testing.T) {
	m := mixer(171)
	for _, n := range []int{23, 24, 25, 63, 64, 65, 255, 256, 257, 600} {
		for _, changes := range []int{1, 2, 3, 20} {
			a := m.nearby(slices.Repeat(codes("abcdefg"), n)[:n], n, 14)
			isAsTold(t, a, m.nearby(a, changes, 14))
		}
	}
}

// P17.1: Near at each number that could be the most.
func TestEachMost(t *testing.T) {
	m := mixer(172)
	for range 300 {
		a := m.word(12, 3)
		b := m.nearby(a, m.below(12), 3)
		want := told(a, b)
		for most := -30; most < 60; most++ {
			far, ok := dist.Near(a, b, most)
			if ok != (want <= most) || ok && far != want || !ok && far != 0 {
				t.Fatalf("Near of %v, %v, at most %d: %d, %v, and they are %d", a, b, most, far, ok, want)
			}
		}
	}
}

// R1, T5: of long words Near looks at those beginnings alone that may be near.
func TestLongNear(t *testing.T) {
	const n = 300000
	a := slices.Repeat(codes("abcdefghij"), n/10)
	b := slices.Clone(a)
	b[0], b[1] = b[1], b[0]
	b[n/2]++
	b = append(b, 'x')
	for most := range 10 {
		for range 2 {
			far, ok := dist.Near(a, b, most)
			if ok != (most >= 3) || ok && far != 3 || !ok && far != 0 {
				t.Fatalf("at most %d: %d, %v", most, far, ok)
			}
			a, b = b, a
		}
	}
	// Where the lengths tell it, nothing else is asked.
	for _, most := range []int{-1, 0, 1000, n - 1} {
		if far, ok := dist.Near(nil, a, most); far != 0 || ok {
			t.Fatalf("of nothing, at most %d: %d, %v", most, far, ok)
		}
		if far, ok := dist.Near(slices.Concat(a, a), a[:n-5], most); far != 0 || ok {
			t.Fatalf("of twice as much, at most %d: %d, %v", most, far, ok)
		}
	}
	isFar(t, nil, a[:1000], 1000)
	if far := dist.Far(a, nil); far != n {
		t.Fatal("nothing is", far, "away")
	}
	if far := dist.Far(codes("jj"), a); far != n-2 {
		t.Fatal("two of its codes are", far, "away")
	}
}

// R3, R4: words are not changed, spare room neither; nil and an empty word are one; what was asked ahead plays no part.
func TestNothingChanged(t *testing.T) {
	own, other := codes("kitten"), codes("sitting")
	a := append(make([]int, 0, 50), own...)
	b := append(make([]int, 0, 50), other...)
	for range 3 {
		isFar(t, a, b, 3)
		isFar(t, a[:3], b[:3], 1)
		isFar(t, nil, []int{}, 0)
		isFar(t, nil, a, 6)
		isFar(t, []int{}, b, 7)
		if !slices.Equal(a, own) || !slices.Equal(b, other) || slices.Max(a[6:50]) != 0 || slices.Max(b[7:50]) != 0 {
			t.Fatalf("a word has changed: %v, %v", a[:50], b[:50])
		}
	}
}

// R3: both words may be of one memory.
func TestOneMemory(t *testing.T) {
	l := codes(strings.Repeat("abcab", 4))
	for from := range l {
		for to := from; to <= len(l); to++ {
			isAsTold(t, l[from:to], l[:to])
			isAsTold(t, l[from:to], l[from/2:])
		}
	}
}
