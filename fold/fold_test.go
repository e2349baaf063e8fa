package fold_test

import (
	"math"
	"slices"
	"strconv"
	"strings"
	"testing"

	"abecedary/affix"
	"abecedary/api"
	"abecedary/fold"
	"abecedary/runes"
)

const greatest = 0x10ffff

// always is the pairs that stand behind those of each list.
func always() []api.Pair {
	var l []api.Pair
	for i, small := range "abcdefghijklmnopqrstuvwxyz" {
		l = append(l, api.Pair{Great: int("ABCDEFGHIJKLMNOPQRSTUVWXYZ"[i]), Small: int(small)})
	}
	return l
}

// pairsOf is pairs of letters that stand side by side: the great one, the small one.
func pairsOf(letters string) []api.Pair {
	codes, ok := runes.Codes(letters)
	if !ok || len(codes)%2 != 0 {
		panic("no pairs: " + letters)
	}
	var l []api.Pair
	for i := 0; i < len(codes); i += 2 {
		l = append(l, api.Pair{Great: codes[i], Small: codes[i+1]})
	}
	return l
}

// answer is what the three calls say of a text.
type answer struct {
	small, title string
	shape        int
}

// String is an answer in a message.
func (a answer) String() string {
	return "Small " + strconv.QuoteToASCII(a.small) + ", Title " + strconv.QuoteToASCII(a.title) + ", Shape " + strconv.Itoa(a.shape)
}

// all is what the three calls answer.
func all(l []api.Pair, s string) answer {
	return answer{fold.Small(l, s), fold.Title(l, s), fold.Shape(l, s)}
}

// told is what P14.1 says, word by word: pairs are asked one after the other.
func told(l []api.Pair, s string) answer {
	l = append(slices.Clone(l), always()...)
	units := runes.All(s)
	a := answer{title: s}
	var greats []int // their places among the units
	smalls := 0
	for i, u := range units {
		own := s[u.At : u.At+u.Len]
		great := slices.IndexFunc(l, func(p api.Pair) bool { return p.Great == u.Code })
		small := slices.IndexFunc(l, func(p api.Pair) bool { return p.Small == u.Code })
		if great >= 0 {
			greats = append(greats, i)
			own = runes.Bytes(l[great].Small)
		}
		a.small += own
		if small >= 0 {
			smalls++
			if i == 0 {
				a.title = runes.Bytes(l[small].Great) + s[u.Len:]
			}
		}
	}
	switch {
	case len(greats) == 0:
		a.shape = 0
	case len(greats) == 1 && greats[0] == 0:
		a.shape = 1
	case len(greats) >= 2 && smalls == 0:
		a.shape = 2
	default:
		a.shape = 3
	}
	return a
}

// isAsTold holds the three calls against the words of P14.1.
func isAsTold(t *testing.T, l []api.Pair, s string) {
	t.Helper()
	if got, want := all(l, s), told(l, s); got != want {
		t.Fatalf("of %v, %q: %v, want %v", l, s, got, want)
	}
}

// The document's examples.
func TestExamples(t *testing.T) {
	for s, want := range map[string]int{"NATO": 2, "A": 1} {
		if got := fold.Shape(nil, s); got != want {
			t.Errorf("Shape of %q: %d, want %d", s, got, want)
		}
	}
}

// P14.1, Small: told by hand.
func TestSmallTable(t *testing.T) {
	for _, c := range []struct {
		l       []api.Pair
		s, want string
	}{
		{nil, "", ""},
		{nil, "paris", "paris"},
		{nil, "Paris", "paris"},
		{nil, "NATO", "nato"},
		{nil, "McIntosh's 2 CDs", "mcintosh's 2 cds"},
		{nil, "@AZ[`az{", "@az[`az{"},
		// Great letters are those of pairs alone.
		{nil, "ÉÀ", "ÉÀ"},
		{pairsOf("Éé"), "ÉÀ", "éÀ"},
		{pairsOf("ÉéÀà"), "DÉJÀ", "déjà"},
		{pairsOf("Éé"), "éé", "éé"},
		// Both may be of any length, and need be no letters.
		{pairsOf("1é"), "1121", "éé2é"},
		{pairsOf("\U0001f600a"), "B\U0001f600\U0001f601", "ba\U0001f601"},
		{pairsOf("a\U0001f600"), "aB", "\U0001f600b"},
		// The first pair that has it counts, and those of the list come first.
		{pairsOf("Éé" + "Ée"), "É", "é"},
		{pairsOf("Ée" + "Éé"), "É", "e"},
		{pairsOf("Ax"), "AaX", "xax"},
		{pairsOf("AxAy"), "AB", "xb"},
		{pairsOf("AA"), "AB", "Ab"},
		// Each unit once: what comes of it stays.
		{pairsOf("aA"), "aA", "Aa"},
		{pairsOf("ÉA"), "ÉA", "Aa"},
		{pairsOf("xyyzzx"), "xyz", "yzx"},
		// A great letter as a small one, and the other way round.
		{pairsOf("ab"), "aAbB", "babb"},
		{pairsOf("BA"), "aBA", "aAa"},
	} {
		if got := fold.Small(c.l, c.s); got != c.want {
			t.Errorf("Small of %v, %q: %q, want %q", c.l, c.s, got, c.want)
		}
	}
}

// P14.1, Title: told by hand.
func TestTitleTable(t *testing.T) {
	for _, c := range []struct {
		l       []api.Pair
		s, want string
	}{
		{nil, "", ""},
		{nil, "a", "A"},
		{nil, "paris", "Paris"},
		{nil, "zoo", "Zoo"},
		{nil, "Paris", "Paris"},
		{nil, "pARIS", "PARIS"},
		// The first unit alone, if it is no small letter too.
		{nil, "'tis", "'tis"},
		{nil, "1st", "1st"},
		{nil, " a", " a"},
		{nil, "`a", "`a"},
		{nil, "{a", "{a"},
		{nil, "été", "été"},
		{pairsOf("Éé"), "été", "Été"},
		{pairsOf("Éé"), "Été", "Été"},
		{pairsOf("Éé"), "taché", "Taché"},
		{pairsOf("1é"), "étéé", "1téé"},
		{pairsOf("\U0001f600a"), "aa", "\U0001f600a"},
		{pairsOf("a\U0001f600"), "\U0001f600\U0001f600", "a\U0001f600"},
		// The first pair that has it counts, and those of the list come first.
		{pairsOf("ÉeÈe"), "ee", "Ée"},
		{pairsOf("ÈeÉe"), "ee", "Èe"},
		{pairsOf("EeÉe"), "ee", "Ee"},
		{pairsOf("Éé" + "ÉeÈe"), "ee", "Ée"},
		{pairsOf("aa"), "aa", "aa"},
		// Once: what comes of it stays.
		{pairsOf("bacb"), "abc", "bbc"},
		{pairsOf("aA"), "aA", "AA"},
		{pairsOf("aA"), "AA", "aA"},
	} {
		if got := fold.Title(c.l, c.s); got != c.want {
			t.Errorf("Title of %v, %q: %q, want %q", c.l, c.s, got, c.want)
		}
	}
}

// P14.1, Shape: told by hand.
func TestShapeTable(t *testing.T) {
	for _, c := range []struct {
		l    []api.Pair
		s    string
		want int
	}{
		{nil, "", 0},
		{nil, "paris", 0},
		{nil, "1", 0},
		{nil, "ÉÀ", 0},
		{nil, "@[", 0},
		{nil, "A", 1},
		{nil, "Z", 1},
		{nil, "Paris", 1},
		{nil, "P1", 1},
		{nil, "Été", 0},
		{pairsOf("Éé"), "Été", 1},
		{pairsOf("Éé"), "É", 1},
		{nil, "AZ", 2},
		{nil, "IT'S 5", 2},
		{nil, "5A'B", 2},
		{nil, "A\xffB", 2},
		// What is in no pair is no small letter.
		{nil, "AéB", 2},
		{pairsOf("Éé"), "AéB", 3},
		{pairsOf("Éé"), "ÉA", 2},
		{pairsOf("Éé"), "AÉ", 2},
		{nil, "pAris", 3},
		{nil, "1A", 3},
		{nil, "'A", 3},
		{nil, "aA", 3},
		{nil, "PaRis", 3},
		{nil, "NATOs", 3},
		{nil, "sNATO", 3},
		{nil, "\xffA", 3},
		{pairsOf("Éé"), "éÉ", 3},
		// What is a great letter and a small one is both.
		{pairsOf("aa"), "a", 1},
		{pairsOf("aa"), "aa", 3},
		{pairsOf("aa"), "aA", 3},
		{pairsOf("xA"), "AB", 3},
		{pairsOf("xA"), "BC", 2},
		{pairsOf("xA"), "A", 1},
		{pairsOf("ab"), "ba", 3},
		{pairsOf("ab"), "abc", 1},
		{pairsOf("11"), "11", 3},
		{pairsOf("12"), "11", 2},
		{pairsOf("12"), "112", 3},
		{pairsOf("12"), "12", 1},
		{pairsOf("12"), "21", 3},
		// Pairs behind the first one that has a letter take nothing from it, and their other letters are letters too.
		{pairsOf("A1A2"), "AA", 2},
		{pairsOf("A1A2"), "AA1", 3},
		{pairsOf("A1A2"), "AA2", 3},
		{pairsOf("A1A2"), "AAa", 3},
		{pairsOf("1a2a"), "12", 2},
		{pairsOf("1a2a"), "2", 1},
	} {
		if got := fold.Shape(c.l, c.s); got != c.want {
			t.Errorf("Shape of %v, %q: %d, want %d", c.l, c.s, got, c.want)
		}
	}
}

// P14.1: without pairs of a list the great letters are A to Z, the small ones a to z, and no other code point and no byte is one.
func TestAlways(t *testing.T) {
	is := func(s string, want answer) {
		if got := all(nil, s); got != want {
			t.Fatalf("of %q: %v, want %v", s, got, want)
		}
	}
	for code := range greatest + 1 {
		s := runes.Bytes(code)
		switch {
		case code >= 'A' && code <= 'Z':
			is(s, answer{string(rune(code + 32)), s, 1})
		case code >= 'a' && code <= 'z':
			is(s, answer{s, string(rune(code - 32)), 0})
		// Far beyond some are enough: what looks like a letter of other ways to fold stands ahead.
		case s != "" && (code < 0x2200 || code%97 == 0):
			is(s, answer{s, s, 0})
		}
	}
	for c := 0x80; c < 0x100; c++ {
		s := string([]byte{byte(c)})
		is(s, answer{s, s, 0})
	}
}

// P14.1, Small: all code points and all bytes in one text.
func TestSmallOfEverything(t *testing.T) {
	var b, want strings.Builder
	put := func(s string) {
		b.WriteString(s)
		if len(s) == 1 && s[0] >= 'A' && s[0] <= 'Z' {
			s = string([]byte{s[0] + 32})
		}
		want.WriteString(s)
	}
	for code := range greatest + 1 {
		put(runes.Bytes(code))
	}
	for c := range 256 {
		put(string([]byte{byte(255 - c)}))
	}
	if fold.Small(nil, b.String()) != want.String() {
		t.Error("Small of all code points changes others than A to Z")
	}
	if got := fold.Shape(nil, b.String()); got != 3 {
		t.Errorf("Shape of all code points: %d", got)
	}
}

// P14.1: what is put there may be no code point, and of that there is nothing.
func TestOfNone(t *testing.T) {
	for _, none := range []int{-1, -98, -256, -257, 0xd800, 0xdfff, greatest + 1, 1<<32 + 'a', 1<<21 + 'a', math.MaxInt, math.MinInt, math.MinInt + 'a'} {
		l := []api.Pair{{Great: 'A', Small: none}, {Great: none, Small: 'a'}, {Great: 'A', Small: 'x'}, {Great: 'X', Small: 'a'}}
		if got := all(l, "AbAA"); got != (answer{"b", "AbAA", 3}) {
			t.Errorf("%d: %v", none, got)
		}
		if got := all(l, "aab"); got != (answer{"aab", "ab", 0}) {
			t.Errorf("%d: %v", none, got)
		}
		if got := all(l, "A"); got != (answer{"", "A", 1}) {
			t.Errorf("%d: %v", none, got)
		}
		if got := all(l, "a"); got != (answer{"a", "", 0}) {
			t.Errorf("%d: %v", none, got)
		}
		// What stands around it may come to be a code point: it stays, byte by byte.
		if got := fold.Small(l, "\xc3A\xa9"); got != "é" {
			t.Errorf("%d: %q", none, got)
		}
		isAsTold(t, l, "\xff\xc3A\xa9\x00")
	}
}

// P14.1: a byte that is no code point is a unit as well, by its code below 0; one that is a code point is not.
func TestBytesAsLetters(t *testing.T) {
	l := []api.Pair{{Great: -256, Small: 'x'}, {Great: 'Y', Small: -255}, {Great: -1 - 'B', Small: 'z'}, {Great: -1 - 0xc3, Small: 'é'}}
	for _, c := range []struct {
		s    string
		want answer
	}{
		{"\xff", answer{"x", "\xff", 1}},
		{"a\xff", answer{"ax", "A\xff", 3}},
		{"\xff\xff", answer{"xx", "\xff\xff", 2}},
		{"\xff\xff\xfe", answer{"xx\xfe", "\xff\xff\xfe", 3}},
		{"\xfe\xff", answer{"\xfex", "Y\xff", 3}},
		{"BY", answer{"b", "BY", 2}},
		{"\xc3", answer{"é", "\xc3", 1}},
		{"é", answer{"é", "", 0}},
		{"\u0142", answer{"\u0142", "\u0142", 0}},
		{"é\xc3", answer{"éé", "\xc3", 3}},
		{"\xc3é", answer{"éé", "\xc3é", 1}},
	} {
		if got := all(l, c.s); got != c.want {
			t.Errorf("of %q: %v, want %v", c.s, got, c.want)
		}
	}
}

// lists is all lists of at most n of a pool.
func lists[T any](n int, pool ...T) [][]T {
	l := [][]T{nil}
	for from := 0; n > 0; n-- {
		to := len(l)
		for _, head := range l[from:to] {
			for _, x := range pool {
				l = append(l, append(slices.Clone(head), x))
			}
		}
		from = to
	}
	return l
}

// P14.1: all lists of a few pairs, of which many have a letter together, and all texts of a few units.
func TestAllSmall(t *testing.T) {
	pool := append(pairsOf("ÉéÉeÈéAxxAaAaa1aA1"), api.Pair{Great: 'A', Small: -1}, api.Pair{Great: -1, Small: 'a'}, api.Pair{Great: -256, Small: 'a'}, api.Pair{Great: 'A', Small: -256}, api.Pair{}, api.Pair{Great: 'É', Small: 0})
	texts := lists(3, "A", "a", "É", "é", "x", "1", "\xff", "\x00", "\xc3")
	for _, l := range lists(2, pool...) {
		for _, units := range texts {
			isAsTold(t, l, strings.Join(units, ""))
		}
	}
	for _, l := range lists(4, pairsOf("AéÉaaAAa")...) {
		for _, units := range lists(4, "A", "a", "É") {
			isAsTold(t, l, strings.Join(units, ""))
		}
	}
}

// mixer answers numbers without a pattern, always the same ones.
type mixer uint64

func (m *mixer) below(n int) int {
	*m = *m*6364136223846793005 + 1442695040888963407
	return int(*m>>33) % n
}

// one is one of some.
func one[T any](m *mixer, of ...T) T { return of[m.below(len(of))] }

// code is a letter, or a byte, or no such thing.
func (m *mixer) code() int {
	return one(m, 'A'+m.below(28), 'a'+m.below(28), 0xc0+m.below(64), m.below(greatest), -1-m.below(258), one(m, 0, math.MaxInt, math.MinInt, 0xd800))
}

// text is up to n units, and parts of some.
func (m *mixer) text(n int) string {
	var b strings.Builder
	for range m.below(n + 1) {
		b.WriteString(one(m, runes.Bytes('A'+m.below(28)), runes.Bytes('a'+m.below(28)), runes.Bytes(0xc0+m.below(64)), runes.Bytes(m.below(greatest)), string([]byte{byte(m.below(256))})))
	}
	return b.String()
}

// P14.1: pairs and texts without a pattern.
func TestAny(t *testing.T) {
	m := mixer(14)
	for range 20000 {
		var l []api.Pair
		for range m.below(30) {
			l = append(l, api.Pair{Great: m.code(), Small: m.code()})
		}
		s := m.text(20)
		isAsTold(t, l, s)
		if len(l) > 0 {
			p := l[m.below(len(l))]
			isAsTold(t, l, runes.Bytes(p.Small)+s+runes.Bytes(p.Great))
			isAsTold(t, l, runes.Bytes(p.Great)+s)
		}
	}
}

// read is the pairs that layer 11 reads in these lines.
func read(t *testing.T, lines ...string) []api.Pair {
	t.Helper()
	a, line, e := affix.Parse(strings.Join(lines, "\n"))
	if e != api.OK {
		t.Fatalf("line %d: error %d", line, e)
	}
	return a.Pairs
}

// isSmall holds that Small of Small is Small, and that it has no great letter.
func isSmall(t *testing.T, l []api.Pair, s string) {
	t.Helper()
	small := fold.Small(l, s)
	if again := fold.Small(l, small); again != small {
		t.Fatalf("of %v, %q: Small %q, of that %q", l, s, small, again)
	}
	if shape := fold.Shape(l, small); shape != 0 {
		t.Fatalf("of %v: Small %q of %q has Shape %d", l, small, s, shape)
	}
	isAsTold(t, l, s)
}

// P14.2: with pairs such as layer 11 reads, over any texts.
func TestSmallTwice(t *testing.T) {
	all := [][]api.Pair{nil, read(t, "CASE Éé"), read(t, "CASE éÉ"), read(t, "CASE Éé", "CASE Àà", "# more", "CASE 12", "CASE \U0001f600\u00ff"), read(t, "CASE \x00\x01", "CASE \u0080\u07ff", "CASE \u0800\uffff", "CASE \U00010000\U0010ffff")}
	for _, l := range all {
		for _, units := range lists(4, "A", "z", "É", "é", "\xc3", "\xa9", "\x00") {
			isSmall(t, l, strings.Join(units, ""))
		}
		m := mixer(142)
		for range 1000 {
			isSmall(t, l, m.text(30))
		}
	}
	var lines []string
	var s strings.Builder
	for i := range api.MaxRules {
		great, small := runes.Bytes(0x400+2*i), runes.Bytes(0x401+2*i)
		lines = append(lines, "CASE "+great+small)
		s.WriteString(small + great + "\xd0")
	}
	isSmall(t, read(t, lines...), s.String())
}

// P14.2 hangs on the pairs: with others the second time may say something else.
func TestSmallTwiceOfOtherPairs(t *testing.T) {
	l := pairsOf("xyyz")
	if once, twice := fold.Small(l, "x"), fold.Small(l, fold.Small(l, "x")); once != "y" || twice != "z" {
		t.Errorf("%q, %q", once, twice)
	}
}

// R1, R5: long texts and many pairs: no call asks each pair of each unit.
func TestLong(t *testing.T) {
	var l []api.Pair
	for i := range 200000 {
		p := api.Pair{Great: 0x10000 + 2*i, Small: 0x10001 + 2*i}
		l = append(l, p, api.Pair{Great: p.Great, Small: -i}, api.Pair{Great: -1000 - i, Small: p.Small})
	}
	great, small, n := "\U00071a7e", "\U00071a7f", 300000
	if l[len(l)-3] != pairsOf(great + small)[0] {
		t.Fatal("another pair is the last one")
	}
	for _, c := range []struct {
		s    string
		want answer
	}{
		{strings.Repeat("B", n), answer{strings.Repeat("b", n), strings.Repeat("B", n), 2}},
		{"é" + strings.Repeat("\xff", n), answer{"é" + strings.Repeat("\xff", n), "é" + strings.Repeat("\xff", n), 0}},
		{strings.Repeat(great, n), answer{strings.Repeat(small, n), strings.Repeat(great, n), 2}},
		{strings.Repeat(small, n), answer{strings.Repeat(small, n), great + strings.Repeat(small, n-1), 0}},
		{great + strings.Repeat("1", n), answer{small + strings.Repeat("1", n), great + strings.Repeat("1", n), 1}},
		{strings.Repeat("1", n) + great, answer{strings.Repeat("1", n) + small, strings.Repeat("1", n) + great, 3}},
	} {
		if all(l, c.s) != c.want {
			t.Errorf("of %q.., %d bytes: another answer than Shape %d", c.s[:4], len(c.s), c.want.shape)
		}
	}
}

// R3, R4: pairs that are handed in are not changed, spare room neither, nor kept; nil and an empty list are one.
func TestNothingChangedNorKept(t *testing.T) {
	own := pairsOf("ÉéÉeAxxA")
	spare := append(make([]api.Pair, 0, 100), own...)
	want := told(own, "xÉA")
	for range 3 {
		if got := all(spare, "xÉA"); got != want {
			t.Fatalf("%v, want %v", got, want)
		}
		if got := all(nil, "xÉA"); got != (answer{"xÉa", "XÉA", 3}) || got != all([]api.Pair{}, "xÉA") {
			t.Fatalf("without pairs: %v", got)
		}
		if !slices.Equal(spare, own) || slices.ContainsFunc(spare[:cap(spare)][len(own):], func(p api.Pair) bool { return p != api.Pair{} }) {
			t.Fatalf("the pairs have changed: %v", spare[:cap(spare)])
		}
	}
	spare[0].Small = 'q'
	if got := fold.Small(spare, "É"); got != "q" {
		t.Errorf("a pair that was handed in before counts: %q", got)
	}
}
