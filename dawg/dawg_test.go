package dawg_test

import (
	"math"
	"slices"
	"strconv"
	"strings"
	"testing"

	"abecedary/api"
	"abecedary/dawg"
)

// longest is how many bytes a word may have.
const longest = 200

// inOrder is words rising by bytes, each once.
func inOrder(l []string) []string {
	l = slices.Clone(l)
	slices.SortFunc(l, func(a, b string) int { return slices.Compare([]byte(a), []byte(b)) })
	return slices.Compact(l)
}

// brief is the beginning of a list for a message.
func brief(l []string) string {
	var b strings.Builder
	for i, s := range l {
		if i == 12 {
			b.WriteString(" ..")
			break
		}
		if len(s) > 60 {
			s = s[:60] + ".."
		}
		b.WriteString(" " + strconv.Quote(s))
	}
	return strconv.Itoa(len(l)) + ":" + b.String()
}

// builds is the automaton of words that there is one of.
func builds(t *testing.T, l []string) *dawg.Auto {
	t.Helper()
	a, e := dawg.Build(l)
	if a == nil || e != api.OK {
		t.Fatalf("Build(%s): error %d", brief(l), e)
	}
	return a
}

// isBig holds that there is no automaton of words.
func isBig(t *testing.T, l []string) {
	t.Helper()
	if a, e := dawg.Build(l); a != nil || e != api.ErrBig {
		t.Fatalf("Build(%s): error %d, want %d and nothing", brief(l), e, api.ErrBig)
	}
}

// ending is what words that begin so go on with.
type ending struct {
	begin string
	final bool   // it is a word itself
	out   string // the bytes that lead on, rising
	all   string // all endings in order
}

// endings is all beginnings of words, the empty one too, with their endings: by the words of P15.1 and P15.2.
func endings(words []string) map[string]ending {
	all := map[string]ending{"": {}}
	for _, w := range inOrder(words) {
		for i := range len(w) + 1 {
			x := all[w[:i]]
			x.begin = w[:i]
			x.all += strconv.Quote(w[i:])
			if i == len(w) {
				x.final = true
			} else if !strings.HasSuffix(x.out, w[i:i+1]) {
				x.out += w[i : i+1]
			}
			all[w[:i]] = x
		}
	}
	return all
}

// led is the state that bytes lead to.
func led(a *dawg.Auto, s string) (int, bool) {
	state := a.Start()
	for _, c := range []byte(s) {
		next, ok := a.Next(state, c)
		if !ok {
			return 0, false
		}
		state = next
	}
	return state, true
}

// isState holds what is told of the state behind a beginning, as far as these bytes are asked.
func isState(t *testing.T, a *dawg.Auto, state int, want ending, bytes string) {
	t.Helper()
	if got := a.Final(state); got != want.final {
		t.Fatalf("behind %q: Final %v", want.begin, got)
	}
	if got := a.Out(state); string(got) != want.out {
		t.Fatalf("behind %q: Out %q, want %q", want.begin, got, want.out)
	}
	for _, c := range []byte(bytes) {
		next, ok := a.Next(state, c)
		if there := strings.IndexByte(want.out, c) >= 0; ok != there || !there && next != 0 {
			t.Fatalf("behind %q: Next %q is %d, %v", want.begin, c, next, ok)
		}
	}
}

// isAsTold holds an automaton against the words of P15.1 and P15.2: beginnings with the same endings, and no others, lead to one state.
func isAsTold(t *testing.T, l []string, bytes string) *dawg.Auto {
	t.Helper()
	a, all := builds(t, l), endings(l)
	states, of := map[string]int{}, map[int]string{}
	for begin, x := range all {
		state, ok := led(a, begin)
		if !ok || state < 0 || state >= a.States() {
			t.Fatalf("of %s: %q leads to %d, %v of %d states", brief(l), begin, state, ok, a.States())
		}
		if s, ok := states[x.all]; ok && s != state {
			t.Fatalf("of %s: the endings %s lead on from %d and %d", brief(l), x.all, s, state)
		}
		if e, ok := of[state]; ok && e != x.all {
			t.Fatalf("of %s: from %d the endings are %s and %s", brief(l), state, e, x.all)
		}
		if _, ok := of[state]; !ok {
			isState(t, a, state, x, bytes)
		}
		states[x.all], of[state] = state, x.all
		hasAround(t, a, all, begin, bytes)
	}
	if a.States() != len(states) {
		t.Fatalf("of %s: %d states, want %d", brief(l), a.States(), len(states))
	}
	hasNone(t, a)
	return a
}

// hasAround holds Has of a beginning, and of that and each byte behind it.
func hasAround(t *testing.T, a *dawg.Auto, all map[string]ending, begin, bytes string) {
	t.Helper()
	if got := a.Has(begin); got != all[begin].final {
		t.Fatalf("Has(%q): %v", begin, got)
	}
	for _, c := range []byte(bytes) {
		if s := begin + string([]byte{c}); a.Has(s) != all[s].final {
			t.Fatalf("Has(%q): %v", s, a.Has(s))
		}
	}
}

// hasNone holds what is told of states that there are not.
func hasNone(t *testing.T, a *dawg.Auto) {
	t.Helper()
	n := a.States()
	for _, state := range []int{-1, -2, -n, -n - 1, n, n + 1, 2 * n, 1 << 31, 1 << 32, 1<<32 + n - 1, -1 << 32, math.MaxInt, math.MinInt, math.MinInt + n - 1} {
		if state >= 0 && state < n {
			continue
		}
		if out := a.Out(state); a.Final(state) || len(out) > 0 {
			t.Fatalf("of %d states, of %d: Final %v, Out %q", n, state, a.Final(state), out)
		}
		for _, c := range []byte("\x00abt\xff") {
			if next, ok := a.Next(state, c); ok || next != 0 {
				t.Fatalf("of %d states, of %d: Next %q is %d, %v", n, state, c, next, ok)
			}
		}
	}
}

// allBytes is each byte once.
func allBytes() string {
	var b strings.Builder
	for c := range 256 {
		b.WriteByte(byte(c))
	}
	return b.String()
}

// The document's example.
func TestExample(t *testing.T) {
	a := isAsTold(t, []string{"tap", "taps", "top", "tops"}, allBytes())
	if a.States() != 5 {
		t.Errorf("%d states", a.States())
	}
}

// P15.1, P15.2: told by hand.
func TestTable(t *testing.T) {
	for _, c := range []struct {
		l      []string
		states int
	}{
		{nil, 1},
		{[]string{""}, 1},
		{[]string{"a"}, 2},
		{[]string{"", "a"}, 2},
		{[]string{"a", "b"}, 2},
		{[]string{"a", "aa"}, 3},
		{[]string{"", "a", "aa"}, 3},
		{[]string{"", "aa"}, 3},
		{[]string{"ab", "b"}, 3},
		{[]string{"ab", "ac"}, 3},
		{[]string{"ab", "cd"}, 4},
		{[]string{"ab", "cb"}, 3},
		{[]string{"ab", "abc", "cb"}, 5},
		{[]string{"ab", "abc", "cb", "cbc"}, 4},
		// A word that is an ending too, and not one behind another.
		{[]string{"x", "ax", "a"}, 3},
		{[]string{"ba", "ca", "c"}, 4},
		{[]string{"cat", "cats", "dog", "dogs"}, 7},
		{[]string{"flies", "fly", "tries", "try"}, 7},
		{[]string{"tap", "taps", "top", "tops", "stop", "stops"}, 7},
		{[]string{"it's", "its"}, 5},
		{[]string{"été", "été's"}, 8},
		{[]string{"\xc3\xa9", "\xc3", "\xa9"}, 3},
		{[]string{"\x00", "\x00\x00", "\xff\x00"}, 4},
		{[]string{"A", "a"}, 2},
		{[]string{"a\n", "a"}, 3},
	} {
		a := isAsTold(t, c.l, "abcst'é\xc3\xa9\x00\xffzA\n ")
		if a.States() != c.states {
			t.Errorf("of %s: %d states, want %d", brief(c.l), a.States(), c.states)
		}
	}
}

// P15.1, Has: just these.
func TestHas(t *testing.T) {
	a := builds(t, []string{"tap", "taps", "top", "tops", "été"})
	for _, s := range []string{"tap", "taps", "top", "tops", "été"} {
		if !a.Has(s) {
			t.Errorf("has no %q", s)
		}
	}
	for _, s := range []string{"", "t", "ta", "to", "ap", "op", "s", "tapss", "tap ", " tap", "Tap", "TAP", "tip", "tp", "tapa", "tapt", "taptap", "tap\x00", "\x00", "ét", "ét\xc3", "ete", "ét\u00e8", "taps\n", strings.Repeat("taps", 1000), strings.Repeat("s", 1<<20)} {
		if a.Has(s) {
			t.Errorf("has %q", s[:min(len(s), 60)])
		}
	}
}

// P15.1, P15.2: of no words there is one state, that leads nowhere and is none; of the empty word it is one.
func TestNoWords(t *testing.T) {
	for _, l := range [][]string{nil, {}, {""}, {"", "", ""}} {
		a := builds(t, l)
		word := len(l) > 0
		if a.States() != 1 || a.Start() != 0 || a.Final(0) != word || a.Has("") != word || len(a.Out(0)) != 0 {
			t.Errorf("of %s: %d states, from %d on, Final %v, Has %v, Out %q", brief(l), a.States(), a.Start(), a.Final(0), a.Has(""), a.Out(0))
		}
		isAsTold(t, l, allBytes())
	}
}

// words is all words of at most n of these letters.
func words(n int, letters ...string) []string {
	l := []string{""}
	for from := 0; n > 0; n-- {
		to := len(l)
		for _, head := range l[from:to] {
			for _, x := range letters {
				l = append(l, head+x)
			}
		}
		from = to
	}
	return l
}

// P15.1, P15.2: all sets of words of at most three bytes.
func TestAllSmall(t *testing.T) {
	pool := words(3, "a", "b")
	for set := range 1 << len(pool) {
		var l []string
		for i, w := range pool {
			if set>>i&1 > 0 {
				l = append(l, w)
			}
		}
		isAsTold(t, l, "`abc")
	}
}

// P15.1, P15.2: all lists of a few words of bytes at both ends, in any order, some twice.
func TestAllLists(t *testing.T) {
	pool := words(2, "\x00", "a", "\x80", "\xff")
	for _, x := range pool {
		for _, y := range pool {
			for _, z := range pool {
				isAsTold(t, []string{x, y, z}, "\x00\x01a\x7f\x80\xfe\xff")
			}
		}
	}
}

// P15.1: every byte leads on by itself; Out has all, rising.
func TestEveryByte(t *testing.T) {
	bytes := allBytes()
	var l []string
	for _, c := range []byte(bytes) {
		l = append(l, string([]byte{255 - c}))
	}
	if a := isAsTold(t, l, bytes); a.States() != 2 || string(a.Out(a.Start())) != bytes {
		t.Errorf("%d states, Out %q", a.States(), a.Out(a.Start()))
	}
	// Behind each of the upper half all bytes that are not below it: no two have the same endings.
	var pairs []string
	for i, x := range l[:128] {
		for _, y := range l[:i+1] {
			pairs = append(pairs, x+y)
		}
	}
	if a := isAsTold(t, pairs, bytes); a.States() != 130 {
		t.Errorf("%d states", a.States())
	}
	for _, without := range []int{0, 1, 127, 128, 254, 255} {
		isAsTold(t, slices.Delete(slices.Clone(l), without, without+1), bytes)
	}
}

// orders is all orders of a list.
func orders(l []string) [][]string {
	if len(l) == 0 {
		return [][]string{nil}
	}
	var out [][]string
	for i, x := range l {
		for _, tail := range orders(slices.Delete(slices.Clone(l), i, i+1)) {
			out = append(out, append([]string{x}, tail...))
		}
	}
	return out
}

// P15.1: in any order; a word twice is once.
func TestAnyOrder(t *testing.T) {
	for _, l := range orders([]string{"", "tap", "taps", "top", "stop", "\xff"}) {
		for _, more := range [][]string{nil, l, l[:1], {"tap", "tap"}} {
			if a := isAsTold(t, append(slices.Clone(l), more...), "\x00aopst\xff"); a.States() != 8 {
				t.Fatalf("of %s: %d states", brief(l), a.States())
			}
		}
	}
}

// numbered is so many words of five digits.
func numbered(n int) []string {
	var l []string
	for i := range n {
		l = append(l, strconv.Itoa(100000 + i)[1:])
	}
	return l
}

// P15.1: at most MaxForms words, each counted once.
func TestManyWords(t *testing.T) {
	for _, n := range []int{19999, 20000} {
		isWhole(t, numbered(n))
		isWhole(t, append(numbered(n), numbered(n)...))
		isWhole(t, append(numbered(n), slices.Repeat([]string{"00000", "07777"}, 100000)...))
	}
	for _, n := range []int{20001, 20002, 40000, 99999} {
		isBig(t, numbered(n))
	}
	full := numbered(20000)
	for _, w := range []string{"", "0", "000000", "20000", "x", "\x00", "\xff", "00000 ", "O0000"} {
		isWhole(t, append(slices.Clone(full[1:]), w))
		for _, at := range []int{0, 10000, 20000} {
			isBig(t, slices.Insert(slices.Clone(full), at, w))
		}
	}
}

// P15.1: at most 200 bytes each, wherever the word stands and how often.
func TestLongWords(t *testing.T) {
	for _, part := range []string{"a", "\x00", "\xff", "ab"} {
		long := strings.Repeat(part, longest+1)[:longest]
		isWhole(t, []string{long})
		isWhole(t, []string{long, long[1:], long[:1], "b" + long[1:], long[1:] + "b"})
		for _, more := range []string{"a", "\x00", "b", "\xff", long, strings.Repeat("x", 1<<20)} {
			isBig(t, []string{long + more})
			isBig(t, []string{more + long, more + long})
			isBig(t, []string{"a", long, long + more})
			isBig(t, []string{long + more, "a", long})
			isBig(t, append([]string{long + more}, numbered(20000)...))
			isBig(t, append(numbered(20001), more+long))
		}
	}
	// Bytes are counted, not code points.
	isWhole(t, []string{strings.Repeat("é", 100)})
	isBig(t, []string{strings.Repeat("é", 101)})
	isBig(t, []string{strings.Repeat("é", 100) + "a"})
	isWhole(t, []string{strings.Repeat("\U0001f600", 50)})
	isBig(t, []string{strings.Repeat("\U0001f600", 51)})
}

// look is what is told of a state: no two of an automaton without circles may have the same look.
type look struct {
	final bool
	leads string
}

// isWhole holds an automaton of any size: its words, going from the start on, are these; each state is reached and leads to a word, and no two look alike.
func isWhole(t *testing.T, l []string) *dawg.Auto {
	t.Helper()
	a, want := builds(t, l), inOrder(l)
	reached, leads, looks := make([]bool, a.States()), make([]bool, a.States()), map[look]int{}
	n := 0
	var from func(state int, begin []byte)
	from = func(state int, begin []byte) {
		known := reached[state]
		reached[state] = true
		x := look{final: a.Final(state)}
		if x.final {
			if n >= len(want) || string(begin) != want[n] {
				t.Fatalf("of %s: word %d is %q", brief(l), n, begin)
			}
			n++
			leads[state] = true
		}
		out := a.Out(state)
		for i, c := range out {
			next, ok := a.Next(state, c)
			if !ok || next < 0 || next >= a.States() || i > 0 && out[i-1] >= c {
				t.Fatalf("of %s: behind %q: Out %q, Next %q is %d, %v of %d states", brief(l), begin, out, c, next, ok, a.States())
			}
			x.leads += string([]byte{c}) + strconv.Itoa(next) + ","
			from(next, append(begin, c))
			leads[state] = leads[state] || leads[next]
		}
		if s, ok := looks[x]; ok && s != state {
			t.Fatalf("of %s: states %d and %d are alike", brief(l), s, state)
		}
		if !known {
			looks[x] = state
		}
	}
	from(a.Start(), nil)
	if n != len(want) || slices.Contains(reached, false) || slices.Contains(leads, false) && n > 0 {
		t.Fatalf("of %s: %d words of %d, %d states", brief(l), n, len(want), a.States())
	}
	for _, w := range want {
		if !a.Has(w) {
			t.Fatalf("of %s: has no %q", brief(l), w)
		}
	}
	hasNone(t, a)
	return a
}

// P15.2, T5: how many states there are of words that have much together.
func TestSmallOfMany(t *testing.T) {
	front, back := strings.Repeat("ab", 95), strings.Repeat("ba", 95)
	around := func(ahead, behind string) []string {
		var l []string
		for _, w := range numbered(20000) {
			l = append(l, ahead+w+behind)
		}
		return l
	}
	var rising []string
	for i := range longest + 1 {
		rising = append(rising, strings.Repeat("a", i))
	}
	for _, c := range []struct {
		l      []string
		states int
	}{
		{numbered(20000), 6},
		{numbered(10), 6},
		{numbered(11), 7},
		{around(front, ""), 196},
		{around("", back), 196},
		{around(front[:96], back[:96]), 198},
		{rising, 201},
		{rising[longest:], 201},
		{rising[1:], 201},
		{words(8, "a", "b", "c"), 9},
		{words(13, "a", "b"), 14},
	} {
		if a := isWhole(t, c.l); a.States() != c.states {
			t.Errorf("of %s: %d states, want %d", brief(c.l), a.States(), c.states)
		}
	}
}

// mixer answers numbers without a pattern, always the same ones.
type mixer uint64

func (m *mixer) below(n int) int {
	*m = *m*6364136223846793005 + 1442695040888963407
	return int(*m>>33) % n
}

// one is one of some.
func one[T any](m *mixer, of ...T) T { return of[m.below(len(of))] }

// word is up to n letters of a few.
func (m *mixer) word(n, letters int) string {
	var b strings.Builder
	for range m.below(n + 1) {
		b.WriteByte(byte(m.below(letters)*37 + 'a'))
	}
	return b.String()
}

// P15.1, P15.2: words without a pattern, with endings that many have.
func TestAny(t *testing.T) {
	m := mixer(15)
	for range 1500 {
		var l []string
		letters := 1 + m.below(7)
		for range m.below(60) {
			w := m.word(8, letters)
			l = append(l, w)
			for range m.below(3) {
				l = append(l, w+one(&m, "s", "ed", "ing", ""), one(&m, "un", "re")+w, w)
			}
		}
		isAsTold(t, l, "\x00sa`b\xff")
		isWhole(t, l)
	}
}

// P15.1, P15.2: many words without a pattern.
func TestAnyMany(t *testing.T) {
	m := mixer(152)
	for _, letters := range []int{2, 5, 26, 256} {
		var l []string
		for range 10000 {
			w := m.word(12, letters)
			l = append(l, w, w+"s")
		}
		isWhole(t, l)
	}
}

// R1: as many words as there may be, as long as they may be, with hardly anything together.
func TestGreatest(t *testing.T) {
	m := mixer(153)
	var l []string
	for i := range api.MaxForms {
		w := []byte(strconv.Itoa(100000 + i)[1:])
		for len(w) < longest {
			w = append(w, byte(m.below(256)))
		}
		l = append(l, string(w))
	}
	a := builds(t, l)
	// Behind its digits each word has states of its own, but for the last few bytes: many words end so.
	if n := a.States(); n < api.MaxForms*(longest-10) || n > api.MaxForms*(longest-4) {
		t.Errorf("%d states", n)
	}
	for _, w := range l {
		if !a.Has(w) || a.Has(w[:longest-1]) || a.Has(w+"a") {
			t.Fatalf("%q", w)
		}
	}
	isBig(t, append(l, ""))
}

// R4: automata of the same words tell the same of each state, whatever was built between.
func TestAlike(t *testing.T) {
	l := append(words(4, "a", "b"), "tap", "taps", "top", "tops", "\xff")
	one, other := builds(t, l), builds(t, []string{"other"})
	again := builds(t, l)
	if one.States() != again.States() || one.Start() != again.Start() {
		t.Fatalf("%d and %d states, from %d and %d on", one.States(), again.States(), one.Start(), again.Start())
	}
	for state := range one.States() {
		if one.Final(state) != again.Final(state) || !slices.Equal(one.Out(state), again.Out(state)) {
			t.Fatalf("state %d", state)
		}
		for _, c := range []byte(allBytes()) {
			next, ok := one.Next(state, c)
			if same, too := again.Next(state, c); next != same || ok != too {
				t.Fatalf("state %d, byte %q: %d, %v and %d, %v", state, c, next, ok, same, too)
			}
		}
	}
	if other.Has("tap") || !other.Has("other") || one.Has("other") || other.States() != 6 {
		t.Error("automata have something in common")
	}
}

// R3: words that are handed in are not changed, spare room neither, nor kept.
func TestNothingChangedNorKept(t *testing.T) {
	own := []string{"tops", "tap", "", "tops", "top", "taps", "tap"}
	spare := append(make([]string, 0, 100), own...)
	a := builds(t, spare)
	if !slices.Equal(spare, own) || slices.ContainsFunc(spare[:cap(spare)][len(own):], func(s string) bool { return s != "" }) {
		t.Fatalf("the words have changed: %q", spare[:cap(spare)])
	}
	isBig(t, append(spare[:len(own)-1], strings.Repeat("a", longest+1)))
	for i := range spare {
		spare[i] = "x"
	}
	for _, w := range own {
		if !a.Has(w) {
			t.Errorf("has no %q any more", w)
		}
	}
	if a.Has("x") {
		t.Error("has a word that came later")
	}
}

// R3: bytes that are answered are new memory, spare room too.
func TestOutIsNew(t *testing.T) {
	a := builds(t, []string{"ax", "bx", "cx", "dx", "ex", "cy"})
	for range 3 {
		one, other := a.Out(a.Start()), a.Out(a.Start())
		one = one[:cap(one)]
		for i := range one {
			one[i] = 'z'
		}
		if string(other) != "abcde" || string(a.Out(a.Start())) != "abcde" {
			t.Fatalf("Out has changed: %q, %q", other, a.Out(a.Start()))
		}
		if !a.Has("ax") || a.Has("zx") {
			t.Fatal("the automaton has changed")
		}
	}
}
