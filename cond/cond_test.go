package cond_test

import (
	"math"
	"slices"
	"strings"
	"testing"

	"abecedary/api"
	"abecedary/cond"
)

const greatest = 0x10ffff

func anyCode() api.Item { return api.Item{Any: true} }

func set(codes ...int) api.Item { return api.Item{Set: codes} }

func not(codes ...int) api.Item { return api.Item{Not: true, Set: codes} }

// alike tells whether two items are the same; nil and an empty list are one.
func alike(a, b api.Item) bool {
	return a.Any == b.Any && a.Not == b.Not && slices.Equal(a.Set, b.Set)
}

func same(a, b []api.Item) bool { return slices.EqualFunc(a, b, alike) }

// codesOf is the code points of right UTF-8.
func codesOf(s string) []int {
	var l []int
	for _, r := range s {
		l = append(l, int(r))
	}
	return l
}

// one is the item that a text (right UTF-8) says by the words of P9.1, each kind asked by itself.
func one(s string) (api.Item, bool) {
	codes := codesOf(s)
	if s == "." {
		return anyCode(), true
	}
	if len(codes) == 1 && s != "[" && s != "]" {
		return set(codes...), true
	}
	inner, opened := strings.CutPrefix(s, "[")
	inner, closed := strings.CutSuffix(inner, "]")
	if !opened || !closed || strings.Contains(inner, "]") {
		return api.Item{}, false
	}
	if rest, is := strings.CutPrefix(inner, "^"); is {
		return not(codesOf(rest)...), rest != ""
	}
	return set(codesOf(inner)...), inner != ""
}

// readings is each way in which a text (right UTF-8) is items side by side: it is cut at every place.
func readings(s string) [][]api.Item {
	if s == "" {
		return [][]api.Item{nil}
	}
	var l [][]api.Item
	for at := range s + "." {
		item, ok := one(s[:at])
		if at == 0 || !ok {
			continue
		}
		for _, rest := range readings(s[at:]) {
			l = append(l, append([]api.Item{item}, rest...))
		}
	}
	return l
}

// textOf is the text of an item by the words of P9.1, if there is one: the form that it is to have, held against what one reads.
func textOf(item api.Item) (string, bool) {
	inner := ""
	for _, code := range item.Set {
		if code < 0 || code > greatest || code >= 0xd800 && code <= 0xdfff {
			return "", false
		}
		inner += string(rune(code))
	}
	forms := []string{"[" + inner + "]", "[^" + inner + "]"}
	if len(item.Set) == 1 {
		forms = append([]string{inner}, forms...)
	}
	for _, form := range append(forms, ".") {
		if got, ok := one(form); ok && alike(got, item) {
			return form, true
		}
	}
	return "", false
}

// lists is all lists of up to n of a pool, the list of none first.
func lists[T any](n int, pool []T, visit func([]T)) {
	var l []T
	var more func()
	more = func() {
		visit(l)
		if len(l) == n {
			return
		}
		for _, x := range pool {
			l = append(l, x)
			more()
			l = l[:len(l)-1]
		}
	}
	more()
}

// smallTexts is all texts of up to n of the signs of conditions and two code points beside them.
func smallTexts(n int, visit func(string)) {
	lists(n, []string{".", "[", "]", "^", "a", "é"}, func(l []string) { visit(strings.Join(l, "")) })
}

// is holds Parse of a text against items; none: it is refused.
func is(t *testing.T, s string, want ...api.Item) {
	t.Helper()
	got, ok := cond.Parse(s)
	if len(want) == 0 && got != nil {
		t.Fatalf("Parse(%q): %v beside a false", s, got)
	}
	if ok != (len(want) > 0) || !same(got, want) {
		t.Fatalf("Parse(%q): %v %t, want %v", s, got, ok, want)
	}
}

// The document's example: two items.
func TestExample(t *testing.T) {
	is(t, "[^ab]c", not('a', 'b'), set('c'))
	if got := cond.Text([]api.Item{not('a', 'b'), set('c')}); got != "[^ab]c" {
		t.Errorf("Text: %q", got)
	}
}

// P9.1, Parse: each kind of item, and where the signs stand for themselves.
func TestParseTable(t *testing.T) {
	is(t, ".", anyCode())
	is(t, "a", set('a'))
	is(t, "y", set('y'))
	is(t, "[a]", set('a'))
	is(t, "[ab]", set('a', 'b'))
	is(t, "[^a]", not('a'))
	is(t, "[^aeiou]y", not('a', 'e', 'i', 'o', 'u'), set('y'))
	is(t, "a.b", set('a'), anyCode(), set('b'))
	is(t, "..", anyCode(), anyCode())
	// As they stand: neither sorted nor each once, and no range is made of a dash.
	is(t, "[baab]", set('b', 'a', 'a', 'b'))
	is(t, "[^zaz]", not('z', 'a', 'z'))
	is(t, "[a-z]", set('a', '-', 'z'))
	is(t, `\.`, set('\\'), anyCode())
	is(t, "*+?", set('*'), set('+'), set('?'))
	// Within brackets only the first ^, and ], are signs.
	is(t, "[.]", set('.'))
	is(t, "[[]", set('['))
	is(t, "[[^]", set('[', '^'))
	is(t, "[a^]", set('a', '^'))
	is(t, "[a[b]", set('a', '[', 'b'))
	is(t, "[^.]", not('.'))
	is(t, "[^[]", not('['))
	is(t, "[^^]", not('^'))
	is(t, "[^^^]", not('^', '^'))
	is(t, "[^a^]", not('a', '^'))
	// Outside of them ^ is none.
	is(t, "^", set('^'))
	is(t, "^a^", set('^'), set('a'), set('^'))
	is(t, "^[^b]", set('^'), not('b'))
	// Code points of each length, and such as a text has seldom.
	is(t, "é€😀", set(0xe9), set(0x20ac), set(0x1f600))
	is(t, "[é€😀]", set(0xe9, 0x20ac, 0x1f600))
	is(t, "[^é€😀]", not(0xe9, 0x20ac, 0x1f600))
	is(t, "\x00[\x00\n ]\n ", set(0), set(0, '\n', ' '), set('\n'), set(' '))
	is(t, "\ufffd[^\ufffd]\U0010ffff", set(0xfffd), not(0xfffd), set(greatest))
}

// P9.1, Parse: what is no condition.
func TestParseNone(t *testing.T) {
	for _, s := range []string{
		"", "[", "]", "[]", "[^", "[^]", "[]]", "[^]]", "[]a]", "[^]a]", "[a", "[^a", "a]", "]a", "a[", "[a]]", "[[]]", "[a][", "[a]b]", ".]", ".[", "[.", "^]", "a[]b", "a[^]b", "[a][]", "[^a][^]", "^[^]b]",
		// Bytes that are no code points: alone, ahead, behind, in each kind of item.
		"\xff", "a\xff", "\xffa", ".\xff", "[\xff]", "[a\xff]", "[^\xff]", "[^a\xff]", "[\xc3]", "[\xc3\xa9\xc3]", "\xc3", "\xc3[a]", "[a]\xc3", "\xe2\x82", "\xf0\x9f\x98", "\xc0\x80", "\xed\xa0\x80", "[\xed\xbf\xbf]", "\xf4\x90\x80\x80",
	} {
		is(t, s)
	}
}

// P9.1, Parse: all small texts, against all ways to cut them; there is never more than one.
func TestParseSmallTexts(t *testing.T) {
	smallTexts(6, func(s string) {
		ways := readings(s)
		if len(ways) > 1 {
			t.Fatalf("%q can be read as %v", s, ways)
		}
		if s == "" || len(ways) == 0 {
			is(t, s)
			return
		}
		is(t, s, ways[0]...)
	})
}

// P9.1, Parse: a byte that is none, at each place of small texts.
func TestParseWrongBytes(t *testing.T) {
	smallTexts(4, func(s string) {
		for at := range len(s) + 1 {
			for _, wrong := range []string{"\xff", "\x80", "\xc3"} {
				is(t, s[:at]+wrong+s[at:])
			}
		}
	})
}

// P9.1: at least one item, at most as many as there may be, of each kind; what goes on behind them is no item.
func TestHowMany(t *testing.T) {
	kinds := map[string]api.Item{".": anyCode(), "a": set('a'), "😀": set(0x1f600), "[ab]": set('a', 'b'), "[^a]": not('a'), "[.]": set('.')}
	for text, item := range kinds {
		for n := range 3 * api.MaxCond {
			s, l := strings.Repeat(text, n), slices.Repeat([]api.Item{item}, n)
			want := s
			if n > api.MaxCond {
				l, want = nil, ""
			}
			is(t, s, l...)
			if got := cond.Text(slices.Repeat([]api.Item{item}, n)); got != want {
				t.Fatalf("Text of %d of %q: %q", n, text, got)
			}
		}
		for _, wrong := range []string{"]", "[", "[]", "[^]", "[a", "\xff"} {
			is(t, strings.Repeat(text, api.MaxCond)+wrong)
			is(t, strings.Repeat(text, api.MaxCond-1)+wrong)
		}
	}
}

// P9.1, P9.3: each code point by itself and in brackets, there and back; what is none has no text.
func TestEveryCode(t *testing.T) {
	for code := -2; code <= greatest+2; code++ {
		valid := code >= 0 && code <= greatest && (code < 0xd800 || code > 0xdfff)
		for _, item := range []api.Item{set(code), not('a', code)} {
			want, ok := "", false
			if valid {
				want, ok = textOf(item)
			}
			if got := cond.Text([]api.Item{item}); got != want {
				t.Fatalf("Text(%v): %q, want %q", item, got, want)
			}
			if ok {
				is(t, want, item)
			}
		}
	}
}

// P9.1: brackets may hold any number of code points.
func TestLongSets(t *testing.T) {
	long := strings.Repeat("aé[^.", 20000)
	for _, c := range []struct {
		s    string
		item api.Item
	}{
		{"[" + long + "]", set(codesOf(long)...)},
		{"[^" + long + "]", not(codesOf(long)...)},
		{"[^^" + long + "]", not(codesOf("^" + long)...)},
	} {
		is(t, c.s, c.item)
		is(t, c.s+c.s, c.item, c.item)
		is(t, c.s[:len(c.s)-1])
		is(t, c.s+"]")
		if got := cond.Text([]api.Item{c.item, c.item}); got != c.s+c.s {
			t.Errorf("Text of long sets has %d bytes, not %d", len(got), 2*len(c.s))
		}
	}
}

// pool is items that a text says and such as none says.
func pool() []api.Item {
	return []api.Item{
		anyCode(), set('a'), set('a', 'b'), set(0xe9, 'a'), not('a'), not('^'), not('a', '^'), set('^'), set('.'), set('['), set('a', '^'), not('.', '['), set('a', 'a'),
		set(']'), not(']'), set('a', ']'), set(']', 'a'), set('^', 'a'), set('^', '^'), set(), not(), {Any: true, Not: true}, {Any: true, Set: []int{'a'}}, {Any: true, Not: true, Set: []int{'a'}}, set(-1), set('a', -98), set(0xd800), set(1<<32 + 'a'),
	}
}

// P9.1, Text: small lists of items, against the text of each one; where one has none, all have none.
func TestTextOfSmallLists(t *testing.T) {
	lists(3, pool(), func(l []api.Item) {
		want, ok := "", len(l) > 0
		for _, item := range l {
			s, is := textOf(item)
			want, ok = want+s, ok && is
		}
		if !ok {
			want = ""
		}
		if got := cond.Text(l); got != want {
			t.Fatalf("Text(%v): %q, want %q", l, got, want)
		}
	})
}

// P9.1, Text: told by hand: the form, and what has none.
func TestTextTable(t *testing.T) {
	for _, c := range []struct {
		want string
		l    []api.Item
	}{
		{".", []api.Item{anyCode()}},
		{".", []api.Item{{Any: true, Set: []int{}}}},
		{"a", []api.Item{set('a')}},
		{"^", []api.Item{set('^')}},
		{"-", []api.Item{set('-')}},
		{"[.]", []api.Item{set('.')}},
		{"[[]", []api.Item{set('[')}},
		{"[^.]", []api.Item{not('.')}},
		{"[^a]", []api.Item{not('a')}},
		{"[^^]", []api.Item{not('^')}},
		{"[a^]", []api.Item{set('a', '^')}},
		{"[ba]", []api.Item{set('b', 'a')}},
		{"[aa]", []api.Item{set('a', 'a')}},
		{"é[^é].[.]", []api.Item{set(0xe9), not(0xe9), anyCode(), set('.')}},
		{"", nil},
		{"", []api.Item{}},
		{"", []api.Item{{}}},
		{"", []api.Item{set(']')}},
		{"", []api.Item{set('a', ']', 'b')}},
		{"", []api.Item{not(']')}},
		{"", []api.Item{set('^', 'a')}},
		{"", []api.Item{not()}},
		{"", []api.Item{{Any: true, Not: true}}},
		{"", []api.Item{{Any: true, Set: []int{'.'}}}},
		{"", []api.Item{set(math.MinInt)}},
		{"", []api.Item{set('a', math.MaxInt)}},
		{"", []api.Item{set(greatest + 1)}},
		{"", []api.Item{set('a'), set(-1)}},
		{"", []api.Item{set(-1), set('a')}},
		// What is written of some items that have no text looks like that of others.
		{"", []api.Item{set('a', ']', '[', 'b')}},
		{"", []api.Item{set('a', ']', '.', '[', 'b')}},
		{"", []api.Item{set('a'), set(0xdc00, 'b')}},
		{"", slices.Repeat([]api.Item{set('a')}, 100000)},
	} {
		if got := cond.Text(c.l); got != c.want {
			t.Errorf("Text(%v): %q, want %q", c.l, got, c.want)
		}
	}
}

// P9.3: each small text that is read has items whose text is read as they are; that text is no longer, and the same for all texts of these items.
func TestTextIsReadAsThat(t *testing.T) {
	smallTexts(6, func(s string) {
		l, ok := cond.Parse(s)
		if !ok {
			return
		}
		text := cond.Text(l)
		is(t, text, l...)
		if len(text) > len(s) {
			t.Fatalf("%q is written as %q", s, text)
		}
		if again := cond.Text(l); again != text {
			t.Fatalf("Text(%v): %q, then %q", l, text, again)
		}
	})
}

// has tells by the words of P9.2 whether an item has a code.
func has(item api.Item, code int) bool {
	there := 0
	for _, c := range item.Set {
		if c == code {
			there++
		}
	}
	return item.Any || !item.Not && there > 0 || item.Not && there == 0
}

// at tells whether each item has the code at its place, from one on.
func at(l []api.Item, codes []int, from int) bool {
	for i, item := range l {
		if from < 0 || from+i >= len(codes) || !has(item, codes[from+i]) {
			return false
		}
	}
	return true
}

// fits holds Starts and Ends against the words of P9.2.
func fits(t *testing.T, l []api.Item, codes []int) {
	t.Helper()
	if got, want := cond.Starts(l, codes), at(l, codes, 0); got != want {
		t.Fatalf("Starts(%v, %v): %t", l, codes, got)
	}
	if got, want := cond.Ends(l, codes), at(l, codes, len(codes)-len(l)); got != want {
		t.Fatalf("Ends(%v, %v): %t", l, codes, got)
	}
}

// P9.2: told by hand.
func TestFitsTable(t *testing.T) {
	for _, c := range []struct {
		cond, word   string
		starts, ends bool
	}{
		{".", "", false, false},
		{".", "x", true, true},
		{"y", "city", false, true},
		{"c", "city", true, false},
		{"[^aeiou]y", "city", false, true},
		{"[^aeiou]y", "day", false, false},
		{"[^aeiou]y", "y", false, false},
		{"[^aeiou]i", "city", true, false},
		{"c.t", "city", true, false},
		{"i.y", "city", false, true},
		{"city", "city", true, true},
		{"city", "cit", false, false},
		{"cit.", "cit", false, false},
		{"ytic", "city", false, false},
		{"[xc][i][^i].", "city", true, true},
		{"é", "éa", true, false},
		{"é", "aé", false, true},
		{"[^é].", "éa", false, false},
		{"[.]", "a", false, false},
		{"[.]", ".", true, true},
	} {
		l, ok := cond.Parse(c.cond)
		if !ok {
			t.Fatalf("Parse(%q): false", c.cond)
		}
		codes := codesOf(c.word)
		if starts, ends := cond.Starts(l, codes), cond.Ends(l, codes); starts != c.starts || ends != c.ends {
			t.Errorf("%q of %q: Starts %t, Ends %t", c.cond, c.word, starts, ends)
		}
	}
}

// P9.2: small lists of items, also of such as no text says, with all small lists of codes.
func TestFitsSmallLists(t *testing.T) {
	items := []api.Item{anyCode(), set('a'), set('b', 'a'), not('a'), not('a', -7), set(-7), set(), not(), {Any: true, Not: true, Set: []int{'a'}}, {Any: true, Set: []int{'b'}}}
	lists(3, items, func(l []api.Item) {
		lists(4, []int{'a', 'b', -7}, func(codes []int) { fits(t, l, codes) })
	})
}

// P9.2: of no items, yes; of nil as of an empty list.
func TestFitsNoItems(t *testing.T) {
	for _, l := range [][]api.Item{nil, {}} {
		for _, codes := range [][]int{nil, {}, {'a'}, {-1, math.MaxInt}} {
			if !cond.Starts(l, codes) || !cond.Ends(l, codes) {
				t.Errorf("of no items, %v: no", codes)
			}
		}
	}
	for _, item := range pool() {
		if cond.Starts([]api.Item{item}, nil) || cond.Ends([]api.Item{item}, nil) {
			t.Errorf("%v of no codes: yes", item)
		}
	}
}

// P9.2, R5: numbers of any kind, as items and as codes.
func TestFitsAnyNumbers(t *testing.T) {
	numbers := []int{math.MinInt, math.MinInt32, -256, -1, 0, 1, 'a', 0xd800, greatest, greatest + 1, 1 << 32, 1<<32 + 'a', math.MaxInt}
	for _, n := range numbers {
		for _, code := range numbers {
			for _, item := range []api.Item{set(n), not(n), set('x', n), not(n, 'x')} {
				fits(t, []api.Item{item}, []int{code})
				fits(t, []api.Item{item}, []int{code, 'y'})
				fits(t, []api.Item{item}, []int{'y', code})
			}
		}
	}
}

// P9.2: each item is asked, also behind as many as a condition may have, and of the code at its own place alone.
func TestFitsManyItems(t *testing.T) {
	for _, n := range []int{1, 2, api.MaxCond, api.MaxCond + 1, 100} {
		var l []api.Item
		var codes []int
		for i := range n {
			l, codes = append(l, set(i)), append(codes, i)
		}
		fits(t, l, codes)
		fits(t, l, codes[1:])
		fits(t, l, codes[:n-1])
		before, behind := append([]int{-1}, codes...), append(slices.Clone(codes), -1)
		if !cond.Starts(l, behind) || cond.Ends(l, behind) || cond.Starts(l, before) || !cond.Ends(l, before) {
			t.Errorf("%d items, a code more", n)
		}
		for i := range n {
			other := slices.Clone(codes)
			other[i] = n
			if cond.Starts(l, other) || cond.Ends(l, other) {
				t.Errorf("%d items, another code at %d", n, i)
			}
		}
	}
}

// R3: what is handed in is not changed, its spare room neither.
func TestNothingChanged(t *testing.T) {
	lists(2, pool(), func(l []api.Item) {
		var in []api.Item
		for _, item := range l {
			item.Set = append(make([]int, 0, len(item.Set)+2), item.Set...)
			in = append(in, item)
		}
		codes := append(make([]int, 0, 5), 'a', 'b', ']')
		cond.Text(in)
		cond.Starts(in, codes)
		cond.Ends(in, codes)
		if !same(in, l) || !slices.Equal(codes[:5], []int{'a', 'b', ']', 0, 0}) {
			t.Fatalf("%v is %v now", l, in)
		}
		for i := range in {
			spare := in[i].Set[len(in[i].Set) : len(in[i].Set)+2]
			if !slices.Equal(spare, []int{0, 0}) {
				t.Fatalf("the spare room of %v has changed", in[i])
			}
		}
	})
}

// spoil makes other numbers of all that a set's memory has room for.
func spoil(set []int) {
	for i := range set[:cap(set)] {
		set[:cap(set)][i] = -7
	}
}

// R3: what is answered is new memory; no two sets of one answer share any, spare room too.
func TestNothingShared(t *testing.T) {
	for _, s := range []string{"abc", "[ab][cd]e", "[^abc][^abc][abc]", "a.[é][^€😀]..z", "[aaaaa][bbbbb]cdef[^g]h"} {
		want := readings(s)[0]
		for i := range want {
			l, _ := cond.Parse(s)
			other, _ := cond.Parse(s)
			spoil(l[i].Set)
			l[i] = api.Item{Any: true, Not: true}
			for k := range want {
				if k != i && !alike(l[k], want[k]) || !alike(other[k], want[k]) {
					t.Fatalf("%q: item %d has changed with item %d", s, k, i)
				}
			}
		}
		is(t, s, want...)
	}
}
