package seg_test

import (
	"math"
	"slices"
	"strconv"
	"strings"
	"testing"

	"abecedary/api"
	"abecedary/class"
	"abecedary/runes"
	"abecedary/seg"
)

const greatest = 0x10ffff

// table is an ordinary one: letters, digits and joiners of one byte and of more; the code that stands for none elsewhere, and the last one, are letters too.
func table() []api.Range {
	return []api.Range{
		{From: '\'', To: '\'', Class: api.Joiner},
		{From: '-', To: '-', Class: api.Joiner},
		{From: '0', To: '9', Class: api.Digit},
		{From: 'A', To: 'Z', Class: api.Letter},
		{From: 'a', To: 'z', Class: api.Letter},
		{From: 0xe0, To: 0xf6, Class: api.Letter},
		{From: 0x661, To: 0x669, Class: api.Digit},
		{From: 0x2019, To: 0x2019, Class: api.Joiner},
		{From: 0xfffd, To: 0xfffd, Class: api.Letter},
		{From: greatest, To: greatest, Class: api.Letter},
	}
}

// only is a table in which all code points are of one class.
func only(kind int) []api.Range {
	return []api.Range{{From: 0, To: greatest, Class: kind}}
}

// refused is tables to which class's Check says no, though each has the letters a to z.
func refused() map[string][]api.Range {
	many := []api.Range{{From: 'a', To: 'z', Class: api.Letter}}
	for k := range api.MaxRanges {
		many = append(many, api.Range{From: 0x1000 + 2*k, To: 0x1000 + 2*k, Class: api.Letter})
	}
	return map[string][]api.Range{
		"too many":        many,
		"out of order":    {{From: 'a', To: 'z', Class: api.Letter}, {From: '0', To: '9', Class: api.Digit}},
		"over each other": {{From: 'a', To: 'z', Class: api.Letter}, {From: 'z', To: 0x100, Class: api.Letter}},
		"below 0":         {{From: -256, To: 'z', Class: api.Letter}},
		"above":           {{From: 'a', To: greatest + 1, Class: api.Letter}},
		"no such class":   {{From: 'a', To: 'z', Class: api.Letter}, {From: 0x100, To: 0x100, Class: 4}},
		"the least":       {{From: math.MinInt, To: math.MaxInt, Class: api.Letter}},
	}
}

// solid tells of each unit whether it is solid, by the words of the promise.
func solid(l []api.Range, units []api.Unit) []bool {
	full := func(k int) bool {
		if k < 0 || k >= len(units) {
			return false
		}
		c := class.Of(l, units[k].Code)
		return c == api.Letter || c == api.Digit
	}
	var out []bool
	for k, u := range units {
		joins := class.Of(l, u.Code) == api.Joiner && full(k-1) && full(k+1)
		out = append(out, full(k) || joins)
	}
	return out
}

// tokens is what All is to say: from each unit at which a run may begin on, as far as it goes.
func tokens(l []api.Range, s string) []api.Token {
	units := runes.All(s)
	is := solid(l, units)
	var out []api.Token
	for k := range units {
		if !is[k] || k > 0 && is[k-1] {
			continue
		}
		t := api.Token{From: units[k].At, Word: true}
		for j := k; j < len(units) && is[j]; j++ {
			t.To = units[j].At + units[j].Len
			if class.Of(l, units[j].Code) == api.Digit {
				t.Word = false
			}
		}
		out = append(out, t)
	}
	return out
}

// texts is all texts of up to five parts: letters, digits, joiners of one byte and of more, a blank, bytes that are a letter together alone.
func texts(yield func(string) bool) {
	parts := []string{"a", "\u00e9", "5", "\u0661", "'", "\u2019", " ", "\xc3", "\xa9"}
	ahead := []string{""}
	for range 5 {
		var longer []string
		for _, s := range ahead {
			if !yield(s) {
				return
			}
			for _, p := range parts {
				longer = append(longer, s+p)
			}
		}
		ahead = longer
	}
	for _, s := range ahead {
		if !yield(s) {
			return
		}
	}
}

// word and number are a token's two kinds, told by its text.
type word string
type number string

// P3.1: what the tokens are, and which of them are words.
func TestTokens(t *testing.T) {
	for s, want := range map[string][]any{
		"": nil, " ": nil, "'": nil, "''": nil, " ' ": nil, "\xff": nil, "\xc3": nil, "\xa9\xc3": nil, "\t\n.,;": nil, "\u6f22": nil,
		"it's 5":    {word("it's"), number("5")},
		"a":         {word("a")},
		"5":         {number("5")},
		"word":      {word("word")},
		"two words": {word("two"), word("words")},
		" a  b ":    {word("a"), word("b")},
		// digits
		"a5": {number("a5")}, "5a": {number("5a")}, "abc5def": {number("abc5def")}, "55": {number("55")}, "a5 b": {number("a5"), word("b")}, "b a5": {word("b"), number("a5")}, "\u0661": {number("\u0661")}, "a\u0661": {number("a\u0661")},
		// joiners: between, at an end, two of them, next to a blank or to a byte
		"a'b": {word("a'b")}, "a'5": {number("a'5")}, "5'a": {number("5'a")}, "5-5": {number("5-5")}, "a'b-c'd": {word("a'b-c'd")}, "a\u2019b": {word("a\u2019b")}, "\u00e9'\u00e9": {word("\u00e9'\u00e9")},
		"'a": {word("a")}, "a'": {word("a")}, "'a'": {word("a")}, "'5'": {number("5")}, "\u2019a\u2019": {word("a")},
		"a''b": {word("a"), word("b")}, "a'-b": {word("a"), word("b")}, "a'''b": {word("a"), word("b")}, "a''5": {word("a"), number("5")}, "a'b''c'd": {word("a'b"), word("c'd")},
		"a' b": {word("a"), word("b")}, "a 'b": {word("a"), word("b")}, "a ' b": {word("a"), word("b")}, "a'\xff": {word("a")}, "\xff'a": {word("a")}, "a'\xffb": {word("a"), word("b")},
		// bytes that are none, and the same ones side by side
		"a\xffb": {word("a"), word("b")}, "a\xc3b": {word("a"), word("b")}, "a\xa9b": {word("a"), word("b")}, "a\xc3\xa9b": {word("a\u00e9b")}, "\xc3\xa9": {word("\u00e9")}, "\xc3\xc3\xa9\xa9": {word("\u00e9")},
		// codes at the edges
		"\ufffd": {word("\ufffd")}, "a\ufffd\xef\xbf": {word("a\ufffd")}, "\U0010ffff": {word("\U0010ffff")}, "a\u00f7b": {word("a"), word("b")}, "\x00a\x00": {word("a")},
	} {
		var got []any
		for _, k := range seg.All(table(), s) {
			if k.Word {
				got = append(got, word(s[k.From:k.To]))
			} else {
				got = append(got, number(s[k.From:k.To]))
			}
		}
		if !slices.Equal(got, want) {
			t.Errorf("the tokens of %q are %q, want %q", s, got, want)
		}
		if n := seg.Count(table(), s); n != len(want) {
			t.Errorf("Count(%q) = %d, want %d", s, n, len(want))
		}
	}
}

// P3.1: the document's example, and where tokens of units of each length begin and end.
func TestPlaces(t *testing.T) {
	for s, want := range map[string][]api.Token{
		"it's 5":                        {{From: 0, To: 4, Word: true}, {From: 5, To: 6}},
		"ab":                            {{From: 0, To: 2, Word: true}},
		" ab":                           {{From: 1, To: 3, Word: true}},
		"'ab'":                          {{From: 1, To: 3, Word: true}},
		"\u00e9\u2019\u0661 \U0010ffff": {{From: 0, To: 7}, {From: 8, To: 12, Word: true}},
		"\u2019\u00e9\u2019":            {{From: 3, To: 5, Word: true}},
		"\xffa\xff\xff5":                {{From: 1, To: 2, Word: true}, {From: 4, To: 5}},
		"a a a":                         {{From: 0, To: 1, Word: true}, {From: 2, To: 3, Word: true}, {From: 4, To: 5, Word: true}},
	} {
		if got := seg.All(table(), s); !slices.Equal(got, want) {
			t.Errorf("All(%q) = %v, want %v", s, got, want)
		}
	}
}

// P3.1, P3.2: all small texts, against the words of the promise.
func TestSmallTexts(t *testing.T) {
	l := table()
	for s := range texts {
		against(t, l, s)
	}
}

// against holds a text's tokens against the words of the promise.
func against(t *testing.T, l []api.Range, s string) {
	t.Helper()
	want := tokens(l, s)
	got := seg.All(l, s)
	if !slices.Equal(got, want) {
		t.Fatalf("All(%.40q) = %.400s, want %.400s", s, list(got), list(want))
	}
	if n := seg.Count(l, s); n != len(want) {
		t.Fatalf("Count(%.40q) = %d, want %d", s, n, len(want))
	}
	apart(t, s, got)
}

// apart holds tokens against P3.2: each has bytes of the text, and behind it lies one more at least ahead of the next one.
func apart(t *testing.T, s string, l []api.Token) {
	t.Helper()
	least := 0
	for _, k := range l {
		if k.From < least || k.To <= k.From || k.To > len(s) {
			t.Fatalf("the tokens of %.40q touch, or leave it: %.400s", s, list(l))
		}
		least = k.To + 1
	}
}

// list is tokens for a message.
func list(l []api.Token) string {
	var b strings.Builder
	for _, k := range l {
		b.WriteString(strconv.Itoa(k.From) + "-" + strconv.Itoa(k.To) + " " + strconv.FormatBool(k.Word) + ", ")
	}
	return b.String()
}

// P3.1: of other tables, those of one class alone among them.
func TestOtherTables(t *testing.T) {
	for _, l := range [][]api.Range{
		nil, {}, only(api.Letter), only(api.Digit), only(api.Joiner),
		{{From: ' ', To: ' ', Class: api.Letter}, {From: 'a', To: 'a', Class: api.Joiner}},
		{{From: 0, To: 0, Class: api.Letter}, {From: '\'', To: '\'', Class: api.Digit}},
		{{From: 0xd800, To: 0xdfff, Class: api.Letter}},
		{{From: '\'', To: '\'', Class: api.Joiner}, {From: '5', To: '5', Class: api.Digit}},
		{{From: 'a', To: 'a', Class: api.Letter}, {From: 0xc3, To: 0xc3, Class: api.Letter}},
	} {
		for s := range texts {
			if len(s) > 6 {
				continue
			}
			against(t, l, s)
		}
		for _, s := range []string{"\x00", "\x00'\x00", "\xed\xa0\x80", "\ufffd\xfd", "\xc0\x80", "\xf4\x90\x80\x80", "\U0010ffff\xf4\x8f\xbf"} {
			against(t, l, s)
		}
	}
}

// P3.1: where all code points are of one class, bytes that are none still part the tokens.
func TestOneClass(t *testing.T) {
	s := "a \x00\xff'\u6f22"
	for kind, want := range map[int][]api.Token{
		api.Letter: {{From: 0, To: 3, Word: true}, {From: 4, To: 8, Word: true}},
		api.Digit:  {{From: 0, To: 3}, {From: 4, To: 8}},
		api.Joiner: nil,
	} {
		if got := seg.All(only(kind), s); !slices.Equal(got, want) {
			t.Errorf("all of class %d: All = %v, want %v", kind, got, want)
		}
		if n := seg.Count(only(kind), s); n != len(want) {
			t.Errorf("all of class %d: Count = %d, want %d", kind, n, len(want))
		}
	}
}

// P3.1: of a table without ranges, and of one that class refuses, each code is Other.
func TestNoTokens(t *testing.T) {
	tables := refused()
	tables["nil"], tables["empty"] = nil, []api.Range{}
	for name, l := range tables {
		for _, s := range []string{"", "a", "it's 5", "abc def", "\xff\xfe"} {
			if got, n := seg.All(l, s), seg.Count(l, s); len(got) != 0 || n != 0 {
				t.Errorf("%s: All(%q) = %v, Count %d, want none", name, s, got, n)
			}
		}
	}
}

// P3.1, P3.2: long texts: as long as one may be in a buffer, and longer.
func TestLongTexts(t *testing.T) {
	l := table()
	n := api.MaxText
	for s, want := range map[string][]api.Token{
		strings.Repeat("a", n):                {{From: 0, To: n, Word: true}},
		strings.Repeat("a", n-1) + "5":        {{From: 0, To: n}},
		"5" + strings.Repeat("a", n-1):        {{From: 0, To: n}},
		strings.Repeat("a'", n/2):             {{From: 0, To: n - 1, Word: true}},
		strings.Repeat("'", n-1) + "a":        {{From: n - 1, To: n, Word: true}},
		strings.Repeat("\u2019\u00e9", n/2):   {{From: 3, To: n / 2 * 5, Word: true}},
		strings.Repeat(" ", 2*n):              nil,
		strings.Repeat("\xff", 2*n):           nil,
		"a" + strings.Repeat(" ", n) + "it's": {{From: 0, To: 1, Word: true}, {From: n + 1, To: n + 5, Word: true}},
	} {
		if got := seg.All(l, s); !slices.Equal(got, want) {
			t.Errorf("All of a long text that begins %.10q = %.400s, want %s", s, list(got), list(want))
		}
		if got := seg.Count(l, s); got != len(want) {
			t.Errorf("Count of a long text that begins %.10q = %d, want %d", s, got, len(want))
		}
	}
	for _, part := range []string{"a ", "a''", "it's 5, isn't it? ", "\u00e9\xc3 ", "a'b5-\xffc\u2019d''", "\u0661'\xa9'\u0661"} {
		against(t, l, strings.Repeat(part, n/len(part)))
	}
}

// R3, R4: the table is neither changed nor kept.
func TestTableIsNeitherChangedNorKept(t *testing.T) {
	room := append(table(), api.Range{From: 7, To: 3, Class: 9})
	l := room[:len(room)-1]
	s := "it's 5"
	want := []api.Token{{From: 0, To: 4, Word: true}, {From: 5, To: 6}}
	if got := seg.All(l, s); !slices.Equal(got, want) || seg.Count(l, s) != 2 {
		t.Errorf("All(%q) = %v", s, got)
	}
	if !slices.Equal(room, append(table(), api.Range{From: 7, To: 3, Class: 9})) {
		t.Error("a call has changed its table")
	}
	l[2].Class = api.Letter
	want[1].Word = true
	if got := seg.All(l, s); !slices.Equal(got, want) {
		t.Errorf("All answers from the table as it was: %v", got)
	}
	l[2].Class = api.Other
	if got, n := seg.All(l, s), seg.Count(l, s); len(got) != 0 || n != 0 {
		t.Errorf("a table that may not be any more is still taken: %v, %d", got, n)
	}
}

// R3, R4: what was answered once is not what is answered next; spare room is none that is shared.
func TestAnswersAreNewMemory(t *testing.T) {
	s := "a b5 c"
	want := []api.Token{{From: 0, To: 1, Word: true}, {From: 2, To: 4}, {From: 5, To: 6, Word: true}}
	one, two := seg.All(table(), s), seg.All(table(), s)
	one[0].From = 9
	_ = append(one[:1], api.Token{From: 7, To: 8})
	_ = append(one, api.Token{From: 7, To: 8})
	if !slices.Equal(two, want) || !slices.Equal(seg.All(table(), s), want) {
		t.Error("two answers of All share memory")
	}
}
