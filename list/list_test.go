package list_test

import (
	"math"
	"regexp"
	"slices"
	"strconv"
	"strings"
	"testing"
	"unicode/utf8"

	"abecedary/api"
	"abecedary/list"
)

const letters = "abcdefghijklmnopqrstuvwxyzABCDEFGHIJKLMNOPQRSTUVWXYZ"

// of is an entry: a word, and its flags as letters.
func of(word, flags string) api.Entry {
	x := api.Entry{Word: word}
	for _, flag := range []byte(flags) {
		x.Flags = append(x.Flags, int(flag))
	}
	return x
}

// words is entries without flags.
func words(l ...string) []api.Entry {
	var entries []api.Entry
	for _, word := range l {
		entries = append(entries, of(word, ""))
	}
	return entries
}

// same tells whether two lists are the same, field by field; nil and an empty list are one.
func same(a, b []api.Entry) bool {
	return slices.EqualFunc(a, b, func(a, b api.Entry) bool { return a.Word == b.Word && slices.Equal(a.Flags, b.Flags) })
}

// reading is what Parse answers.
type reading struct {
	l    []api.Entry
	line int
	e    api.Errno
}

// linesOf is a text's lines: what a byte 10 stands behind, and what stands behind the last one, if it has a byte.
func linesOf(s string) []string {
	l := strings.Split(s, "\n")
	if l[len(l)-1] == "" {
		l = l[:len(l)-1]
	}
	return l
}

var shape = regexp.MustCompile(`^([^\x00- /#]+)(/([A-Za-z]+))?$`)

// entryOf is the entry that a line says by the words of P12.1.
func entryOf(line string) (api.Entry, bool) {
	m := shape.FindStringSubmatch(line)
	if m == nil || !utf8.ValidString(line) {
		return api.Entry{}, false
	}
	for _, c := range letters {
		if strings.Count(m[3], string(c)) > 1 {
			return api.Entry{}, false
		}
	}
	return of(m[1], m[3]), true
}

// told is what Parse is to answer by the words of P12.1: each error by a look of its own at the lines.
func told(s string) reading {
	var l []api.Entry
	var none []int
	for i, line := range linesOf(s) {
		if x, ok := entryOf(line); ok {
			l = append(l, x)
		} else if len(line) > 0 && line[0] != '#' {
			none = append(none, i+1)
		}
	}
	if len(s) > 65536 || len(l) > 2000 {
		return reading{e: api.ErrBig}
	}
	if len(none) > 0 {
		return reading{line: none[0], e: api.ErrText}
	}
	return reading{l: l}
}

// textOf is the only text that could be a list's.
func textOf(l []api.Entry) string {
	var b strings.Builder
	for _, x := range l {
		b.WriteString(x.Word)
		for i, flag := range x.Flags {
			if i == 0 {
				b.WriteString("/")
			}
			b.WriteString(string(rune(flag)))
		}
		b.WriteString("\n")
	}
	return b.String()
}

// brief is the beginning of a text for a message.
func brief(s string) string {
	if len(s) > 200 {
		s = s[:200] + ".."
	}
	return strconv.Quote(s)
}

// is holds Parse against what it is to answer.
func is(t *testing.T, s string, want reading) {
	t.Helper()
	l, line, e := list.Parse(s)
	if e != want.e || line != want.line || !same(l, want.l) {
		t.Fatalf("Parse(%s): %d entries, line %d, error %d, want %d, line %d, error %d", brief(s), len(l), line, e, len(want.l), want.line, want.e)
	}
	if e != api.OK && l != nil {
		t.Fatalf("Parse(%s): a list beside an error", brief(s))
	}
}

// isList holds Parse of what is a list, Text of that, and P12.2.
func isList(t *testing.T, s string, want []api.Entry) {
	t.Helper()
	is(t, s, reading{l: want})
	text := list.Text(want)
	if text != textOf(want) {
		t.Fatalf("Text of what %s says: %s, want %s", brief(s), brief(text), brief(textOf(want)))
	}
	is(t, text, reading{l: want})
}

// isRefused holds Parse of what is no list.
func isRefused(t *testing.T, s string, line int, e api.Errno) {
	t.Helper()
	is(t, s, reading{line: line, e: e})
}

// isAsTold holds Parse against the words of P12.1, and Text of what it answers.
func isAsTold(t *testing.T, s string) {
	t.Helper()
	want := told(s)
	// Text ends each line: where the last one has no end, that byte may be one too many.
	if want.e != api.OK || len(textOf(want.l)) > api.MaxFile {
		is(t, s, want)
		return
	}
	isList(t, s, want.l)
}

// hasNoText holds Text of what no text is read as.
func hasNoText(t *testing.T, l []api.Entry) {
	t.Helper()
	if got := list.Text(l); got != "" {
		t.Fatalf("%d entries: Text %s", len(l), brief(got))
	}
}

// The document's example: one entry, one flag.
func TestExample(t *testing.T) {
	isList(t, "city/S", []api.Entry{{Word: "city", Flags: []int{'S'}}})
}

// P12.1: lists told by hand.
func TestLists(t *testing.T) {
	isList(t, "", nil)
	isList(t, "city", []api.Entry{{Word: "city"}})
	isList(t, "city/S\nlucky/UYs\nvery\n", []api.Entry{
		{Word: "city", Flags: []int{'S'}},
		{Word: "lucky", Flags: []int{'U', 'Y', 's'}},
		{Word: "very"},
	})
	isList(t, "# of all kinds\n\nna\u00efve/n\n#city/S\n\u4e00\nit's\nco-op/aA\n42\n", []api.Entry{of("na\u00efve", "n"), of("\u4e00", ""), of("it's", ""), of("co-op", "aA"), of("42", "")})
	// Entries stand in order, flags too; a word may be there again, with other flags, with the same ones, without.
	isList(t, "b/ba\na\nb/ab\nb/ba\nb\nb\nB", []api.Entry{of("b", "ba"), of("a", ""), of("b", "ab"), of("b", "ba"), of("b", ""), of("b", ""), of("B", "")})
}

// P12.1: which lines there are, and how they are counted.
func TestLines(t *testing.T) {
	one := []api.Entry{of("city", "S")}
	for _, s := range []string{
		"city/S", "city/S\n", "\ncity/S", "\n\n\ncity/S\n\n\n", "#\ncity/S\n#", "# day/S\ncity/S", "##\n#\xff\xc3\x00\n#\r\ncity/S", "#a b\ncity/S", "city/S\n# " + strings.Repeat("x", 1000), "#/\ncity/S\n#//", "#city/S\ncity/S",
	} {
		isList(t, s, one)
	}
	for _, s := range []string{"\n", "\n\n\n", "#", "#\n", "#\n\n#", "#\r", "#city", "#/S", strings.Repeat("\n", api.MaxFile), strings.Repeat("#", api.MaxFile), strings.Repeat("#\n", api.MaxFile/2)} {
		isList(t, s, nil)
	}
	for _, line := range []string{" ", "\t", "\r", "\x00", "\xff", "/", "//", "/S", "city/", "city /S", "two words", " city", "city ", "city\r", "city/S\r", "city/S ", "city/S #", "city#", " #", "\t#", "city/S/S", "city/SS", "city/1", "city/\u00e9", "c\xffty"} {
		for n := range 4 {
			ahead := strings.Repeat("\n", n)
			isRefused(t, ahead+line, n+1, api.ErrText)
			isRefused(t, ahead+line+"\n", n+1, api.ErrText)
			isRefused(t, ahead+"city/S\n#\n"+line+"\n\n ", n+3, api.ErrText)
		}
	}
	// Only the byte 10 ends a line: what else does elsewhere is a part of it.
	isList(t, "a\u0085b\nc\u2028d\u2029e\n#\rx\vx\fx", words("a\u0085b", "c\u2028d\u2029e"))
	isRefused(t, "city/S\r\n\r\n", 1, api.ErrText)
	isRefused(t, "city\n/S", 2, api.ErrText)
	isRefused(t, "city/\nS", 1, api.ErrText)
	isList(t, "ci\nty/S", []api.Entry{of("ci", ""), of("ty", "S")})
}

// P12.1: an entry's line told by hand.
func TestEntryTable(t *testing.T) {
	for line, want := range map[string]api.Entry{
		"a":                     {Word: "a"},
		"A":                     {Word: "A"},
		"a/a":                   {Word: "a", Flags: []int{97}},
		"a/zZ":                  {Word: "a", Flags: []int{122, 90}},
		"!":                     {Word: "!"},
		"0":                     {Word: "0"},
		"0/A":                   {Word: "0", Flags: []int{65}},
		".":                     {Word: "."},
		"[^a]":                  {Word: "[^a]"},
		"\\/S":                  {Word: "\\", Flags: []int{'S'}},
		"a\\/S":                 {Word: "a\\", Flags: []int{'S'}},
		"CASE":                  {Word: "CASE"},
		"\x7f":                  {Word: "\x7f"},
		"\u0080":                {Word: "\u0080"},
		"\u00a0":                {Word: "\u00a0"},
		"\u3000/S":              {Word: "\u3000", Flags: []int{'S'}},
		"\ufeffcity":            {Word: "\ufeffcity"},
		"\ufffd":                {Word: "\ufffd"},
		"\uffff":                {Word: "\uffff"},
		"e\u0301/e":             {Word: "e\u0301", Flags: []int{'e'}},
		"\u0301":                {Word: "\u0301"},
		"\U0010ffff":            {Word: "\U0010ffff"},
		"\u2044S":               {Word: "\u2044S"},
		"\uff03a":               {Word: "\uff03a"},
		"\"a\"":                 {Word: "\"a\""},
		"$a%&()*+,-.:;<=>?@_`|": {Word: "$a%&()*+,-.:;<=>?@_`|"},
	} {
		isList(t, line, []api.Entry{want})
		isList(t, "\n"+line+"\n", []api.Entry{want})
		isList(t, "x/y\n"+line+"\nx", []api.Entry{of("x", "y"), want, of("x", "")})
	}
	isList(t, "a/"+letters, []api.Entry{of("a", letters)})
	isList(t, strings.Repeat("a", 5000)+"/a", []api.Entry{of(strings.Repeat("a", 5000), "a")})
}

// P12.1: a line that is none told by hand.
func TestNoEntryTable(t *testing.T) {
	for _, line := range []string{
		"/", "/a", "//", "//a", "a/", "a//", "a//b", "a/b/", "a/b/c", "a/b//", "/a/b",
		"a/1", "a/-", "a/b1", "a/1b", "a/b,c", "a/b c", "a/ b", "a/b ", "a /b", "a/@", "a/[", "a/`", "a/{", "a/\u00e9", "a/b\u00e9", "a/\uff21", "a/\x00", "a/b\x00", "a/\xff", "a/b\xff", "a/\xc3", "a/\t", "a/b\r",
		"a/aa", "a/AA", "a/aba", "a/abb", "a/aab", "a/" + letters + "a", "a/a" + letters, "a/" + letters + "Z", "a/" + letters + letters,
		"a#", "a#b", "a#/b", "a/#", "a/b#", "a/#b", "a#b/c", "a/b#c", " #", "a #", "a b", " a", "a ", "  ", " ", " /a", "a b/c",
		"\x1f", "a\x1f", "\x1fa", "\x00", "\x01", "a\x00b", "a\tb", "\ta", "a\t", "a\r", "\r", "\v", "a\fb", "\x1b[a", "a\x1f/b", "\x7f\x00",
		"\xff", "\x80", "a\xff", "\xffa", "a\xff/b", "\xc3", "\xc3/a", "\xe2\x82/a", "\xc0\xaf", "\xc1\xbf", "\xed\xa0\x80", "a\xed\xbf\xbfb", "\xf4\x90\x80\x80", "\xe0\x80\xaf", "\ufffd\xfd",
	} {
		isRefused(t, line, 1, api.ErrText)
		isRefused(t, "#\n"+line+"\n", 2, api.ErrText)
	}
	// What a flag is, a line with it twice is none, however far the two are.
	for _, c := range letters {
		others := strings.ReplaceAll(letters, string(c), "")
		isRefused(t, "a/"+string(c)+others+string(c), 1, api.ErrText)
		isList(t, "a/"+string(c)+others, []api.Entry{of("a", string(c)+others)})
	}
}

// P12.1: every code point in a word: by itself, at its beginning, within, at its end.
func TestWordOfEveryCode(t *testing.T) {
	for code := 0; code <= utf8.MaxRune; code++ {
		if code > 0x3100 && code < 0xd000 || code > 0x11000 && code < 0x10ff00 {
			code += 100
		}
		if code >= 0xd800 && code <= 0xdfff {
			hasNoText(t, words(string([]byte{0xed, byte(0x80 | code>>6&0x3f), byte(0x80 | code&0x3f)})))
			continue
		}
		c := string(rune(code))
		for _, word := range []string{c, c + "a", "a" + c + "b", "a" + c} {
			if code < 33 || code == '/' || code == '#' {
				hasNoText(t, words(word))
				hasNoText(t, []api.Entry{of(word, "S")})
				isAsTold(t, word)
				isAsTold(t, word+"/S")
				continue
			}
			isList(t, word, words(word))
			isList(t, word+"/S", []api.Entry{of(word, "S")})
		}
	}
}

// P12.1: every byte, and every code point of a few bytes, as a flag.
func TestEveryFlag(t *testing.T) {
	for c := range 256 {
		for _, flags := range []string{string([]byte{byte(c)}), "S" + string([]byte{byte(c)}), string([]byte{byte(c)}) + "s"} {
			isAsTold(t, "city/"+flags)
		}
		if strings.Contains(letters, string(rune(c))) && c < 128 {
			isList(t, "city/"+string(rune(c)), []api.Entry{{Word: "city", Flags: []int{c}}})
			continue
		}
		if c != '\n' {
			isRefused(t, "city/"+string([]byte{byte(c)}), 1, api.ErrText)
		}
	}
	for code := 128; code < 0x3000; code++ {
		isRefused(t, "city/"+string(rune(code)), 1, api.ErrText)
	}
	for _, one := range letters {
		for _, two := range letters {
			flags := string(one) + string(two)
			if one == two {
				isRefused(t, "city/"+flags, 1, api.ErrText)
			} else {
				isList(t, "city/"+flags, []api.Entry{of("city", flags)})
			}
		}
	}
}

// tuples is all lists of n of a pool.
func tuples(n int, pool []string, visit func([]string)) {
	l := make([]string, n)
	var more func(i int)
	more = func(i int) {
		if i == n {
			visit(l)
			return
		}
		for _, s := range pool {
			l[i] = s
			more(i + 1)
		}
	}
	more(0)
}

// P12.1: all lines of a few parts.
func TestAllSmallLines(t *testing.T) {
	pool := []string{"a", "B", "/", "#", " ", "1", "\u00e9", "\xff", "\x1f", "\n"}
	for n := range 6 {
		tuples(n, pool, func(parts []string) { isAsTold(t, strings.Join(parts, "")) })
	}
}

// P12.1, P12.2: all lists of a few lines of a pool, with an end behind the last one and without.
func TestAllSmallLists(t *testing.T) {
	pool := []string{"", "# a", "city", "city/S", "city/Ss", "day/SS", "\u00e9/e", "x y", "/S", "city/"}
	for n := range 5 {
		tuples(n, pool, func(lines []string) {
			s := strings.Join(lines, "\n")
			isAsTold(t, s)
			isAsTold(t, s+"\n")
		})
	}
}

// P12.1: a list with some bytes put in, taken out or turned at each place.
func TestNearLists(t *testing.T) {
	for _, s := range []string{"city/SU\nna\u00efve\n#x/y\nday/abc", "\u4e00/Z\n\U0001f600\n\nlucky/UYs\n"} {
		for at := range len(s) + 1 {
			for _, c := range []string{"", "\n", " ", "#", "/", "x", "S", "U", "\u00e9", "\xff", "\xc3", "\x00", "\x20", "!", "\n\n", "\n#", "\nx/x\n"} {
				isAsTold(t, s[:at]+c+s[at:])
				if at < len(s) {
					isAsTold(t, s[:at]+c+s[at+1:])
				}
			}
			isAsTold(t, s[:at])
			isAsTold(t, s[at:])
			isAsTold(t, s[at:]+s[:at])
		}
	}
}

// mixer answers numbers without a pattern, always the same ones.
type mixer uint64

func (m *mixer) below(n int) int {
	*m = *m*6364136223846793005 + 1442695040888963407
	return int(*m>>33) % n
}

// R1: whatever bytes there are, and whatever order of right parts and wrong ones.
func TestAnyBytes(t *testing.T) {
	m := mixer(12)
	parts := []string{"city", "day", "/", "/", "S", "U", "abc", "\n", "\n", "\n", "\n", "#", " ", "\u00e9", "\xff", "\x00", "\r", "1", "\n\n", "\n#"}
	for range 20000 {
		var b strings.Builder
		for range m.below(30) {
			b.WriteString(parts[m.below(len(parts))])
		}
		isAsTold(t, b.String())
		b.Reset()
		for range m.below(30) {
			b.WriteByte(byte(m.below(256)))
		}
		isAsTold(t, b.String())
	}
}

// P12.1: the first line that is none is told, not a later one, wherever it stands.
func TestFirstWrongLine(t *testing.T) {
	isRefused(t, "city/S\n/\nday\n \n", 2, api.ErrText)
	isRefused(t, " \n/\n", 1, api.ErrText)
	isRefused(t, "city/SS\nday", 1, api.ErrText)
	isRefused(t, strings.Repeat("city\n", 1999)+"x y", 2000, api.ErrText)
	isRefused(t, strings.Repeat("city\n", 2000)+"x y", 2001, api.ErrText)
	isRefused(t, strings.Repeat("\n", 30000)+"x y\n"+strings.Repeat("\n", 30000)+"z/", 30001, api.ErrText)
	isRefused(t, strings.Repeat("#\n", 30000)+"/", 30001, api.ErrText)
}

// P12.1: more bytes than a file may have come ahead of all that stands in it.
func TestManyBytes(t *testing.T) {
	one := "city/S\n"
	for _, n := range []int{api.MaxFile - 2, api.MaxFile - 1, api.MaxFile, api.MaxFile + 1, api.MaxFile + 2} {
		for _, s := range []string{one, one + "day\n", one + "x y\n", "/\n", ""} {
			for _, of := range []string{"\n", "#", "x", " "} {
				isAsTold(t, s+strings.Repeat(of, n-len(s)))
			}
			isAsTold(t, strings.Repeat("\n", n-len(s))+s)
		}
	}
	isList(t, one+strings.Repeat("#", api.MaxFile-len(one)), []api.Entry{of("city", "S")})
	isRefused(t, one+strings.Repeat("#", api.MaxFile-len(one)+1), 0, api.ErrBig)
	isRefused(t, strings.Repeat(one, 1<<18), 0, api.ErrBig)
	isRefused(t, strings.Repeat("\n", api.MaxFile-1)+" ", api.MaxFile, api.ErrText)
	isRefused(t, strings.Repeat("\n", api.MaxFile)+" ", 0, api.ErrBig)
	isRefused(t, " "+strings.Repeat("\n", api.MaxFile), 0, api.ErrBig)
	// Bytes are counted, not code points.
	isList(t, "#"+strings.Repeat("\u00e9", api.MaxFile/2-1)+"#", nil)
	isRefused(t, "#"+strings.Repeat("\u00e9", api.MaxFile/2), 0, api.ErrBig)
	is(t, strings.Repeat("\u00e9", api.MaxFile/2), reading{l: words(strings.Repeat("\u00e9", api.MaxFile/2))})
}

// P12.1: at most so many entries; other lines are not counted.
func TestManyEntries(t *testing.T) {
	for _, n := range []int{1, 2, 1999, 2000, 2001, 2002, 4000, 9000} {
		for _, line := range []string{"city\n", "city/S\n", "a\n"} {
			many := strings.Repeat(line, n)
			for _, s := range []string{many, strings.TrimSuffix(many, "\n"), "#\n\n" + many + "\n\n#", many + "#", many + "\n", many + "x y\n", "x y\n" + many, many + " \n" + line} {
				isAsTold(t, s)
			}
			if _, _, e := list.Parse(many); (e == api.ErrBig) != (n > 2000) {
				t.Fatalf("%d entries: error %d", n, e)
			}
		}
	}
	isList(t, strings.Repeat("city/S\n", 2000), slices.Repeat([]api.Entry{of("city", "S")}, 2000))
	isList(t, strings.Repeat("#city\n\n", 3000)+strings.Repeat("city\n", 2000), slices.Repeat(words("city"), 2000))
	// All of them with other words, and other flags.
	var b strings.Builder
	for i := range 2000 {
		b.WriteString(string(rune(0x4e00+i)) + "/" + letters[i%52:i%52+1] + letters[(i+7)%52:(i+7)%52+1] + "\n")
	}
	isAsTold(t, b.String())
	isAsTold(t, b.String()+"x")
}

// P12.1: too many entries come ahead of lines that are none, wherever these stand.
func TestBigAheadOfText(t *testing.T) {
	many := strings.Repeat("city\n", 2001)
	isRefused(t, many+" \n", 0, api.ErrBig)
	isRefused(t, " \n"+many, 0, api.ErrBig)
	isRefused(t, " \n"+many+"/\n", 0, api.ErrBig)
	isRefused(t, strings.Repeat("city\n", 1000)+"/\n"+strings.Repeat("city\n", 1001), 0, api.ErrBig)
	isRefused(t, strings.Repeat("city\n", 1000)+"/\n"+strings.Repeat("city\n", 1000), 1001, api.ErrText)
	isRefused(t, "/\n"+strings.Repeat("\n", 40000)+strings.Repeat("a\n", 2001), 0, api.ErrBig)
	// What is no entry's line is not counted.
	isRefused(t, strings.Repeat("city\n", 2000)+"city/\n", 2001, api.ErrText)
	isRefused(t, strings.Repeat("city/SS\n", 3000), 1, api.ErrText)
	isRefused(t, strings.Repeat("city/\n", 3000)+strings.Repeat("city\n", 2000), 1, api.ErrText)
	isRefused(t, strings.Repeat("city/\n", 3000)+strings.Repeat("city\n", 2001), 0, api.ErrBig)
}

// P12.1, Text: a line each.
func TestTextTable(t *testing.T) {
	for _, c := range []struct{ file, want string }{
		{"", ""},
		{"\n#\n\n", ""},
		{"city/S", "city/S\n"},
		{"city", "city\n"},
		{"\n# a\ncity/sS\n\nna\u00efve\n#", "city/sS\nna\u00efve\n"},
		{"b\na\nb/b\nb", "b\na\nb/b\nb\n"},
	} {
		l, _, e := list.Parse(c.file)
		if got := list.Text(l); got != c.want || e != api.OK {
			t.Errorf("Text of what %q says: %q, want %q; error %d", c.file, got, c.want, e)
		}
	}
	if got := list.Text([]api.Entry{{Word: "city", Flags: []int{'S', 'U'}}, {Word: "very", Flags: []int{}}}); got != "city/SU\nvery\n" {
		t.Errorf("Text: %q", got)
	}
}

// P12.1, Text: none of the whole, where an entry has no line.
func TestNoText(t *testing.T) {
	good := []api.Entry{of("city", "S"), of("very", "")}
	isList(t, "city/S\nvery", good)
	for _, x := range []api.Entry{
		{}, of("", "S"), of("/", ""), of("/S", ""), of("a/", ""), of("a/", "S"), of("a/S", ""), of("a/S", "U"), of("#", ""), of("#a", ""), of("#a", "S"), of("a#", ""), of("a#b", "S"),
		of(" ", ""), of("a b", ""), of(" a", ""), of("a ", "S"), of("\t", ""), of("a\x1f", ""), of("\x00", ""), of("a\r", ""),
		of("\n", ""), of("a\n", ""), of("\na", ""), of("a\nb", ""), of("a\nb", "S"), of("a\n#", ""), of("a\n#", "S"), of("a\n\n", ""), of("a/S\n", ""), of("a/S\nb", ""), of("#\na", "S"), of("\n\na", ""),
		of("\xff", ""), of("a\xff", "S"), of("\xed\xa0\x80", ""), of("\xc3", ""),
		of("a", "SS"), of("a", "SUS"), of("a", "1"), of("a", "S1"), of("a", "/"), of("a", "/S"), of("a", "S/"), of("a", "#"), of("a", "S#"), of("a", " "), of("a", "\n"), of("a", "S\n"), of("a", "S\n#"), of("a", "S\nb"), of("a", "\x00"), of("a", "@"), of("a", "["), of("a", "`"), of("a", "{"), of("a", letters+"a"),
	} {
		hasNoText(t, []api.Entry{x})
		hasNoText(t, []api.Entry{x, x})
		hasNoText(t, append(slices.Clone(good), x))
		hasNoText(t, append([]api.Entry{x}, good...))
		hasNoText(t, []api.Entry{good[0], x, good[1]})
	}
}

// P12.1, Text; R5: flags are any numbers; only the letters' own ones have a line.
func TestFlagsOfAnyNumber(t *testing.T) {
	for flag := -300; flag <= 0x3000; flag++ {
		for _, l := range [][]api.Entry{{{Word: "a", Flags: []int{flag}}}, {{Word: "a", Flags: []int{'s', flag}}}, {{Word: "a", Flags: []int{flag, 's'}}}} {
			if flag >= 'a' && flag <= 'z' && (flag != 's' || len(l[0].Flags) == 1) || flag >= 'A' && flag <= 'Z' {
				isList(t, textOf(l), l)
			} else {
				hasNoText(t, l)
			}
		}
	}
	for _, flag := range []int{math.MinInt, math.MaxInt, math.MinInt32, math.MaxInt32, 1<<32 + 'S', -1<<32 + 'S', 1<<31 + 'S', 1<<21 + 'S', 1<<16 + 'S', 1<<8 + 'S', 'S' - 256, -1 - 'S', 0xd800, 0xdfff, 0xfffd, utf8.MaxRune, utf8.MaxRune + 1, math.MinInt + 'S'} {
		hasNoText(t, []api.Entry{{Word: "a", Flags: []int{flag}}})
		hasNoText(t, []api.Entry{{Word: "a", Flags: []int{'S', flag}}})
		hasNoText(t, []api.Entry{{Word: "a", Flags: []int{flag, 'S'}}, of("b", "")})
	}
}

// P12.1, Text: at most as many entries, and as many bytes, as Parse takes.
func TestTextOfMuch(t *testing.T) {
	for _, n := range []int{1, 1999, 2000, 2001, 5000} {
		for _, x := range []api.Entry{of("city", "S"), of("a", "")} {
			l := slices.Repeat([]api.Entry{x}, n)
			if n > api.MaxWords {
				hasNoText(t, l)
			} else {
				isList(t, textOf(l), l)
			}
		}
	}
	for more := -2; more <= 2; more++ {
		for _, flags := range []string{"", "S", letters} {
			end := "\n"
			if flags != "" {
				end = "/" + flags + "\n"
			}
			word := strings.Repeat("x", api.MaxFile-len(end)+more)
			short := strings.Repeat("x", api.MaxFile-len(end)+more-len("city\n"))
			for _, l := range [][]api.Entry{{of(word, flags)}, {of("city", ""), of(short, flags)}} {
				s := textOf(l)
				if len(s) != api.MaxFile+more {
					t.Fatalf("%d bytes", len(s))
				}
				if more <= 0 {
					isList(t, s, l)
					continue
				}
				hasNoText(t, l)
				// Parse takes a byte more without the last line's end, but Text ends each line.
				if more == 1 {
					is(t, s[:len(s)-1], reading{l: l})
				} else {
					isRefused(t, s[:len(s)-1], 0, api.ErrBig)
				}
			}
		}
	}
	hasNoText(t, slices.Repeat([]api.Entry{{}}, 100000))
	hasNoText(t, []api.Entry{{Word: strings.Repeat("a", 1<<20), Flags: slices.Repeat([]int{'S'}, 1<<20)}})
}

// P12.1, Text; P12.2: all small lists of entries, such as have a text and such as have none.
func TestTextOfSmallLists(t *testing.T) {
	pool := []api.Entry{of("a", ""), of("a", "S"), of("b", "SU"), of("\u00e9", "Z"), {}, of("", "S"), of("a/S", ""), of("#a", ""), of("a\nb", ""), of("a", "SS"), {Word: "a", Flags: []int{-1}}, {Word: "a", Flags: []int{'S', 0}}}
	texts := 0
	for _, l := range lists(4, pool) {
		want := textOf(l)
		if back := told(want); back.e != api.OK || !same(back.l, l) {
			want = ""
		}
		if got := list.Text(l); got != want {
			t.Fatalf("Text(%v): %q, want %q", l, got, want)
		}
		if want != "" {
			texts++
			isList(t, want, l)
		}
	}
	if want := 4 + 16 + 64 + 256; texts != want {
		t.Errorf("%d lists have a text, not %d", texts, want)
	}
}

// lists is all lists of at most n of a pool.
func lists[T any](n int, pool []T) [][]T {
	l := [][]T{nil}
	for from := 0; n > 0; n-- {
		to := len(l)
		for _, head := range l[from:to] {
			for _, x := range pool {
				l = append(l, append(slices.Clone(head), x))
			}
		}
		from = to
	}
	return l
}

// R3: what is handed in is not changed, its spare room neither; nil and an empty list are one.
func TestNothingChanged(t *testing.T) {
	whole := []api.Entry{of("city", "SU"), of("very", ""), of("\u00e9", "abc"), of("x y", "S")}
	for n := range len(whole) + 1 {
		for m := range 3 {
			in := slices.Clone(whole)
			flags := []int{'S', 'U', 7}
			in[0].Flags = flags[:m]
			list.Text(in[:n])
			if !same(in[1:], whole[1:]) || in[0].Word != "city" || len(in[0].Flags) != m || !slices.Equal(flags, []int{'S', 'U', 7}) {
				t.Fatalf("%d entries have changed", n)
			}
		}
	}
	for _, l := range [][]api.Entry{nil, {}} {
		hasNoText(t, l)
	}
	for _, flags := range [][]int{nil, {}, make([]int, 0, 9)} {
		if got := list.Text([]api.Entry{{Word: "a", Flags: flags}}); got != "a\n" {
			t.Errorf("Text with no flag: %q", got)
		}
	}
}

// spoil makes others of all that an answer's lists have room for, but what is of entry n.
func spoil(l []api.Entry, n int) {
	for k := range l[:cap(l)] {
		if k == n {
			continue
		}
		x := &l[:cap(l)][k]
		for i := range x.Flags[:cap(x.Flags)] {
			x.Flags[:cap(x.Flags)][i] = -7
		}
		*x = api.Entry{Word: "spoilt", Flags: []int{-7}}
	}
}

// R3: what is answered is new memory; no two lists of one answer share any, spare room too.
func TestNothingShared(t *testing.T) {
	s := "city/S\nvery\nlucky/UYs\ncity/S\n\nday/abcde\n#\nday/abcde\nna\u00efve/n\n"
	want := told(s).l
	for n := range want {
		one, _, _ := list.Parse(s)
		other, _, _ := list.Parse(s)
		spoil(one, n)
		if !same(one[n:n+1], want[n:n+1]) {
			t.Fatalf("entry %d has changed with others: %v", n, one[n])
		}
		if !same(other, want) {
			t.Fatalf("another answer has changed: %v", other)
		}
		isList(t, s, want)
	}
}

// R4: a call answers the same behind any others.
func TestAgain(t *testing.T) {
	for range 3 {
		isList(t, "city/S\nvery", []api.Entry{of("city", "S"), of("very", "")})
		isList(t, "very/S\ncity", []api.Entry{of("very", "S"), of("city", "")})
		isRefused(t, "\nx y", 2, api.ErrText)
		isRefused(t, strings.Repeat("city\n", 2001), 0, api.ErrBig)
		hasNoText(t, []api.Entry{{}})
	}
}
