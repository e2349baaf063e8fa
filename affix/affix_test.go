package affix_test

import (
	"math"
	"regexp"
	"slices"
	"strconv"
	"strings"
	"testing"
	"unicode/utf8"

	"abecedary/affix"
	"abecedary/api"
	"abecedary/cond"
	"abecedary/rule"
)

// ruleOf is the rule of a line that is right.
func ruleOf(line string) api.Rule {
	r, ok := rule.Parse(line)
	if !ok {
		panic("no rule: " + line)
	}
	return r
}

// rulesOf is the rules of lines that are right.
func rulesOf(lines ...string) []api.Rule {
	var l []api.Rule
	for _, line := range lines {
		l = append(l, ruleOf(line))
	}
	return l
}

func set(codes ...int) api.Item { return api.Item{Set: codes} }

// same tells whether two affix files are the same, field by field; nil and an empty list are one.
func same(a, b api.Affixes) bool {
	return slices.Equal(a.Pairs, b.Pairs) && slices.EqualFunc(a.Rules, b.Rules, func(a, b api.Rule) bool {
		return a.Prefix == b.Prefix && a.Flag == b.Flag && a.Cross == b.Cross && a.Strip == b.Strip && a.Add == b.Add &&
			slices.EqualFunc(a.Cond, b.Cond, func(a, b api.Item) bool {
				return a.Any == b.Any && a.Not == b.Not && slices.Equal(a.Set, b.Set)
			})
	})
}

// reading is what Parse answers.
type reading struct {
	a    api.Affixes
	line int
	e    api.Errno
}

// linesOf is a text's lines: what a byte 10 stands behind, and what stands behind the last one, if it has a byte.
func linesOf(s string) []string {
	l := strings.Split(s, "\n")
	if l[len(l)-1] == "" {
		l = l[:len(l)-1]
	}
	return l
}

var pairShape = regexp.MustCompile(`(?s)^CASE (.)(.)$`)

// pairOf is the pair that a line says by the words of P11.1, behind some pairs.
func pairOf(line string, ahead []api.Pair) (api.Pair, bool) {
	m := pairShape.FindStringSubmatch(line)
	if m == nil || !utf8.ValidString(line) || m[1] == m[2] || strings.ContainsAny(m[1]+m[2], "ABCDEFGHIJKLMNOPQRSTUVWXYZabcdefghijklmnopqrstuvwxyz") {
		return api.Pair{}, false
	}
	p := api.Pair{Great: int([]rune(m[1])[0]), Small: int([]rune(m[2])[0])}
	for _, q := range ahead {
		for _, code := range []int{q.Great, q.Small} {
			if code == p.Great || code == p.Small {
				return api.Pair{}, false
			}
		}
	}
	return p, true
}

// told is what Parse is to answer by the words of P11.1: each error by a look of its own at the lines.
func told(s string) reading {
	var a api.Affixes
	var none, mixed []int
	for i, line := range linesOf(s) {
		if r, ok := rule.Parse(line); ok {
			for _, ahead := range a.Rules {
				if ahead.Flag == r.Flag && ahead.Prefix == !r.Prefix {
					mixed = append(mixed, i+1)
				}
			}
			a.Rules = append(a.Rules, r)
		} else if p, ok := pairOf(line, a.Pairs); ok {
			a.Pairs = append(a.Pairs, p)
		} else if len(line) > 0 && line[0] != '#' {
			none = append(none, i+1)
		}
	}
	if len(s) > 65536 || len(a.Rules) > 200 || len(a.Pairs) > 200 {
		return reading{e: api.ErrBig}
	}
	if len(none) > 0 {
		return reading{line: none[0], e: api.ErrText}
	}
	if len(mixed) > 0 {
		return reading{line: mixed[0], e: api.ErrFlag}
	}
	return reading{a: a}
}

// brief is the beginning of a text for a message.
func brief(s string) string {
	if len(s) > 200 {
		s = s[:200] + ".."
	}
	return strconv.Quote(s)
}

// is holds Parse against what it is to answer.
func is(t *testing.T, s string, want reading) {
	t.Helper()
	a, line, e := affix.Parse(s)
	if e != want.e || line != want.line || !same(a, want.a) {
		t.Fatalf("Parse(%s): %d rules, %d pairs, line %d, error %d, want %d, %d, line %d, error %d",
			brief(s), len(a.Rules), len(a.Pairs), line, e, len(want.a.Rules), len(want.a.Pairs), want.line, want.e)
	}
	if e != api.OK && (a.Rules != nil || a.Pairs != nil) {
		t.Fatalf("Parse(%s): lists beside an error", brief(s))
	}
}

// isFile holds Parse of what is a file, Text of that, and P11.2.
func isFile(t *testing.T, s string, want api.Affixes) {
	t.Helper()
	is(t, s, reading{a: want})
	text := affix.Text(want)
	if text != textOf(want) {
		t.Fatalf("Text of what %s says: %s, want %s", brief(s), brief(text), brief(textOf(want)))
	}
	is(t, text, reading{a: want})
}

// isRefused holds Parse of what is no file.
func isRefused(t *testing.T, s string, line int, e api.Errno) {
	t.Helper()
	is(t, s, reading{line: line, e: e})
}

// isAsTold holds Parse against the words of P11.1, and Text of what it answers.
func isAsTold(t *testing.T, s string) {
	t.Helper()
	want := told(s)
	if want.e != api.OK {
		is(t, s, want)
		return
	}
	isFile(t, s, want.a)
}

// textOf is the only text that could be a file's.
func textOf(a api.Affixes) string {
	s := ""
	for _, r := range a.Rules {
		s += rule.Text(r) + "\n"
	}
	for _, p := range a.Pairs {
		s += "CASE " + string(rune(p.Great)) + string(rune(p.Small)) + "\n"
	}
	return s
}

// hasNoText holds Text of what no text is read as.
func hasNoText(t *testing.T, a api.Affixes) {
	t.Helper()
	if got := affix.Text(a); got != "" {
		t.Fatalf("%d rules, %d pairs: Text %s", len(a.Rules), len(a.Pairs), brief(got))
	}
}

// The document's example: an empty file is nothing.
func TestExample(t *testing.T) {
	isFile(t, "", api.Affixes{})
	if a, line, e := affix.Parse(""); len(a.Rules)+len(a.Pairs) != 0 || line != 0 || e != api.OK {
		t.Errorf("Parse of nothing: %v, line %d, error %d", a, line, e)
	}
}

// P11.1: files told by hand.
func TestFiles(t *testing.T) {
	isFile(t, "SFX S Y 0 s .\nPFX U Y 0 un .\n", api.Affixes{Rules: []api.Rule{
		{Flag: 'S', Cross: true, Add: "s", Cond: []api.Item{{Any: true}}},
		{Prefix: true, Flag: 'U', Cross: true, Add: "un", Cond: []api.Item{{Any: true}}},
	}})
	isFile(t, "CASE Éé\nCASE Àà\n", api.Affixes{Pairs: []api.Pair{{Great: 0xc9, Small: 0xe9}, {Great: 0xc0, Small: 0xe0}}})
	isFile(t, "# of all kinds\n\nCASE Éé\nSFX S N y ies [^aeiou]y\n#CASE Éé\nCASE Σσ\n\nSFX S N 0 s [aeiou]y\n", api.Affixes{
		Rules: []api.Rule{
			{Flag: 'S', Strip: "y", Add: "ies", Cond: []api.Item{{Not: true, Set: []int{'a', 'e', 'i', 'o', 'u'}}, set('y')}},
			{Flag: 'S', Add: "s", Cond: []api.Item{set('a', 'e', 'i', 'o', 'u'), set('y')}},
		},
		Pairs: []api.Pair{{Great: 0xc9, Small: 0xe9}, {Great: 0x3a3, Small: 0x3c3}},
	})
	// Rules and pairs stand in order, also where a rule is there twice.
	isFile(t, "SFX b N 0 b .\nSFX a N 0 a .\nSFX b N 0 b .\n", api.Affixes{Rules: rulesOf("SFX b N 0 b .", "SFX a N 0 a .", "SFX b N 0 b .")})
	isFile(t, "CASE ÿŸ\nCASE Éé\nCASE 21\n", api.Affixes{Pairs: []api.Pair{{Great: 0xff, Small: 0x178}, {Great: 0xc9, Small: 0xe9}, {Great: '2', Small: '1'}}})
}

// P11.1: which lines there are, and how they are counted.
func TestLines(t *testing.T) {
	one := api.Affixes{Rules: rulesOf("SFX S Y 0 s .")}
	for _, s := range []string{
		"SFX S Y 0 s .", "SFX S Y 0 s .\n", "\nSFX S Y 0 s .", "\n\n\nSFX S Y 0 s .\n\n\n", "#\nSFX S Y 0 s .\n#", "# SFX T Y 0 s .\nSFX S Y 0 s .", "##\n#\xff\xc3\x00\n#\r\nSFX S Y 0 s .",
		"#CASE aa\nSFX S Y 0 s .", "SFX S Y 0 s .\n# " + strings.Repeat("x", 1000),
	} {
		isFile(t, s, one)
	}
	for _, s := range []string{"\n", "\n\n\n", "#", "#\n", "#\n\n#", "#\r", strings.Repeat("\n", api.MaxFile), strings.Repeat("#", api.MaxFile), strings.Repeat("#\n", api.MaxFile/2)} {
		isFile(t, s, api.Affixes{})
	}
	for _, line := range []string{
		"x", " ", "\t", "\r", "\x00", "\xff", "\ufeff", " #", "\t#", "\r#", "\ufeff#", "//", "0", "-", ";", "SET UTF-8", "SFX S Y 1", "SFX", "PFX", "CASE", "case Éé",
		"SFX S Y 0 s . #", "SFX S Y 0 s . ", " SFX S Y 0 s .", "SFX S Y 0 s", "SFX S Y 0 \xff .", "SFX S Y 0 s .\x00SFX S Y 0 s .\r\x85\u2028", "SFX S Y 0  .", "xSFX S Y 0 s .", "SFX 1 Y 0 s .", "sfx S Y 0 s .",
	} {
		for n := range 4 {
			ahead := strings.Repeat("\n", n)
			isRefused(t, ahead+line, n+1, api.ErrText)
			isRefused(t, ahead+line+"\n", n+1, api.ErrText)
			isRefused(t, ahead+"SFX S Y 0 s .\n#\n"+line+"\n\nx", n+3, api.ErrText)
		}
	}
	// Only the byte 10 ends a line: what else does elsewhere is a part of it.
	isFile(t, "SFX S Y 0 s .\r\n", api.Affixes{Rules: rulesOf("SFX S Y 0 s .\r")})
	isFile(t, "CASE \r\v\n", api.Affixes{Pairs: []api.Pair{{Great: '\r', Small: '\v'}}})
	isFile(t, "#\rx\vx\fx\u0085x\u2028x", api.Affixes{})
	isRefused(t, "SFX S Y 0 s .\r\n\r\n", 2, api.ErrText)
	isRefused(t, "SFX S Y 0 s\n .", 1, api.ErrText)
	isRefused(t, "CASE É\né", 1, api.ErrText)
	isRefused(t, "CASE \n\n", 1, api.ErrText)
}

// tuples is all lists of n of a pool.
func tuples(n int, pool []string, visit func([]string)) {
	l := make([]string, n)
	var more func(i int)
	more = func(i int) {
		if i == n {
			visit(l)
			return
		}
		for _, s := range pool {
			l[i] = s
			more(i + 1)
		}
	}
	more(0)
}

// P11.1, P11.2: all files of a few lines of a pool, with an end behind the last one and without.
func TestAllSmallFiles(t *testing.T) {
	pool := []string{"", "# a", "SFX S Y 0 s .", "PFX S N 0 s .", "PFX U Y 0 un [^a]", "SFX U Y 0 s [.]", "CASE Éé", "CASE éÉ", "CASE éÀ", "CASE Àà", "CASE aé", "CASE éé", "x"}
	for n := range 5 {
		tuples(n, pool, func(lines []string) {
			s := strings.Join(lines, "\n")
			isAsTold(t, s)
			isAsTold(t, s+"\n")
		})
	}
}

// P11.1: a file with some bytes put in, taken out or turned at each place.
func TestNearFiles(t *testing.T) {
	for _, s := range []string{"SFX S Y y ies [^a]y\nCASE Éé\n#x\nPFX U N 0 un .", "CASE Éé\nCASE 😀€\n\nSFX a Y é 0 .\nPFX b Y 0 é .\n"} {
		for at := range len(s) + 1 {
			for _, c := range []string{"", "\n", " ", "#", "x", "S", "P", "é", "É", "\xff", "\xc3", "\n\n", "\nCASE ÀÉ\n", "\nPFX S Y 0 0 .\n"} {
				isAsTold(t, s[:at]+c+s[at:])
				if at < len(s) {
					isAsTold(t, s[:at]+c+s[at+1:])
				}
			}
			isAsTold(t, s[:at])
			isAsTold(t, s[at:])
			isAsTold(t, s[at:]+s[:at])
		}
	}
}

// mixer answers numbers without a pattern, always the same ones.
type mixer uint64

func (m *mixer) below(n int) int {
	*m = *m*6364136223846793005 + 1442695040888963407
	return int(*m>>33) % n
}

// R1: whatever bytes there are, and whatever order of right words and wrong ones.
func TestAnyBytes(t *testing.T) {
	m := mixer(11)
	words := []string{"SFX ", "PFX ", "CASE ", "S ", "U ", "Y ", "N ", "0 ", "un ", ".", "[^a]", "é", "É", "\n", "\n", "\n", "#", " ", "\xff", "\x00", "\r", "a"}
	for range 20000 {
		var b strings.Builder
		for range m.below(40) {
			b.WriteString(words[m.below(len(words))])
		}
		isAsTold(t, b.String())
		b.Reset()
		for range m.below(40) {
			b.WriteByte(byte(m.below(256)))
		}
		isAsTold(t, b.String())
	}
}

// P11.1: a pair's line is told by hand.
func TestPairTable(t *testing.T) {
	for line, want := range map[string]api.Pair{
		"CASE Éé":           {Great: 0xc9, Small: 0xe9},
		"CASE éÉ":           {Great: 0xe9, Small: 0xc9},
		"CASE €😀":           {Great: 0x20ac, Small: 0x1f600},
		"CASE 😀1":           {Great: 0x1f600, Small: '1'},
		"CASE \x00\x01":     {Great: 0, Small: 1},
		"CASE @[":           {Great: '@', Small: '['},
		"CASE `{":           {Great: '`', Small: '{'},
		"CASE #é":           {Great: '#', Small: 0xe9},
		"CASE  é":           {Great: ' ', Small: 0xe9},
		"CASE é ":           {Great: 0xe9, Small: ' '},
		"CASE \t\r":         {Great: '\t', Small: '\r'},
		"CASE \ufffd\ufffe": {Great: 0xfffd, Small: 0xfffe},
		"CASE \ufeff\u0301": {Great: 0xfeff, Small: 0x301},
		"CASE \U0010ffff.":  {Great: utf8.MaxRune, Small: '.'},
	} {
		isFile(t, line, api.Affixes{Pairs: []api.Pair{want}})
		isFile(t, "\n"+line+"\n", api.Affixes{Pairs: []api.Pair{want}})
	}
	for _, line := range []string{
		"CASE", "CASE ", "CASE  ", "CASE   ", "CASE É", "CASE É ÉÉ", "CASE É é", "CASE  Éé", "CASE Éé ", "CASE Ééé", "CASE Éé\r", "CASEÉé", "CASE\tÉé", "CASE\u00a0Éé", " CASE Éé", "case Éé", "Case Éé", "CASES Éé", "XCASE Éé",
		"CASE ÉÉ", "CASE 11", "CASE   ", "CASE \ufffd\ufffd", "CASE \x00\x00", "CASE é\u0301x",
		"CASE Aé", "CASE Zé", "CASE aé", "CASE zé", "CASE éA", "CASE éZ", "CASE éa", "CASE éz", "CASE Aa", "CASE AA", "CASE Mm", "CASE mé", "CASE éM",
		"CASE \xff\xfe", "CASE É\xff", "CASE \xffé", "CASE \xc3\xc9", "CASE \xc3\xa9", "CASE \xed\xa0\x80é", "CASE é\xed\xbf\xbf", "CASE é\xf4\x90\x80\x80", "CASE \xc0\x80é", "CASE Éé\xff", "CASE \xc3\xa9\xc3",
	} {
		isRefused(t, line, 1, api.ErrText)
		isRefused(t, "#\n"+line+"\n", 2, api.ErrText)
	}
}

// P11.1: every code point as either of a pair, but the byte 10 and the letters A to Z, a to z.
func TestPairOfEveryCode(t *testing.T) {
	for code := 0; code <= utf8.MaxRune; code++ {
		if code > 0x3000 && code < 0xd000 || code > 0x11000 && code < 0x10ff00 {
			code += 100
		}
		if code >= 0xd800 && code <= 0xdfff || code == 0xe9 || code == 'E' {
			continue
		}
		c := string(rune(code))
		if code == '\n' || code >= 'a' && code <= 'z' || code >= 'A' && code <= 'Z' {
			isRefused(t, "CASE "+c+"é", 1, api.ErrText)
			isRefused(t, "CASE é"+c, 1, api.ErrText)
			hasNoText(t, api.Affixes{Pairs: []api.Pair{{Great: code, Small: 0xe9}}})
			hasNoText(t, api.Affixes{Pairs: []api.Pair{{Great: 0xe9, Small: code}}})
			continue
		}
		isFile(t, "CASE "+c+"é", api.Affixes{Pairs: []api.Pair{{Great: code, Small: 0xe9}}})
		isFile(t, "CASE é"+c, api.Affixes{Pairs: []api.Pair{{Great: 0xe9, Small: code}}})
		isRefused(t, "CASE "+c+c, 1, api.ErrText)
	}
}

// P11.1: a code point is in one pair, whichever of the two it is there, however far ahead the line is.
func TestPairsAhead(t *testing.T) {
	for _, behind := range []string{"Éé", "éÉ", "Éx", "ÉÀ", "ÀÉ", "éÀ", "Àé"} {
		isRefused(t, "CASE Éé\nCASE "+behind+"\n", 2, api.ErrText)
		isRefused(t, "CASE Éé\n\n#\nSFX S Y 0 s .\nCASE Çç\nCASE "+behind+"\nCASE Òò", 6, api.ErrText)
		isRefused(t, "CASE Çç\nCASE Éé\nCASE Òò\nCASE "+behind, 4, api.ErrText)
	}
	isFile(t, "CASE Éé\nCASE Àà\nCASE êÊ", api.Affixes{Pairs: []api.Pair{{Great: 0xc9, Small: 0xe9}, {Great: 0xc0, Small: 0xe0}, {Great: 0xea, Small: 0xca}}})
	// Rules and remarks take no code point from a pair, nor do pairs from them.
	isFile(t, "SFX S Y é É é\n#Éé\nCASE Éé\nSFX S Y 0 É é", api.Affixes{Rules: rulesOf("SFX S Y é É é", "SFX S Y 0 É é"), Pairs: []api.Pair{{Great: 0xc9, Small: 0xe9}}})
	// The first line that is none is told, not a later one.
	isRefused(t, "CASE Éé\nCASE éÀ\nCASE Àà\nCASE àÉ", 2, api.ErrText)
}

// P11.1: a flag is of rules of one end; the error's line is the first one that has it of the other end.
func TestFlags(t *testing.T) {
	const letters = "abcdefghijklmnopqrstuvwxyzABCDEFGHIJKLMNOPQRSTUVWXYZ"
	for _, one := range letters {
		for _, two := range letters {
			for _, ends := range [][2]string{{"SFX ", "PFX "}, {"PFX ", "SFX "}} {
				first, second := ends[0]+string(one)+" Y 0 x .", ends[1]+string(two)+" N 0 x ."
				if one == two {
					isRefused(t, first+"\n"+second, 2, api.ErrFlag)
				} else {
					isFile(t, first+"\n"+second, api.Affixes{Rules: rulesOf(first, second)})
				}
			}
			first, second := "SFX "+string(one)+" Y 0 x .", "SFX "+string(two)+" N 0 x ."
			isFile(t, first+"\n"+second, api.Affixes{Rules: rulesOf(first, second)})
		}
	}
	for _, c := range []struct {
		file string
		line int
	}{
		{"SFX S Y 0 s .\nPFX S Y 0 s .\n", 2},
		{"\n#\nSFX S Y 0 s .\n\nCASE Éé\nPFX S N e 0 e\n", 6},
		{"SFX S Y 0 s .\nSFX S Y 0 t .\nPFX U Y 0 un .\nPFX S Y 0 s .\nSFX U Y 0 s .", 4},
		{"SFX S Y 0 s .\nPFX U Y 0 un .\nSFX U Y 0 s .\nPFX S Y 0 s .", 3},
		{"SFX a Y 0 s .\nSFX b Y 0 s .\nSFX c Y 0 s .\nPFX b Y 0 s .\n", 4},
		{"SFX S Y 0 s .\nPFX S Y 0 s .\nSFX S Y 0 s .\n", 2},
		{"PFX S Y 0 s .\n" + strings.Repeat("\n", 1000) + "SFX S Y 0 s .", 1002},
	} {
		isRefused(t, c.file, c.line, api.ErrFlag)
	}
}

// P11.1: a line that is none comes ahead of a flag of both ends, wherever the two stand.
func TestTextAheadOfFlag(t *testing.T) {
	isRefused(t, "SFX S Y 0 s .\nPFX S Y 0 s .\nx\n", 3, api.ErrText)
	isRefused(t, "x\nSFX S Y 0 s .\nPFX S Y 0 s .\n", 1, api.ErrText)
	isRefused(t, "SFX S Y 0 s .\nx\nPFX S Y 0 s .\ny\n", 2, api.ErrText)
	isRefused(t, "SFX S Y 0 s .\nPFX S Y 0 s .\nPFX S Y 0 s\nSFX S Y 0 s .\n", 3, api.ErrText)
	isRefused(t, "SFX S Y 0 s .\nPFX S Y 0 s .\n\n#\nCASE Éé\nCASE éÉ", 6, api.ErrText)
	isRefused(t, "SFX S Y 0 s .\nPFX S Y 0 s .\n"+strings.Repeat("\n", 5000)+" ", 5003, api.ErrText)
	// A line that is none has no flag.
	isRefused(t, "SFX S Y 0 s\nPFX S Y 0 s .\n", 1, api.ErrText)
}

// P11.1: more bytes than a file may have come ahead of all that stands in it.
func TestManyBytes(t *testing.T) {
	one := "SFX S Y 0 s .\n"
	for _, n := range []int{api.MaxFile - 2, api.MaxFile - 1, api.MaxFile, api.MaxFile + 1, api.MaxFile + 2} {
		for _, s := range []string{one, one + "PFX S Y 0 s .\n", one + "x\n", ""} {
			for _, of := range []string{"\n", "#", "x"} {
				isAsTold(t, s+strings.Repeat(of, n-len(s)))
			}
			isAsTold(t, strings.Repeat("\n", n-len(s))+s)
		}
	}
	isFile(t, one+strings.Repeat("#", api.MaxFile-len(one)), api.Affixes{Rules: rulesOf("SFX S Y 0 s .")})
	isRefused(t, one+strings.Repeat("#", api.MaxFile-len(one)+1), 0, api.ErrBig)
	isRefused(t, strings.Repeat(one, 1<<18), 0, api.ErrBig)
	isRefused(t, strings.Repeat("\n", api.MaxFile-1)+"x", api.MaxFile, api.ErrText)
	isRefused(t, strings.Repeat("\n", api.MaxFile)+"x", 0, api.ErrBig)
	// Bytes are counted, not code points.
	isFile(t, "#"+strings.Repeat("é", api.MaxFile/2-1)+"#", api.Affixes{})
	isRefused(t, "#"+strings.Repeat("é", api.MaxFile/2), 0, api.ErrBig)
}

// someRules is n lines of rules.
func someRules(n int) string { return strings.Repeat("SFX S Y 0 s .\n", n) }

// somePairs is n lines of pairs.
func somePairs(n int) string {
	var b strings.Builder
	for i := range n {
		b.WriteString("CASE " + string(rune(0x4e00+2*i)) + string(rune(0x4e01+2*i)) + "\n")
	}
	return b.String()
}

// P11.1: at most so many rules, and so many pairs; the one number says nothing of the other.
func TestManyLines(t *testing.T) {
	for _, rules := range []int{0, 1, 199, 200, 201, 202, 400, 1000} {
		for _, pairs := range []int{0, 1, 199, 200, 201, 202, 400, 1000} {
			r, p := someRules(rules), somePairs(pairs)
			for _, s := range []string{r + p, p + r, "#\n\n" + r + "\n\n" + p + "\n#", r + p + "#", strings.TrimSuffix(p+r, "\n")} {
				isAsTold(t, s)
				if _, _, e := affix.Parse(s); (e == api.ErrBig) != (rules > 200 || pairs > 200) {
					t.Fatalf("%d rules, %d pairs: error %d", rules, pairs, e)
				}
			}
		}
	}
	isFile(t, someRules(200)+somePairs(200), told(somePairs(200)+someRules(200)).a)
}

// P11.1: too many lines come ahead of lines that are none, and of flags of both ends, wherever these stand.
func TestBigAheadOfAll(t *testing.T) {
	mixed := "SFX T Y 0 s .\nPFX T Y 0 s .\n"
	for _, many := range []string{someRules(201), somePairs(201)} {
		isRefused(t, many+"x\n", 0, api.ErrBig)
		isRefused(t, "x\n"+many, 0, api.ErrBig)
		isRefused(t, mixed+many, 0, api.ErrBig)
		isRefused(t, many+mixed, 0, api.ErrBig)
		isRefused(t, "x\n"+mixed+many+mixed+"x\n", 0, api.ErrBig)
	}
	// The one that is too many may be what is wrong with the flags.
	isRefused(t, someRules(200)+"PFX S Y 0 s .\n", 0, api.ErrBig)
	isRefused(t, someRules(199)+"PFX S Y 0 s .\n", 200, api.ErrFlag)
	isRefused(t, someRules(198)+mixed, 200, api.ErrFlag)
	isRefused(t, someRules(199)+mixed, 0, api.ErrBig)
	// What is no rule's line, and no pair's, is not counted.
	isRefused(t, someRules(200)+"SFX S Y 0 s\n", 201, api.ErrText)
	isRefused(t, strings.Repeat("SFX S Y 0 s\n", 300)+someRules(200), 1, api.ErrText)
	isRefused(t, somePairs(200)+somePairs(200), 201, api.ErrText)
	isRefused(t, strings.Repeat("CASE Éé\n", 300), 2, api.ErrText)
	isRefused(t, strings.Repeat("CASE aé\n", 300)+somePairs(200), 1, api.ErrText)
	isFile(t, strings.Repeat("#SFX S Y 0 s .\n#CASE Éé\n", 300)+someRules(200), told(someRules(200)).a)
	// A pair that a line ahead forbids is none, and forbids nothing to lines behind it.
	isRefused(t, "CASE Éé\nCASE éÀ\nCASE ÀA\n"+somePairs(198)+"CASE Àà\n", 2, api.ErrText)
	isRefused(t, "CASE Éé\nCASE éÀ\nCASE ÀA\n"+somePairs(199)+"CASE Àà\n", 0, api.ErrBig)
}

// P11.1, Text: rules first, a line each, as rule's Text writes them.
func TestTextTable(t *testing.T) {
	for _, c := range []struct{ file, want string }{
		{"", ""},
		{"\n#\n\n", ""},
		{"SFX S Y y ies [^aeiou]y", "SFX S Y y ies [^aeiou]y\n"},
		{"SFX S Y 0 s [a][.]", "SFX S Y 0 s a[.]\n"},
		{"CASE Éé", "CASE Éé\n"},
		{"CASE Éé\nSFX S Y 0 s .\n#\nCASE 12\nPFX U N un 0 un", "SFX S Y 0 s .\nPFX U N un 0 un\nCASE Éé\nCASE 12\n"},
		{"CASE  #\nSFX S Y # 00 #", "SFX S Y # 00 #\nCASE  #\n"},
		{"SFX S Y \r \t \r\n", "SFX S Y \r \t \r\n"},
	} {
		a, _, e := affix.Parse(c.file)
		if got := affix.Text(a); got != c.want || e != api.OK {
			t.Errorf("Text of what %q says: %q, want %q; error %d", c.file, got, c.want, e)
		}
	}
}

// P11.1, Text: none of the whole, where a rule or a pair has no line, or may not stand there.
func TestNoText(t *testing.T) {
	good := rulesOf("SFX S Y y ies y", "PFX U Y 0 un .")
	pairs := []api.Pair{{Great: 0xc9, Small: 0xe9}, {Great: '1', Small: '2'}}
	isFile(t, "SFX S Y y ies y\nPFX U Y 0 un .\nCASE Éé\nCASE 12", api.Affixes{Rules: good, Pairs: pairs})
	with := func(turn func(*api.Rule)) api.Rule {
		r := ruleOf("SFX S Y y ies y")
		turn(&r)
		return r
	}
	for _, r := range []api.Rule{
		{}, with(func(r *api.Rule) { r.Flag = '1' }), with(func(r *api.Rule) { r.Flag = 'S' + 256 }), with(func(r *api.Rule) { r.Flag = -1 }), with(func(r *api.Rule) { r.Strip = "0" }), with(func(r *api.Rule) { r.Add = "a b" }),
		with(func(r *api.Rule) { r.Add = "\xff" }), with(func(r *api.Rule) { r.Add = strings.Repeat("a", 21) }), with(func(r *api.Rule) { r.Cond = nil }), with(func(r *api.Rule) { r.Cond = []api.Item{set(']')} }),
		with(func(r *api.Rule) { r.Cond = slices.Repeat([]api.Item{{Any: true}}, 9) }), with(func(r *api.Rule) { r.Cond = []api.Item{{Any: true, Set: []int{'y'}}} }),
		// Its flag is one of the other end's.
		with(func(r *api.Rule) { r.Prefix = true }), with(func(r *api.Rule) { r.Flag = 'U' }),
	} {
		hasNoText(t, api.Affixes{Rules: append(slices.Clone(good), r)})
		hasNoText(t, api.Affixes{Rules: append([]api.Rule{r}, good...)})
		hasNoText(t, api.Affixes{Rules: append(slices.Clone(good), r), Pairs: pairs})
	}
	hasNoText(t, api.Affixes{Rules: []api.Rule{{}}})
	for _, p := range []api.Pair{
		{}, {Great: 0xc0, Small: 0xc0}, {Great: 0xc0, Small: 'a'}, {Great: 'Z', Small: 0xc0}, {Great: 0xc0, Small: '\n'}, {Great: '\n', Small: 0xc0}, {Great: '\n', Small: '\n'},
		{Great: 0xc0, Small: -1}, {Great: -1, Small: 0xc0}, {Great: -1 - 0xff, Small: -1 - 0xfe}, {Great: 0xd800, Small: 0xc0}, {Great: 0xc0, Small: 0xdfff}, {Great: 0xc0, Small: utf8.MaxRune + 1}, {Great: math.MaxInt, Small: math.MinInt}, {Great: 1<<32 + 0xc0, Small: 0xe0}, {Great: 0xc0, Small: 1<<32 + 0xe0},
		{Great: 0xe9, Small: 0xc0}, {Great: 0xc0, Small: 0xc9}, {Great: '1', Small: '2'}, {Great: '2', Small: '3'},
	} {
		hasNoText(t, api.Affixes{Pairs: append(slices.Clone(pairs), p)})
		hasNoText(t, api.Affixes{Pairs: append([]api.Pair{p}, pairs...)})
		hasNoText(t, api.Affixes{Rules: good, Pairs: append(slices.Clone(pairs), p)})
	}
	// A code of 0 is one.
	isFile(t, "CASE À\x00", api.Affixes{Pairs: []api.Pair{{Great: 0xc0}}})
	hasNoText(t, api.Affixes{Pairs: []api.Pair{{}}})
}

// P11.1, Text: a line's end within a rule or a pair makes two lines of it, which are not read as that.
func TestNoTextOfLineEnds(t *testing.T) {
	for _, at := range []int{0, 1, 2} {
		for _, part := range []string{"\n", "\n#", "a\n", "a\n#", "\nSFX", "a\nb", "\n\n", "a\n\n#"} {
			r := ruleOf("SFX S Y y ies y")
			switch at {
			case 0:
				r.Strip = part
			case 1:
				r.Add = part
			case 2:
				r.Cond, _ = cond.Parse(part)
			}
			if !rule.Check(r) {
				t.Fatalf("%v has no line", r)
			}
			hasNoText(t, api.Affixes{Rules: []api.Rule{r}})
			hasNoText(t, api.Affixes{Rules: []api.Rule{r, ruleOf("SFX S Y y ies y")}})
			hasNoText(t, api.Affixes{Rules: []api.Rule{ruleOf("SFX S Y y ies y"), r}, Pairs: []api.Pair{{Great: '1', Small: '2'}}})
		}
	}
	// The first of these lines is a rule's, the second one says nothing.
	cut, _ := cond.Parse(".\n#")
	hasNoText(t, api.Affixes{Rules: []api.Rule{{Flag: 'S', Add: "s", Cond: cut}}})
	cut, _ = cond.Parse(".\n")
	hasNoText(t, api.Affixes{Rules: []api.Rule{{Flag: 'S', Add: "s", Cond: cut}}})
}

// P11.1, Text: at most as many rules, pairs, bytes as Parse takes.
func TestTextOfMuch(t *testing.T) {
	for _, n := range []int{1, 199, 200, 201, 500} {
		rules, pairs := slices.Repeat(rulesOf("SFX S Y 0 s ."), n), []api.Pair(nil)
		for i := range n {
			pairs = append(pairs, api.Pair{Great: 0x4e00 + 2*i, Small: 0x4e01 + 2*i})
		}
		for _, a := range []api.Affixes{{Rules: rules}, {Pairs: pairs}, {Rules: rules, Pairs: pairs}} {
			if n > api.MaxRules {
				hasNoText(t, a)
			} else if got := affix.Text(a); got != textOf(a) {
				t.Fatalf("%d rules, %d pairs: %s", len(a.Rules), len(a.Pairs), brief(got))
			}
		}
	}
	// Rules whose conditions are so long that all bytes are taken, and one more.
	head := "SFX S Y 0 s "
	line := head + "[" + strings.Repeat("x", 1000) + "]\n"
	n := api.MaxFile / len(line)
	for more := -1; more <= 1; more++ {
		last := head + "[" + strings.Repeat("x", api.MaxFile-n*len(line)-len(head)-len("[]\n")+more) + "]\n"
		s := strings.Repeat(line, n) + last
		a := api.Affixes{Rules: rulesOf(linesOf(s)...)}
		if len(s) != api.MaxFile+more || textOf(a) != s {
			t.Fatalf("%d bytes", len(s))
		}
		if more > 0 {
			hasNoText(t, a)
			// Parse takes it without the last line's end, but Text ends each line.
			is(t, s[:len(s)-1], reading{a: a})
			continue
		}
		isFile(t, s, a)
	}
	hasNoText(t, api.Affixes{Rules: slices.Repeat([]api.Rule{{}}, 100000)})
	hasNoText(t, api.Affixes{Rules: []api.Rule{{Flag: 'S', Strip: strings.Repeat("a", 1<<20), Cond: []api.Item{set(slices.Repeat([]int{'x'}, 1<<20)...)}}}})
}

// P11.1, Text; P11.2: all small lists of rules and pairs, such as have a text and such as have none.
func TestTextOfSmallFiles(t *testing.T) {
	rules := append(rulesOf("SFX S Y 0 s .", "PFX S N 0 s [ab]", "PFX U Y 0 un é"), api.Rule{}, api.Rule{Flag: 'S', Add: "\n", Cond: []api.Item{{Any: true}}})
	pairs := []api.Pair{{Great: 0xc9, Small: 0xe9}, {Great: 0xe9, Small: 0xc0}, {Great: 0xc0, Small: 0xe0}, {Great: 0xc9, Small: 'e'}, {Great: -1, Small: 0xff}, {Small: '\n'}}
	texts := 0
	for _, r := range lists(2, rules) {
		for _, p := range lists(3, pairs) {
			a := api.Affixes{Rules: r, Pairs: p}
			want := textOf(a)
			if back := told(want); back.e != api.OK || !same(back.a, a) {
				want = ""
			}
			if got := affix.Text(a); got != want {
				t.Fatalf("Text(%v): %q, want %q", a, got, want)
			}
			if want != "" {
				texts++
				isFile(t, want, a)
			}
		}
	}
	// Of no, one and two rules 1, 3 and 7 lists may be a file's, of no, one and two pairs 1, 3 and 2; nothing's text is empty.
	if want := 11*6 - 1; texts != want {
		t.Errorf("%d files have a text, not %d", texts, want)
	}
}

// lists is all lists of at most n of a pool.
func lists[T any](n int, pool []T) [][]T {
	l := [][]T{nil}
	for from := 0; n > 0; n-- {
		to := len(l)
		for _, head := range l[from:to] {
			for _, x := range pool {
				l = append(l, append(slices.Clone(head), x))
			}
		}
		from = to
	}
	return l
}

// R3: what is handed in is not changed, its spare room neither; nil and an empty list are one.
func TestNothingChanged(t *testing.T) {
	whole := rulesOf("SFX S Y y ies [^a]y", "PFX U Y 0 un .", "SFX T N é e [é][ab]")
	for n := range len(whole) + 1 {
		in := api.Affixes{Rules: slices.Clone(whole)[:n], Pairs: append(make([]api.Pair, 0, 3), api.Pair{Great: 0xc9, Small: 0xe9})}
		affix.Text(in)
		if !same(api.Affixes{Rules: in.Rules[:len(whole)]}, api.Affixes{Rules: whole}) || !slices.Equal(in.Pairs[:3], []api.Pair{{Great: 0xc9, Small: 0xe9}, {}, {}}) {
			t.Fatalf("%d rules have changed", n)
		}
	}
	for _, a := range []api.Affixes{{}, {Rules: []api.Rule{}}, {Pairs: []api.Pair{}}, {Rules: []api.Rule{}, Pairs: []api.Pair{}}} {
		hasNoText(t, a)
	}
	a := api.Affixes{Rules: whole[:1], Pairs: []api.Pair{}}
	if got := affix.Text(a); got != "SFX S Y y ies [^a]y\n" {
		t.Errorf("Text with no pair: %q", got)
	}
}

// spoil makes others of all that an answer's lists have room for, but what is within item i of rule n.
func spoil(a api.Affixes, n, i int) {
	for k := range a.Rules[:cap(a.Rules)] {
		r := &a.Rules[:cap(a.Rules)][k]
		for j := range r.Cond[:cap(r.Cond)] {
			if k == n && j == i {
				continue
			}
			item := &r.Cond[:cap(r.Cond)][j]
			for m := range item.Set[:cap(item.Set)] {
				item.Set[:cap(item.Set)][m] = -7
			}
			*item = api.Item{Any: true, Not: true}
		}
		if k != n {
			*r = api.Rule{Flag: -7}
		}
	}
	for k := range a.Pairs[:cap(a.Pairs)] {
		a.Pairs[:cap(a.Pairs)][k] = api.Pair{Great: -7}
	}
}

// R3: what is answered is new memory; no two lists of one answer share any, spare room too.
func TestNothingShared(t *testing.T) {
	s := "SFX S Y y ies [^aeiou]y\nCASE Éé\nSFX S Y 0 s [^y]\nSFX S Y 0 s [^y]\nPFX U Y 0 un [a][bcd][eeeee]f\nCASE 12\nCASE 34\n"
	want := told(s).a
	for n, r := range want.Rules {
		for i, item := range r.Cond {
			one, _, _ := affix.Parse(s)
			other, _, _ := affix.Parse(s)
			spoil(one, n, i)
			got := one.Rules[n].Cond[i]
			if got.Any != item.Any || got.Not != item.Not || !slices.Equal(got.Set, item.Set) {
				t.Fatalf("rule %d, item %d has changed with others: %v", n, i, got)
			}
			if !same(other, want) {
				t.Fatalf("another answer has changed: %v", other)
			}
			isFile(t, s, want)
		}
	}
}

// R4: a call answers the same behind any others.
func TestAgain(t *testing.T) {
	for range 3 {
		isFile(t, "SFX S Y 0 s .\nCASE Éé", api.Affixes{Rules: rulesOf("SFX S Y 0 s ."), Pairs: []api.Pair{{Great: 0xc9, Small: 0xe9}}})
		isFile(t, "PFX S Y 0 s .\nCASE éÉ", api.Affixes{Rules: rulesOf("PFX S Y 0 s ."), Pairs: []api.Pair{{Great: 0xe9, Small: 0xc9}}})
		isRefused(t, "PFX S Y 0 s .\nSFX S Y 0 s .\n", 2, api.ErrFlag)
		isRefused(t, "x", 1, api.ErrText)
		isRefused(t, someRules(201), 0, api.ErrBig)
		hasNoText(t, api.Affixes{Rules: []api.Rule{{}}})
	}
}
