package rule_test

import (
	"math"
	"regexp"
	"slices"
	"strings"
	"testing"
	"unicode/utf8"

	"abecedary/api"
	"abecedary/cond"
	"abecedary/rule"
)

func anyCode() api.Item { return api.Item{Any: true} }

func set(codes ...int) api.Item { return api.Item{Set: codes} }

func not(codes ...int) api.Item { return api.Item{Not: true, Set: codes} }

// items is the items of a condition that is right.
func items(s string) []api.Item {
	l, ok := cond.Parse(s)
	if !ok && s != "" {
		panic("no condition: " + s)
	}
	return l
}

// same tells whether two rules are the same; nil and an empty list are one.
func same(a, b api.Rule) bool {
	return a.Prefix == b.Prefix && a.Flag == b.Flag && a.Cross == b.Cross && a.Strip == b.Strip && a.Add == b.Add &&
		slices.EqualFunc(a.Cond, b.Cond, func(a, b api.Item) bool {
			return a.Any == b.Any && a.Not == b.Not && slices.Equal(a.Set, b.Set)
		})
}

// shape is a rule's line but for what its words say.
var shape = regexp.MustCompile(`(?s)^(PFX|SFX) ([a-zA-Z]) ([YN]) ([^ ]+) ([^ ]+) ([^ ]+)$`)

// told is the rule that a line says by the words of P10.1.
func told(s string) (api.Rule, bool) {
	m := shape.FindStringSubmatch(s)
	if m == nil || !utf8.ValidString(s) {
		return api.Rule{}, false
	}
	l, ok := cond.Parse(m[6])
	if !ok || len(m[4]) > 20 || len(m[5]) > 20 {
		return api.Rule{}, false
	}
	for i := range m {
		if m[i] == "0" {
			m[i] = ""
		}
	}
	return api.Rule{Prefix: m[1] == "PFX", Flag: int(m[2][0]), Cross: m[3] == "Y", Strip: m[4], Add: m[5], Cond: l}, true
}

// isLine holds Parse of a line against its rule, Check and Text of that rule against the line, and P10.3.
func isLine(t *testing.T, s string, want api.Rule) {
	t.Helper()
	got, ok := rule.Parse(s)
	if !ok || !same(got, want) {
		t.Fatalf("Parse(%q): %v %t, want %v", s, got, ok, want)
	}
	if !rule.Check(want) {
		t.Fatalf("Check(%v): no, and %q says it", want, s)
	}
	text := rule.Text(want)
	if head := s[:strings.LastIndex(s, " ")+1]; text != head+cond.Text(want.Cond) {
		t.Fatalf("Text(%v): %q", want, text)
	}
	if again, ok := rule.Parse(text); !ok || !same(again, want) {
		t.Fatalf("Parse(%q): %v %t, want %v", text, again, ok, want)
	}
}

// isNone holds Parse of what is no line.
func isNone(t *testing.T, s string) {
	t.Helper()
	if got, ok := rule.Parse(s); ok || got.Cond != nil || !same(got, api.Rule{}) {
		t.Fatalf("Parse(%q): %v %t", s, got, ok)
	}
}

// isEither holds Parse against the words of P10.1.
func isEither(t *testing.T, s string) {
	t.Helper()
	if want, ok := told(s); ok {
		isLine(t, s, want)
		return
	}
	isNone(t, s)
}

// hasNoLine holds Check and Text of a rule that no line says.
func hasNoLine(t *testing.T, r api.Rule) {
	t.Helper()
	if got := rule.Text(r); got != "" || rule.Check(r) {
		t.Fatalf("%.99q, %.99q, flag %d, %d items: Text %.99q, Check %t", r.Strip, r.Add, r.Flag, len(r.Cond), got, rule.Check(r))
	}
}

// The document's example: city, cities.
func TestExample(t *testing.T) {
	r := api.Rule{Flag: 'S', Cross: true, Strip: "y", Add: "ies", Cond: []api.Item{set('y')}}
	isLine(t, "SFX S Y y ies y", r)
	if got := rule.Text(r); got != "SFX S Y y ies y" {
		t.Errorf("Text: %q", got)
	}
	gives(t, r, "city", "cities")
}

// P10.1: lines and their rules, told by hand.
func TestLines(t *testing.T) {
	isLine(t, "PFX u N 0 un .", api.Rule{Prefix: true, Flag: 'u', Add: "un", Cond: []api.Item{anyCode()}})
	isLine(t, "PFX U Y 0 un .", api.Rule{Prefix: true, Flag: 'U', Cross: true, Add: "un", Cond: []api.Item{anyCode()}})
	isLine(t, "SFX D N e ing [^aeiou]e", api.Rule{Flag: 'D', Strip: "e", Add: "ing", Cond: []api.Item{not('a', 'e', 'i', 'o', 'u'), set('e')}})
	isLine(t, "SFX X Y abc 0 abc", api.Rule{Flag: 'X', Cross: true, Strip: "abc", Cond: []api.Item{set('a'), set('b'), set('c')}})
	isLine(t, "SFX a N 0 0 .", api.Rule{Flag: 'a', Cond: []api.Item{anyCode()}})
	// The condition's 0 is a code point, as it is in a longer word.
	isLine(t, "PFX z N 00 01 0", api.Rule{Prefix: true, Flag: 'z', Strip: "00", Add: "01", Cond: []api.Item{set('0')}})
	isLine(t, "PFX A N 10 é0 [0]", api.Rule{Prefix: true, Flag: 'A', Strip: "10", Add: "é0", Cond: []api.Item{set('0')}})
	// Code points of each length, and signs of conditions, stand for themselves in what goes and comes.
	isLine(t, "SFX Z N é€ 😀 é", api.Rule{Flag: 'Z', Strip: "é€", Add: "😀", Cond: []api.Item{set(0xe9)}})
	isLine(t, "SFX Z N [.] ]^ [[]", api.Rule{Flag: 'Z', Strip: "[.]", Add: "]^", Cond: []api.Item{set('[')}})
}

// P10.1: what stands at each of the six places, and between them.
func TestParseTable(t *testing.T) {
	for _, s := range []string{
		"", " ", "0", "SFX", "SFX S", "SFX S Y", "SFX S Y y", "SFX S Y y ies", "SFX S Y y ies ", "SFX S Y y ies y y", "SFX S Y y ies y ", " SFX S Y y ies y",
		"SFX  S Y y ies y", "SFX S  Y y ies y", "SFX S Y  y ies y", "SFX S Y y  ies y", "SFX S Y y ies  y", "SFX S Y  ies y", "SFX S Y y  y", "SFX S Y   y", "     ", "      ",
		" S Y y ies y", "SFX  Y y ies y", "SFX S  y ies y", "SFX\tS Y y ies y", "SFX\u00a0S Y y ies y", "SFX S Y y ies [ ]", "SFX S Y y ies y.[ a]", "# SFX S Y y ies y",
		"sfx S Y y ies y", "pfx S Y y ies y", "Sfx S Y y ies y", "FX S Y y ies y", "SF S Y y ies y", "SFXX S Y y ies y", "PSFX S Y y ies y", "0 S Y y ies y", "CASE S Y y ies y",
		"SFX 0 Y y ies y", "SFX SS Y y ies y", "SFX é Y y ies y", "SFX @ Y y ies y", "SFX [ Y y ies y", "SFX ` Y y ies y", "SFX { Y y ies y", "SFX \x00 Y y ies y", "SFX \xff Y y ies y", "SFX \U00010041 Y y ies y",
		"SFX S y y ies y", "SFX S n y ies y", "SFX S YN y ies y", "SFX S YY y ies y", "SFX S 0 y ies y", "SFX S y Y ies y", "SFX SY y ies y", "SFXS Y y ies y", "SFX S Yy ies y",
		"SFX S Y y\xff ies y", "SFX S Y \xc3 \xa9 y", "SFX S Y y \xc3 y", "SFX S Y y \xed\xa0\x80 y", "SFX S Y y ies \xff", "SFX S Y y ies [\xff]",
		"SFX S Y y ies [", "SFX S Y y ies ]", "SFX S Y y ies []", "SFX S Y y ies [^]", "SFX S Y y ies .........", "SFX S Y y ies abcdefghi",
	} {
		isNone(t, s)
	}
	// Only the blank parts words.
	isLine(t, "SFX S Y \t\n \u00a0\r \v\f", api.Rule{Flag: 'S', Cross: true, Strip: "\t\n", Add: "\u00a0\r", Cond: []api.Item{set('\v'), set('\f')}})
	isLine(t, "PFX S Y \x00 \ufffd \U0010ffff", api.Rule{Prefix: true, Flag: 'S', Cross: true, Strip: "\x00", Add: "\ufffd", Cond: []api.Item{set(utf8.MaxRune)}})
}

// tuples is all ways to take one of each pool.
func tuples[T any](pools [][]T, visit func([]T)) {
	var l []T
	var more func()
	more = func() {
		if len(l) == len(pools) {
			visit(l)
			return
		}
		for _, x := range pools[len(l)] {
			l = append(l, x)
			more()
			l = l[:len(l)-1]
		}
	}
	more()
}

// texts is all texts of up to n of some.
func texts(n int, of ...string) []string {
	l := []string{""}
	for from := 0; n > 0; n-- {
		to := len(l)
		for _, s := range l[from:to] {
			for _, x := range of {
				l = append(l, s+x)
			}
		}
		from = to
	}
	return l
}

// P10.1, P10.3: right words and wrong ones at all six places.
func TestParseAllPlaces(t *testing.T) {
	tuples([][]string{
		{"PFX", "SFX", "CFX", ""},
		{"a", "Z", "5", "ab", ""},
		{"Y", "N", "y", ""},
		{"0", "y", "é", "00", "", "\xff"},
		{"0", "ies", "\xff", " "},
		{".", "[^b]y", "[.]", "0", "[", ""},
	}, func(words []string) {
		for _, between := range []string{" ", "  ", "\t", ""} {
			isEither(t, strings.Join(words, between))
		}
	})
}

// P10.1, Parse: a line with some bytes put in, taken out or turned at each place.
func TestParseNearLines(t *testing.T) {
	for _, line := range []string{"SFX S Y y ies y", "PFX u N 0 un .", "PFX é Y 00 é [^é]", "SFX Z N é 0 [.]."} {
		for at := range len(line) + 1 {
			for _, s := range []string{"", " ", "0", "S", "Y", "N", "P", "é", "\xff", "[", "]", "\n", "y "} {
				isEither(t, line[:at]+s+line[at:])
				if at < len(line) {
					isEither(t, line[:at]+s+line[at+1:])
				}
			}
			isEither(t, line[:at])
			isEither(t, line[at:])
			isEither(t, line[at:]+line[:at])
		}
	}
}

// P10.1: a flag is a letter from a to z, from A to Z, no other number.
func TestFlags(t *testing.T) {
	good := map[int]bool{}
	for _, flag := range "abcdefghijklmnopqrstuvwxyzABCDEFGHIJKLMNOPQRSTUVWXYZ" {
		good[int(flag)] = true
	}
	numbers := []int{math.MinInt, math.MinInt32, -1, 1 << 32, 1<<32 + 'S', 1<<8 + 'S', 1<<16 + 'S', math.MaxInt, -'S'}
	for flag := -300; flag < 1000; flag++ {
		numbers = append(numbers, flag)
	}
	for _, flag := range numbers {
		r := api.Rule{Flag: flag, Add: "x", Cond: items(".")}
		if good[flag] {
			isLine(t, "SFX "+string(rune(flag))+" N 0 x .", r)
			continue
		}
		hasNoLine(t, r)
		if flag >= 0 && flag <= utf8.MaxRune {
			isNone(t, "SFX "+string(rune(flag))+" N 0 x .")
		}
	}
	for b := range 256 {
		isEither(t, "PFX "+string([]byte{byte(b)})+" Y x 0 .")
	}
}

// P10.1: what goes and what comes has at most 20 bytes, however many code points these are.
func TestTwentyBytes(t *testing.T) {
	for _, of := range []string{"x", "0", "é", "€", "😀"} {
		for n := 1; n < 70; n++ {
			s := strings.Repeat(of, n)
			for _, words := range [][2]string{{s, "ies"}, {"y", s}, {s, s}, {"0", s}, {s, "0"}} {
				line := "SFX S Y " + words[0] + " " + words[1] + " y"
				isEither(t, line)
				if want := len(words[0]) <= 20 && len(words[1]) <= 20; want != parses(line) {
					t.Fatalf("Parse(%q): %t", line, !want)
				}
			}
			r := api.Rule{Flag: 'S', Strip: s, Cond: items(".")}
			if n*len(of) <= 20 && s != "0" != rule.Check(r) {
				t.Fatalf("Check(%v): %t", r, rule.Check(r))
			}
			if n*len(of) > 20 {
				hasNoLine(t, r)
				r.Strip, r.Add = "", s
				hasNoLine(t, r)
			}
		}
	}
	for _, n := range []int{19, 20, 21} {
		s := strings.Repeat("x", n-1) + "é"
		isEither(t, "PFX S Y "+s+" 0 .")
		isEither(t, "PFX S Y 0 "+s+" .")
	}
	long := strings.Repeat("x", 1<<20)
	isNone(t, "SFX S Y "+long+" ies y")
	isNone(t, "SFX S Y y "+long+" y")
	isNone(t, "SFX S Y y ies "+long)
	isNone(t, strings.Repeat(" ", 1<<20))
	hasNoLine(t, api.Rule{Flag: 'S', Strip: long, Cond: items(".")})
}

func parses(s string) bool {
	_, ok := rule.Parse(s)
	return ok
}

// P10.1: a condition has at most MaxCond items, and any number of code points in brackets.
func TestLongConditions(t *testing.T) {
	for _, item := range []string{".", "a", "[ab]", "[^a]", "é"} {
		for n := range 3 * api.MaxCond {
			line := "PFX p N 0 x " + strings.Repeat(item, n)
			isEither(t, line)
			if want := n > 0 && n <= api.MaxCond; want != parses(line) {
				t.Errorf("%d times %q: %t", n, item, !want)
			}
			if n > api.MaxCond {
				hasNoLine(t, api.Rule{Flag: 'p', Cond: slices.Repeat(items(item), n)})
			}
		}
	}
	isEither(t, "SFX S Y y ies ["+strings.Repeat("aé.", 10000)+"]y")
}

// P10.1, Check and Text: what no line says, though each field by itself is near to what one does.
func TestHasNoLine(t *testing.T) {
	good := api.Rule{Flag: 'S', Cross: true, Strip: "y", Add: "ies", Cond: items("y")}
	if !rule.Check(good) {
		t.Fatal("Check of the example: no")
	}
	for _, s := range []string{"0", " ", "a b", " a", "a ", "\xff", "a\xff", "\xc3", "\xed\xa0\x80", "\xf4\x90\x80\x80", strings.Repeat("a", 21), strings.Repeat("é", 11)} {
		strip, add := good, good
		strip.Strip, add.Add = s, s
		hasNoLine(t, strip)
		hasNoLine(t, add)
	}
	for _, l := range [][]api.Item{
		nil, {}, {{}}, {set(' ')}, {set('a', ' ')}, {not(' ')}, {not('a', ' ', 'b')}, {set('a'), set(' '), anyCode()}, {set(']')}, {not(']')}, {set('^', 'a')}, {not()},
		{{Any: true, Not: true}}, {{Any: true, Set: []int{'a'}}}, {set(-1)}, {set(0xd800)}, {set(utf8.MaxRune + 1)}, {set(math.MaxInt)}, {set(1<<32 + 'y')}, {set('y'), set(-1)},
		slices.Repeat([]api.Item{anyCode()}, api.MaxCond+1), slices.Repeat([]api.Item{set('a')}, 100000),
	} {
		r := good
		r.Cond = l
		hasNoLine(t, r)
	}
	hasNoLine(t, api.Rule{})
}

// P10.1, Check and Text: all rules of small pools: a line of the same pools says it, or none does.
func TestTextOfSmallRules(t *testing.T) {
	flags := []int{'a', 'z', 'A', 'Z', '0', 0}
	parts := []string{"", "0", "00", "y", "é", " ", "\xff"}
	conds := [][]api.Item{nil, items("."), items("[^ab]y"), {set('.')}, {set(' ')}, {set(']')}, {set('0')}}
	said := 0
	tuples([][]int{{0, 1}, flags, {0, 1}, order(parts), order(parts), order(conds)}, func(l []int) {
		r := api.Rule{Prefix: l[0] > 0, Flag: l[1], Cross: l[2] > 0, Strip: parts[l[3]], Add: parts[l[4]], Cond: conds[l[5]]}
		line := lineOf(r)
		got, ok := told(line)
		if ok = ok && same(got, r); !ok {
			line = ""
		}
		if text := rule.Text(r); text != line || rule.Check(r) != ok {
			t.Fatalf("%v: Text %q, Check %t, want %q", r, text, rule.Check(r), line)
		}
		if ok {
			said++
			isLine(t, line, r)
		}
	})
	if want := 2 * 4 * 2 * 4 * 4 * 4; said != want {
		t.Errorf("%d rules have lines, not %d", said, want)
	}
}

// order is the places of a list.
func order[T any](l []T) []int {
	var places []int
	for i := range l {
		places = append(places, i)
	}
	return places
}

// lineOf is the only line that could say a rule.
func lineOf(r api.Rule) string {
	line := map[bool]string{true: "PFX ", false: "SFX "}[r.Prefix] + string(rune(r.Flag)) + map[bool]string{true: " Y", false: " N"}[r.Cross]
	for _, s := range []string{r.Strip, r.Add} {
		if s == "" {
			s = "0"
		}
		line += " " + s
	}
	return line + " " + cond.Text(r.Cond)
}

// gives holds Apply against what is to come; empty: nothing.
func gives(t *testing.T, r api.Rule, word, want string) {
	t.Helper()
	if got, ok := rule.Apply(r, word); got != want || ok != (want != "") {
		t.Fatalf("Apply(%v, %q): %q %t, want %q", r, word, got, ok, want)
	}
}

// P10.2, Apply: told by hand, by lines.
func TestApplyTable(t *testing.T) {
	for _, c := range []struct{ line, word, want string }{
		{"SFX S Y y ies y", "city", "cities"},
		{"SFX S Y y ies [^aeiou]y", "city", "cities"},
		{"SFX S Y y ies [^aeiou]y", "day", ""},
		{"SFX S Y 0 s [aeiou]y", "day", "days"},
		{"SFX S Y y ies y", "cities", ""},
		{"SFX S Y y ies y", "yes", ""},
		{"SFX S Y y ies y", "y", "ies"},
		{"SFX S Y y 0 y", "y", ""},
		{"SFX S Y y 0 y", "yy", "y"},
		{"SFX S Y y ies y", "", ""},
		{"SFX S Y 0 s .", "", ""},
		{"PFX U Y 0 un .", "do", "undo"},
		{"PFX U Y 0 un .", "", ""},
		{"PFX U Y 0 un d", "do", "undo"},
		{"PFX U Y 0 un o", "do", ""},
		{"PFX I N in 0 in", "inner", "ner"},
		{"PFX I N in 0 in", "in", ""},
		{"PFX I N in in in", "in", "in"},
		{"PFX I N in IN .", "begin", ""},
		{"PFX I N in IN ...", "in", ""},
		// The condition is asked of the whole word, not of what is left of it.
		{"PFX I N in 0 n", "inner", ""},
		{"PFX I N in 0 inn", "inner", "ner"},
		{"SFX S N y 0 t", "city", ""},
		{"SFX S N y 0 ty", "city", "cit"},
		// It looks at the rule's own end.
		{"PFX P N 0 x ab", "abc", "xabc"},
		{"SFX S N 0 x ab", "abc", ""},
		{"SFX S N 0 x bc", "abc", "abcx"},
		{"PFX P N 0 x bc", "abc", ""},
		// Code points are counted, not bytes.
		{"SFX S N é e é", "café", "cafe"},
		{"SFX S N é e .é", "é", ""},
		{"PFX P N é E é.", "éa", "Ea"},
		{"PFX P N 0 x ..", "é", ""},
		{"PFX P N 0 x ..", "éé", "xéé"},
		// No letter is any other.
		{"SFX S N Y ies .", "city", ""},
		{"SFX S N 0 s Y", "city", ""},
		// Neither the flag nor Cross plays a part.
		{"SFX a N 0 s .", "dog", "dogs"},
		{"SFX a Y 0 s .", "dog", "dogs"},
		// A word may be anything that is right UTF-8.
		{"SFX S N 0 s .", "a b\n", "a b\ns"},
		{"SFX S N 0 s .", "\x00", "\x00s"},
		{"SFX S N 0 s .", "\ufffd", "\ufffds"},
		{"SFX S N 0 s .", "\xff", ""},
		{"SFX S N 0 s .", "dog\xff", ""},
		{"SFX S N 0 s g", "\xffdog", ""},
		{"PFX P N 0 s d", "dog\xc3", ""},
		{"PFX P N d 0 d", "d\xff", ""},
		{"SFX S N 0 s .", "\xed\xa0\x80", ""},
	} {
		r, ok := rule.Parse(c.line)
		if !ok {
			t.Fatalf("Parse(%q): false", c.line)
		}
		gives(t, r, c.word, c.want)
	}
}

// P10.2, Apply: rules that no line says.
func TestApplyAnyRule(t *testing.T) {
	gives(t, api.Rule{}, "word", "word")
	gives(t, api.Rule{Prefix: true, Cond: []api.Item{}}, "word", "word")
	gives(t, api.Rule{}, "", "")
	gives(t, api.Rule{Add: "x"}, "", "x")
	gives(t, api.Rule{Prefix: true, Add: "x"}, "", "x")
	gives(t, api.Rule{Flag: math.MinInt, Strip: "0", Add: "0 0"}, "a0", "a0 0")
	gives(t, api.Rule{Prefix: true, Flag: math.MaxInt, Strip: " ", Add: "0"}, " a", "0a")
	gives(t, api.Rule{Strip: "word", Add: "0"}, "word", "0")
	gives(t, api.Rule{Strip: "longer word"}, "word", "")
	gives(t, api.Rule{Prefix: true, Strip: "word and more"}, "word", "")
	long := strings.Repeat("word", 10000)
	gives(t, api.Rule{Strip: long, Add: "x" + long}, "a"+long, "ax"+long)
	gives(t, api.Rule{Prefix: true, Strip: long, Add: long + "x"}, long+"a", long+"xa")
	// A rule may take a part of a code point, and put what is none.
	gives(t, api.Rule{Strip: "\xa9", Add: "\xaa"}, "aé", "aê")
	gives(t, api.Rule{Strip: "\xa9"}, "aé", "a\xc3")
	gives(t, api.Rule{Prefix: true, Strip: "\xc3", Add: "\xff"}, "éa", "\xff\xa9a")
	gives(t, api.Rule{Add: "\xff"}, "a", "a\xff")
	gives(t, api.Rule{Prefix: true, Strip: "\xff", Add: "x"}, "\xffa", "")
	gives(t, api.Rule{Strip: "\xff", Add: "x"}, "a\xff", "")
	gives(t, api.Rule{Add: "x", Cond: []api.Item{set('a', ' ', ']', -1), not(math.MaxInt)}}, " b", " bx")
	gives(t, api.Rule{Add: "x", Cond: []api.Item{set('a', ' ', ']', -1), not('b')}}, " b", "")
	gives(t, api.Rule{Add: "x", Cond: []api.Item{not()}}, "b", "bx")
	gives(t, api.Rule{Add: "x", Cond: []api.Item{set()}}, "b", "")
	gives(t, api.Rule{Add: "x", Cond: []api.Item{set(-1 - 0xff), anyCode()}}, "\xffb", "")
	gives(t, api.Rule{Add: "x", Cond: slices.Repeat([]api.Item{anyCode()}, 100)}, strings.Repeat("é", 100), strings.Repeat("é", 100)+"x")
	gives(t, api.Rule{Add: "x", Cond: slices.Repeat([]api.Item{anyCode()}, 100)}, strings.Repeat("é", 99), "")
}

// codesOf is the code points of right UTF-8.
func codesOf(s string) []int {
	var l []int
	for _, r := range s {
		l = append(l, int(r))
	}
	return l
}

// holds tells whether a rule's condition holds of a word that is right UTF-8.
func holds(r api.Rule, word string) bool {
	if r.Prefix {
		return cond.Starts(r.Cond, codesOf(word))
	}
	return cond.Ends(r.Cond, codesOf(word))
}

// made is what comes of a word by the words of P10.2: the word is cut at every place.
func made(r api.Rule, word string) string {
	if !utf8.ValidString(word) || !holds(r, word) {
		return ""
	}
	for at := range len(word) + 1 {
		if r.Prefix && word[:at] == r.Strip {
			return r.Add + word[at:]
		}
		if !r.Prefix && word[at:] == r.Strip {
			return word[:at] + r.Add
		}
	}
	return ""
}

// madeByBoth is what comes of a word by two rules by the words of P10.2: the word is cut at every two places.
func madeByBoth(p, s api.Rule, word string) string {
	if !p.Prefix || s.Prefix || !p.Cross || !s.Cross || made(p, word) == "" || made(s, word) == "" {
		return ""
	}
	for to := range len(word) + 1 {
		for from := range to + 1 {
			if word[:from] == p.Strip && word[to:] == s.Strip {
				return p.Add + word[from:to] + s.Add
			}
		}
	}
	return ""
}

// someRules is rules of small pools.
func someRules(strips, adds, conds []string) []api.Rule {
	var l []api.Rule
	tuples([][]string{strips, adds, conds}, func(words []string) {
		l = append(l, api.Rule{Strip: words[0], Add: words[1], Cond: items(words[2])})
	})
	return l
}

// P10.2, Apply: small rules of all small words.
func TestApplySmall(t *testing.T) {
	words := append(texts(4, "a", "b", "é"), "\xff", "a\xff", "\xffa", "\xc3", "\xa9a", "ab\xc3")
	for _, r := range someRules(append(texts(2, "a", "b", "é"), "\xc3", "\xa9", "aba", "\xff"), []string{"", "a", "xé", "\xff"}, []string{"", ".", "a", "[^a]", "ab", ".b", "[éa]..", "...."}) {
		for _, word := range words {
			gives(t, r, word, made(r, word))
			r.Prefix = !r.Prefix
			gives(t, r, word, made(r, word))
		}
	}
}

// give holds Both against what is to come; empty: nothing.
func give(t *testing.T, p, s api.Rule, word, want string) {
	t.Helper()
	if got, ok := rule.Both(p, s, word); got != want || ok != (want != "") {
		t.Fatalf("Both(%v, %v, %q): %q %t, want %q", p, s, word, got, ok, want)
	}
}

// P10.2, Both: told by hand, by lines.
func TestBothTable(t *testing.T) {
	for _, c := range []struct{ p, s, word, want string }{
		{"PFX U Y 0 un .", "SFX D Y 0 ed .", "load", "unloaded"},
		{"PFX U Y 0 un .", "SFX D Y e ed e", "tie", "untied"},
		{"PFX I Y in out in", "SFX S Y y ies y", "inity", "outities"},
		{"PFX U Y 0 0 .", "SFX D Y 0 0 .", "do", "do"},
		// Each by its own condition, of the word as it is.
		{"PFX U Y 0 un l", "SFX D Y 0 ed d", "load", "unloaded"},
		{"PFX U Y 0 un u", "SFX D Y 0 ed .", "load", ""},
		{"PFX U Y 0 un .", "SFX D Y 0 ed e", "load", ""},
		{"PFX U Y l un o", "SFX D Y 0 ed .", "load", ""},
		{"PFX U Y l un .", "SFX D Y 0 ed load", "load", "unoaded"},
		{"PFX U Y 0 un loa", "SFX D Y d ed .", "load", "unloaed"},
		// One that does not apply.
		{"PFX U Y x un .", "SFX D Y 0 ed .", "load", ""},
		{"PFX U Y 0 un .", "SFX D Y x ed .", "load", ""},
		// One has Cross, both are of one end, they are handed in the other way round.
		{"PFX U N 0 un .", "SFX D Y 0 ed .", "load", ""},
		{"PFX U Y 0 un .", "SFX D N 0 ed .", "load", ""},
		{"PFX U N 0 un .", "SFX D N 0 ed .", "load", ""},
		{"SFX D Y 0 ed .", "PFX U Y 0 un .", "load", ""},
		{"PFX U Y 0 un .", "PFX D Y 0 ed .", "load", ""},
		{"SFX U Y 0 un .", "SFX D Y 0 ed .", "load", ""},
		// The two Strips side by side, and one in the other.
		{"PFX P Y ab x .", "SFX S Y cd y .", "abcd", "xy"},
		{"PFX P Y ab x .", "SFX S Y cd 0 .", "abcd", "x"},
		{"PFX P Y ab 0 .", "SFX S Y cd y .", "abcd", "y"},
		{"PFX P Y ab 0 .", "SFX S Y cd 0 .", "abcd", ""},
		{"PFX P Y ab 0 .", "SFX S Y cd 0 .", "ab-cd", "-"},
		{"PFX P Y ab x .", "SFX S Y bc y .", "abc", ""},
		{"PFX P Y ab x .", "SFX S Y bc y .", "abbc", "xy"},
		{"PFX P Y aa x .", "SFX S Y aa y .", "aaa", ""},
		{"PFX P Y aa x .", "SFX S Y aa y .", "aaaa", "xy"},
		{"PFX P Y aa x .", "SFX S Y aa y .", "aa", ""},
		// Of what is left, bytes are counted.
		{"PFX P Y é x .", "SFX S Y é y .", "é", ""},
		{"PFX P Y é x .", "SFX S Y é y .", "éé", "xy"},
		// One alone makes nothing of the word, and so it does not apply.
		{"PFX P Y ab 0 .", "SFX S Y 0 y .", "ab", ""},
		{"PFX P Y 0 x .", "SFX S Y ab 0 .", "ab", ""},
		{"PFX P Y 0 x .", "SFX S Y 0 y .", "", ""},
		{"PFX U Y 0 un .", "SFX D Y 0 ed .", "load\xff", ""},
		{"PFX U Y 0 un .", "SFX D Y 0 ed .", "\xffload", ""},
		{"PFX U Y 0 un l", "SFX D Y 0 ed d", "lo\xffad", ""},
		// The two may have one flag, or not.
		{"PFX A Y 0 un .", "SFX A Y 0 ed .", "load", "unloaded"},
	} {
		p, ok := rule.Parse(c.p)
		s, okay := rule.Parse(c.s)
		if !ok || !okay {
			t.Fatalf("%q, %q: no lines", c.p, c.s)
		}
		give(t, p, s, c.word, c.want)
	}
}

// P10.2, Both: rules that no line says.
func TestBothAnyRules(t *testing.T) {
	give(t, api.Rule{}, api.Rule{}, "word", "")
	give(t, api.Rule{Prefix: true}, api.Rule{}, "word", "")
	give(t, api.Rule{Prefix: true, Cross: true}, api.Rule{Cross: true}, "word", "word")
	give(t, api.Rule{Prefix: true, Cross: true}, api.Rule{Cross: true}, "", "")
	give(t, api.Rule{Prefix: true, Cross: true, Add: "a"}, api.Rule{Cross: true, Add: "b"}, "", "ab")
	give(t, api.Rule{Prefix: true, Cross: true, Add: "a"}, api.Rule{Cross: true}, "", "")
	give(t, api.Rule{Prefix: true, Cross: true, Flag: -1, Strip: "0", Add: "\xff"}, api.Rule{Cross: true, Flag: math.MaxInt, Strip: " ", Add: "0"}, "0 ", "\xff0")
	give(t, api.Rule{Prefix: true, Cross: true, Strip: "\xc3", Add: "x"}, api.Rule{Cross: true, Strip: "\xa9", Add: "y"}, "é", "xy")
	give(t, api.Rule{Prefix: true, Cross: true, Strip: "\xc3", Add: "x"}, api.Rule{Cross: true, Strip: "é", Add: "y"}, "é", "")
	give(t, api.Rule{Prefix: true, Cross: true, Cond: []api.Item{set(-1)}}, api.Rule{Cross: true}, "word", "")
	give(t, api.Rule{Prefix: true, Cross: true}, api.Rule{Cross: true, Cond: []api.Item{set()}}, "word", "")
	long := strings.Repeat("x", 1<<16)
	give(t, api.Rule{Prefix: true, Cross: true, Strip: long, Add: "a"}, api.Rule{Cross: true, Strip: long, Add: "b"}, long+long, "ab")
	give(t, api.Rule{Prefix: true, Cross: true, Strip: long, Add: "a"}, api.Rule{Cross: true, Strip: long, Add: "b"}, long+long[1:], "")
}

// P10.2, Both: small pairs of all small words.
func TestBothSmall(t *testing.T) {
	words := append(texts(4, "a", "é"), "\xff", "a\xffa", "\xc3")
	rules := someRules(append(texts(2, "a", "é"), "\xc3", "\xa9"), []string{"", "x"}, []string{"", "a", "[^a]", "..", "é.a"})
	for _, p := range rules {
		p.Prefix, p.Cross = true, true
		for _, s := range rules {
			s.Cross = true
			for _, word := range words {
				give(t, p, s, word, madeByBoth(p, s, word))
			}
		}
	}
}

// P10.2, Both: of two rules of all ends, with Cross and without, only a prefix and a suffix go together, in this order.
func TestBothEnds(t *testing.T) {
	tuples([][]bool{{false, true}, {false, true}, {false, true}, {false, true}}, func(l []bool) {
		p, s := api.Rule{Prefix: l[0], Cross: l[1], Add: "x"}, api.Rule{Prefix: l[2], Cross: l[3], Add: "y"}
		want := ""
		if l[0] && l[1] && !l[2] && l[3] {
			want = "xwordy"
		}
		give(t, p, s, "word", want)
	})
}

// spacious is a rule whose lists have spare room behind them.
func spacious(r api.Rule) api.Rule {
	var l []api.Item
	for _, item := range r.Cond {
		item.Set = append(make([]int, 0, len(item.Set)+2), item.Set...)
		l = append(l, item)
	}
	r.Cond = append(make([]api.Item, 0, len(l)+2), l...)
	return r
}

// R3: what is handed in is not changed, its spare room neither.
func TestNothingChanged(t *testing.T) {
	for _, l := range [][]api.Item{items("y"), items("[^ab]y"), items("[bab].[é]"), {set(']', 'a')}, {set(3, 1, 2), not()}, {}} {
		for _, prefix := range []bool{true, false} {
			r := api.Rule{Prefix: prefix, Flag: 'S', Cross: true, Strip: "y", Add: "ies", Cond: l}
			in, other := spacious(r), spacious(api.Rule{Prefix: !prefix, Cross: true, Cond: l})
			rule.Check(in)
			rule.Text(in)
			rule.Apply(in, "aby")
			rule.Both(in, other, "yaby")
			rule.Both(other, in, "yaby")
			for _, got := range []api.Rule{in, other} {
				spare := got.Cond[len(l) : len(l)+2]
				if !slices.EqualFunc(spare, make([]api.Item, 2), func(a, b api.Item) bool { return !a.Any && !a.Not && a.Set == nil }) {
					t.Fatalf("the spare room of %v has changed", got)
				}
				for _, item := range got.Cond {
					if !slices.Equal(item.Set[len(item.Set):cap(item.Set)], make([]int, 2)) {
						t.Fatalf("the spare room of %v has changed", item)
					}
				}
			}
			if !same(in, r) || !same(other, api.Rule{Prefix: !prefix, Cross: true, Cond: l}) {
				t.Fatalf("%v is %v now, and %v", r, in, other)
			}
		}
	}
}

// R3: what is answered is new memory; no two lists of one answer share any, spare room too.
func TestNothingShared(t *testing.T) {
	for _, line := range []string{"SFX S Y y ies y", "SFX S Y y ies [^aeiou]y", "PFX p N 0 x [ab][cd]e", "PFX p N 0 x [aaaaa][bbbbb]cdef[^g]h"} {
		want, _ := told(line)
		for i := range want.Cond {
			r, _ := rule.Parse(line)
			other, _ := rule.Parse(line)
			room := r.Cond[i].Set[:cap(r.Cond[i].Set)]
			for k := range room {
				room[k] = -7
			}
			r.Cond[i] = want.Cond[i]
			for k := range r.Cond[len(r.Cond):cap(r.Cond)] {
				r.Cond[:cap(r.Cond)][len(r.Cond)+k] = set(-7)
			}
			if !same(r, want) || !same(other, want) {
				t.Fatalf("%q: the rule has changed with item %d: %v, %v", line, i, r, other)
			}
		}
		isLine(t, line, want)
	}
}

// R4: a call answers the same behind any others.
func TestAgain(t *testing.T) {
	r, p := api.Rule{Flag: 'S', Cross: true, Strip: "y", Add: "ies", Cond: items("y")}, api.Rule{Prefix: true, Flag: 'u', Cross: true, Add: "un", Cond: items(".")}
	for range 3 {
		isLine(t, "SFX S Y y ies y", r)
		isLine(t, "PFX u Y 0 un .", p)
		isNone(t, "SFX S Y y ies")
		gives(t, r, "city", "cities")
		gives(t, r, "day\xff", "")
		gives(t, p, "city", "uncity")
		give(t, p, r, "city", "uncities")
		give(t, r, p, "city", "")
	}
}
