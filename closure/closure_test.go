package closure_test

import (
	"math"
	"slices"
	"strconv"
	"strings"
	"testing"

	"abecedary/api"
	"abecedary/closure"
	"abecedary/cond"
	"abecedary/rule"
)

// of is an entry: a word, and its flags as letters.
func of(word, flags string) api.Entry {
	e := api.Entry{Word: word}
	for _, flag := range []byte(flags) {
		e.Flags = append(e.Flags, int(flag))
	}
	return e
}

// ruled is the rules of some lines.
func ruled(lines ...string) []api.Rule {
	var l []api.Rule
	for _, line := range lines {
		r, ok := rule.Parse(line)
		if !ok {
			panic("no rule: " + line)
		}
		l = append(l, r)
	}
	return l
}

// inOrder is texts rising by bytes, each once.
func inOrder(l []string) []string {
	l = slices.Clone(l)
	slices.SortFunc(l, func(a, b string) int { return slices.Compare([]byte(a), []byte(b)) })
	return slices.Compact(l)
}

// has tells whether an entry has a rule's flag.
func has(e api.Entry, r api.Rule) bool {
	for _, flag := range e.Flags {
		if flag == r.Flag {
			return true
		}
	}
	return false
}

// told is an entry's forms by the words of P13.1.
func told(rules []api.Rule, e api.Entry) []string {
	l := []string{e.Word}
	for _, r := range rules {
		if form, ok := rule.Apply(r, e.Word); ok && has(e, r) {
			l = append(l, form)
		}
		for _, s := range rules {
			if form, ok := rule.Both(r, s, e.Word); ok && has(e, r) && has(e, s) {
				l = append(l, form)
			}
		}
	}
	return inOrder(l)
}

// brief is the beginning of a list for a message.
func brief(l []string) string {
	var b strings.Builder
	for i, s := range l {
		if i == 12 {
			b.WriteString(" ..")
			break
		}
		if len(s) > 60 {
			s = s[:60] + ".."
		}
		b.WriteString(" " + strconv.Quote(s))
	}
	return strconv.Itoa(len(l)) + ":" + b.String()
}

// makes holds Forms of an entry, and All of it alone.
func makes(t *testing.T, rules []api.Rule, e api.Entry, want ...string) {
	t.Helper()
	if got := closure.Forms(rules, e); !slices.Equal(got, want) {
		t.Fatalf("Forms(%v, %q %v): %s, want %s", rules, e.Word, e.Flags, brief(got), brief(want))
	}
	makesAll(t, rules, []api.Entry{e}, want)
}

// makesAll holds All of entries.
func makesAll(t *testing.T, rules []api.Rule, l []api.Entry, want []string) {
	t.Helper()
	if got, e := closure.All(rules, l); e != api.OK || !slices.Equal(got, want) {
		t.Fatalf("All(%v, %v): error %d, %s, want %s", rules, l, e, brief(got), brief(want))
	}
}

// isBig holds All of entries that have too many forms.
func isBig(t *testing.T, rules []api.Rule, l []api.Entry) {
	t.Helper()
	if got, e := closure.All(rules, l); e != api.ErrBig || got != nil {
		t.Fatalf("%d rules, %d entries: error %d, %s, want error %d", len(rules), len(l), e, brief(got), api.ErrBig)
	}
}

// areAsTold holds Forms of each entry, and All of them, against the words of P13.1.
func areAsTold(t *testing.T, rules []api.Rule, l []api.Entry) {
	t.Helper()
	var all []string
	for _, e := range l {
		want := told(rules, e)
		makes(t, rules, e, want...)
		all = append(all, want...)
	}
	makesAll(t, rules, l, inOrder(all))
}

// The document's example: city/S with the rule of layer 10.
func TestExample(t *testing.T) {
	makes(t, ruled("SFX S Y y ies y"), of("city", "S"), "cities", "city")
}

// P13.1, Forms: told by hand.
func TestFormsTable(t *testing.T) {
	for _, c := range []struct {
		rules []api.Rule
		e     api.Entry
		want  []string
	}{
		{nil, of("city", ""), []string{"city"}},
		{nil, of("city", "SU"), []string{"city"}},
		{ruled("SFX S Y 0 s ."), of("cat", ""), []string{"cat"}},
		{ruled("SFX S Y 0 s ."), of("cat", "s"), []string{"cat"}},
		{ruled("SFX S Y 0 s ."), of("cat", "S"), []string{"cat", "cats"}},
		{ruled("SFX S N 0 s ."), of("cat", "S"), []string{"cat", "cats"}},
		{ruled("PFX U N 0 un ."), of("do", "U"), []string{"do", "undo"}},
		{ruled("PFX a N 0 un ."), of("do", "ba"), []string{"do", "undo"}},
		// Of rules with one flag each one that applies.
		{ruled("SFX S Y 0 s [^y]", "SFX S Y y ies y", "SFX S Y 0 es x"), of("city", "S"), []string{"cities", "city"}},
		{ruled("SFX S Y 0 s [^y]", "SFX S Y y ies y", "SFX S Y 0 es x"), of("fox", "S"), []string{"fox", "foxes", "foxs"}},
		// One at each end, together.
		{ruled("PFX U Y 0 un .", "SFX D Y 0 ed ."), of("load", "UD"), []string{"load", "loaded", "unload", "unloaded"}},
		{ruled("SFX D Y 0 ed .", "PFX U Y 0 un ."), of("load", "DU"), []string{"load", "loaded", "unload", "unloaded"}},
		{ruled("PFX U Y 0 un .", "SFX D Y 0 ed ."), of("load", "U"), []string{"load", "unload"}},
		{ruled("PFX U Y 0 un .", "SFX D Y 0 ed ."), of("load", "D"), []string{"load", "loaded"}},
		// Not together, unless both are Cross.
		{ruled("PFX U N 0 un .", "SFX D Y 0 ed ."), of("load", "UD"), []string{"load", "loaded", "unload"}},
		{ruled("PFX U Y 0 un .", "SFX D N 0 ed ."), of("load", "UD"), []string{"load", "loaded", "unload"}},
		{ruled("PFX U N 0 un .", "SFX D N 0 ed ."), of("load", "UD"), []string{"load", "loaded", "unload"}},
		{ruled("PFX U Y 0 un .", "SFX D N 0 ed .", "SFX D Y 0 ing ."), of("load", "UD"), []string{"load", "loaded", "loading", "unload", "unloading"}},
		// Two of one end do not come together, and nothing is made of a form.
		{ruled("SFX D Y 0 ed .", "SFX S Y 0 s ."), of("load", "DS"), []string{"load", "loaded", "loads"}},
		{ruled("PFX U Y 0 un .", "PFX R Y 0 re ."), of("load", "UR"), []string{"load", "reload", "unload"}},
		{ruled("SFX A Y 0 b a", "SFX A Y 0 c b"), of("a", "A"), []string{"a", "ab"}},
		{ruled("PFX A Y 0 b a", "SFX A Y 0 c b"), of("a", "A"), []string{"a", "ba"}},
		{ruled("PFX A Y 0 x .", "PFX B Y 0 y .", "SFX C Y 0 z ."), of("a", "ABC"), []string{"a", "az", "xa", "xaz", "ya", "yaz"}},
		{ruled("PFX A Y 0 x .", "SFX B Y 0 y .", "SFX C Y 0 z ."), of("a", "ABC"), []string{"a", "ay", "az", "xa", "xay", "xaz"}},
		// Both rules look at the word as it is.
		{ruled("PFX U Y 0 un l", "SFX D Y 0 ed d"), of("load", "UD"), []string{"load", "loaded", "unload", "unloaded"}},
		{ruled("PFX U Y 0 un l", "SFX D Y 0 ed e"), of("load", "UD"), []string{"load", "unload"}},
		{ruled("PFX U Y l un .", "SFX D Y 0 ed load"), of("load", "UD"), []string{"load", "loaded", "unoad", "unoaded"}},
		// A word too short to lose both: each alone still applies.
		{ruled("PFX P Y ab x .", "SFX S Y bc y ."), of("abc", "PS"), []string{"abc", "ay", "xc"}},
		{ruled("PFX P Y ab x .", "SFX S Y bc y ."), of("abbc", "PS"), []string{"aby", "abbc", "xbc", "xy"}},
		// What is made of nothing: no form.
		{ruled("PFX P Y ab 0 .", "SFX S Y b 0 ."), of("ab", "PS"), []string{"a", "ab"}},
		{ruled("PFX P Y ab 0 .", "SFX S Y 0 y ."), of("ab", "PS"), []string{"ab", "aby"}},
		{ruled("PFX P Y a 0 .", "SFX S Y b 0 ."), of("ab", "PS"), []string{"a", "ab", "b"}},
		// A form that comes in more than one way is there once, also the word.
		{ruled("SFX S Y 0 s .", "SFX S Y 0 s .", "SFX T N 0 s a"), of("a", "ST"), []string{"a", "as"}},
		{ruled("SFX S Y 0 0 .", "PFX P Y 0 0 ."), of("a", "SP"), []string{"a"}},
		{ruled("SFX S Y a a .", "PFX P Y a a ."), of("aba", "SP"), []string{"aba"}},
		{ruled("SFX S Y 0 a .", "PFX P Y 0 a ."), of("a", "SP"), []string{"a", "aa", "aaa"}},
		// A rule is there twice, once with Cross: that one goes together.
		{ruled("PFX P Y 0 x .", "SFX S N 0 y .", "SFX S Y 0 y ."), of("a", "PS"), []string{"a", "ay", "xa", "xay"}},
		{ruled("PFX P Y 0 x .", "SFX S Y 0 y .", "SFX S N 0 y ."), of("a", "PS"), []string{"a", "ay", "xa", "xay"}},
		// One with the same ends, one of which does not apply.
		{ruled("PFX P Y 0 x b", "PFX P Y 0 x a", "SFX S Y 0 y .", "SFX S Y 0 y b"), of("a", "PS"), []string{"a", "ay", "xa", "xay"}},
		// What goes, or comes, may be the same, and the other not.
		{ruled("PFX P Y 0 x .", "PFX P Y a x .", "SFX S Y 0 y .", "SFX S Y c y ."), of("abc", "PS"), []string{"aby", "abc", "abcy", "xaby", "xabc", "xabcy", "xby", "xbc", "xbcy"}},
		{ruled("PFX P Y a x .", "PFX P Y a y .", "SFX S Y c y .", "SFX S Y c z ."), of("abc", "PS"), []string{"aby", "abc", "abz", "xby", "xbc", "xbz", "yby", "ybc", "ybz"}},
		// A flag that is there more than once is a flag.
		{ruled("PFX U Y 0 un .", "SFX D Y 0 ed ."), of("load", "UDDUU"), []string{"load", "loaded", "unload", "unloaded"}},
		// By bytes: great letters ahead of small ones, a beginning ahead of what it begins, code points behind all of ASCII.
		{ruled("SFX S Y 0 B .", "SFX S Y 0 a .", "SFX S Y 0 é .", "SFX S Y 0 😀 .", "SFX S Y 0 \uffff .", "SFX S Y 0 ab .", "SFX S Y 0 z .", "SFX S Y a 0 .", "SFX S Y a 一 ."), of("ba", "S"),
			[]string{"b", "ba", "baB", "baa", "baab", "baz", "baé", "ba\uffff", "ba😀", "b一"}},
		// A word's code points are what a condition is about.
		{ruled("SFX S Y é ée [^a]é", "PFX P Y 0 ü ..", "PFX P Y 0 ö ..."), of("né", "SP"), []string{"né", "née", "üné", "ünée"}},
	} {
		makes(t, c.rules, c.e, inOrder(c.want)...)
		if got := told(c.rules, c.e); !slices.Equal(got, inOrder(c.want)) {
			t.Fatalf("told(%v, %v): %s, want %s", c.rules, c.e, brief(got), brief(c.want))
		}
	}
}

// P13.1, Forms: the order, byte by byte.
func TestRising(t *testing.T) {
	var rules []api.Rule
	for c := range 256 {
		rules = append(rules, api.Rule{Flag: 'S', Add: string([]byte{byte(c * 77)})})
	}
	got := closure.Forms(rules, of("a", "S"))
	if len(got) != 257 || got[0] != "a" {
		t.Fatalf("%s", brief(got))
	}
	for c := range 256 {
		if got[c+1] != "a"+string([]byte{byte(c)}) {
			t.Fatalf("form %d: %q", c+1, got[c+1])
		}
	}
}

// P13.1, Forms: words that no list has.
func TestAnyWord(t *testing.T) {
	both := ruled("PFX P Y 0 x .", "SFX S Y 0 y .")
	makes(t, both, of("", "PS"), "")
	makes(t, both, of("\xff", "PS"), "\xff")
	makes(t, both, of("a\xff", "PS"), "a\xff")
	makes(t, both, of("\xc3", "PS"), "\xc3")
	makes(t, both, of(" ", "PS"), " ", " y", "x ", "x y")
	makes(t, both, of("a/P#", "PS"), inOrder([]string{"a/P#", "a/P#y", "xa/P#", "xa/P#y"})...)
	makes(t, both, of("\x00\n", "PS"), inOrder([]string{"\x00\n", "\x00\ny", "x\x00\n", "x\x00\ny"})...)
	// Of no items each word begins and ends so, the empty one too.
	free := []api.Rule{{Prefix: true, Flag: 'P', Cross: true, Add: "x"}, {Flag: 'S', Cross: true, Add: "y"}}
	makes(t, free, of("", "PS"), "", "x", "xy", "y")
	makes(t, free, of("", ""), "")
	makes(t, free, of("\xff", "PS"), "\xff")
	long := strings.Repeat("é", 1<<15)
	makes(t, both, of(long, "PS"), inOrder([]string{long, long + "y", "x" + long, "x" + long + "y"})...)
}

// P13.1, Forms: rules that no line says, flags that are no letters.
func TestAnyRules(t *testing.T) {
	for _, flag := range []int{0, -1, 1, '/', 0xe9, 'S' + 256, math.MaxInt, math.MinInt} {
		rules := []api.Rule{{Flag: flag, Add: "y", Cross: true}, {Flag: flag, Prefix: true, Add: "\xff", Cross: true}, {Flag: 'S', Add: "z"}}
		makes(t, rules, api.Entry{Word: "a", Flags: []int{flag}}, "a", "ay", "\xffa", "\xffay")
		makes(t, rules, api.Entry{Word: "a", Flags: []int{flag, 'S', flag}}, "a", "ay", "az", "\xffa", "\xffay")
		makes(t, rules, api.Entry{Word: "a", Flags: []int{flag ^ 1, flag ^ 2}}, "a")
		makes(t, rules, of("a", ""), "a")
	}
	long := strings.Repeat("x", 1<<12)
	areAsTold(t, []api.Rule{
		{Flag: 'S', Strip: "0", Add: "0"}, {Flag: 'S', Strip: " ", Cross: true}, {Flag: 'S', Prefix: true, Strip: "\xc3", Cross: true}, {Flag: 'S', Strip: "\xa9", Add: "\xaa", Cross: true},
		{Flag: 'S', Add: long, Cross: true}, {Flag: 'S', Prefix: true, Add: long, Cross: true}, {Flag: 'S', Add: "n", Cond: []api.Item{{}}}, {Flag: 'S', Add: "m", Cond: []api.Item{{Not: true}}},
		{Flag: 'S', Add: "l", Cond: slices.Repeat([]api.Item{{Any: true}}, 9)}, {Flag: 'S', Add: "k", Cond: []api.Item{{Set: []int{-1, 'c'}}}},
	}, []api.Entry{of("é", "S"), of("abc", "S"), of("0", "S"), of(" ", "S"), of("", "S"), of("\xff", "S"), of("123456789", "S"), of(long, "S")})
}

// lists is all lists of at most n of a pool.
func lists[T any](n int, pool []T) [][]T {
	l := [][]T{nil}
	for from := 0; n > 0; n-- {
		to := len(l)
		for _, head := range l[from:to] {
			for _, x := range pool {
				l = append(l, append(slices.Clone(head), x))
			}
		}
		from = to
	}
	return l
}

// P13.1: all lists of a few rules, of entries with all flags.
func TestAllSmall(t *testing.T) {
	pool := ruled("PFX a Y 0 x .", "PFX a Y a x .", "PFX b N 0 x .", "PFX b Y ab 0 ab", "SFX a Y 0 x .", "SFX b Y b y [^b]b", "SFX c Y ab 0 .", "SFX c N 0 y .", "SFX c Y 0 0 .")
	var entries []api.Entry
	for _, word := range []string{"", "a", "ab", "aab", "aba", "b", "é", "a\xff"} {
		for _, flags := range []string{"", "a", "b", "c", "ab", "ca", "cb", "bac", "aca"} {
			entries = append(entries, of(word, flags))
		}
	}
	for _, rules := range lists(3, pool) {
		areAsTold(t, rules, entries)
	}
}

// mixer answers numbers without a pattern, always the same ones.
type mixer uint64

func (m *mixer) below(n int) int {
	*m = *m*6364136223846793005 + 1442695040888963407
	return int(*m>>33) % n
}

// one is one of some.
func one[T any](m *mixer, of ...T) T { return of[m.below(len(of))] }

// rules is up to n rules.
func (m *mixer) rules(n int) []api.Rule {
	var l []api.Rule
	for range m.below(n + 1) {
		items, _ := cond.Parse(one(m, "", ".", "a", "[^a]", "[ab]", "b.", "é", "...."))
		l = append(l, api.Rule{Prefix: m.below(2) > 0, Cross: m.below(3) > 0, Flag: one[int](m, 'S', 'T', 'U', 'V', 0, -1),
			Strip: one(m, "", "", "a", "b", "ab", "é", "\xff", "aab"), Add: one(m, "", "a", "b", "ab", "é", "\xff", "ba"), Cond: items})
	}
	return l
}

// entries is up to n entries.
func (m *mixer) entries(n int) []api.Entry {
	var l []api.Entry
	for range m.below(n + 1) {
		var e api.Entry
		for range m.below(5) {
			e.Word += one(m, "a", "a", "b", "é", "ab", "\xff")
		}
		for range m.below(6) {
			e.Flags = append(e.Flags, one[int](m, 'S', 'T', 'U', 'V', 0, -1, 7))
		}
		l = append(l, e)
	}
	return l
}

// P13.1: rules and entries without a pattern.
func TestAny(t *testing.T) {
	m := mixer(13)
	for range 3000 {
		areAsTold(t, m.rules(12), m.entries(6))
	}
}

// P13.1, All: told by hand.
func TestAllTable(t *testing.T) {
	rules := ruled("SFX S Y 0 s .", "PFX U Y 0 un .")
	makesAll(t, nil, nil, nil)
	makesAll(t, rules, nil, nil)
	makesAll(t, nil, []api.Entry{of("b", "S"), of("a", ""), of("b", "")}, []string{"a", "b"})
	makesAll(t, rules, []api.Entry{of("do", "U"), of("cat", "S"), of("Paris", "")}, []string{"Paris", "cat", "cats", "do", "undo"})
	// A word that is there again has the forms of each entry, not those of both entries' flags together.
	makesAll(t, rules, []api.Entry{of("do", "U"), of("do", "S")}, []string{"do", "dos", "undo"})
	makesAll(t, rules, []api.Entry{of("do", "U"), of("do", "S"), of("do", "SU")}, []string{"do", "dos", "undo", "undos"})
	makesAll(t, rules, []api.Entry{of("do", "US"), of("do", "S"), of("do", "SU"), of("do", "")}, []string{"do", "dos", "undo", "undos"})
	// A form of one may be a form of another, or its word.
	makesAll(t, rules, []api.Entry{of("cat", "S"), of("cats", "S")}, []string{"cat", "cats", "catss"})
	makesAll(t, rules, []api.Entry{of("undo", "S"), of("do", "US")}, []string{"do", "dos", "undo", "undos"})
	makesAll(t, rules, []api.Entry{of("", "US"), of("\xff", "US")}, []string{"", "\xff"})
}

// numbered is so many unlike entries with the same flags.
func numbered(n int, flags string) []api.Entry {
	var l []api.Entry
	for i := range n {
		l = append(l, of(strconv.Itoa(i), flags))
	}
	return l
}

// adding is so many rules of one end that each put something else.
func adding(n int, prefix bool, flag int) []api.Rule {
	var l []api.Rule
	for i := range n {
		l = append(l, api.Rule{Prefix: prefix, Flag: flag, Cross: true, Add: "<" + strconv.Itoa(i) + ">"})
	}
	return l
}

// P13.1, All: at most MaxForms forms, in whatever way they come.
func TestManyForms(t *testing.T) {
	for _, c := range []struct {
		rules []api.Rule
		l     []api.Entry
		n     int
	}{
		{nil, numbered(19999, ""), 19999},
		{nil, numbered(20000, ""), 20000},
		{nil, numbered(20001, ""), 20001},
		{nil, numbered(40000, "S"), 40000},
		{adding(1, false, 'S'), numbered(10000, "S"), 20000},
		{adding(1, false, 'S'), numbered(10001, "S"), 20002},
		{adding(1, false, 'S'), append(numbered(10000, "S"), of("x", "")), 20001},
		{adding(1, false, 'S'), append(numbered(10000, "S"), of("1<0>", "")), 20000},
		{adding(9, true, 'S'), numbered(2000, "S"), 20000},
		{adding(10, true, 'S'), numbered(2000, "S"), 22000},
		{adding(19999, true, 'S'), numbered(1, "S"), 20000},
		{adding(20000, true, 'S'), numbered(1, "S"), 20001},
		{adding(20000, false, 'S'), numbered(1, "S"), 20001},
		{adding(20000, false, 'S'), numbered(1, "T"), 1},
		// One word, and 99 and 199 rules: 100 times 200 forms.
		{append(adding(99, true, 'P'), adding(199, false, 'S')...), numbered(1, "PS"), 20000},
		{append(adding(199, true, 'S'), adding(99, false, 'S')...), numbered(1, "S"), 20000},
		{append(append(adding(99, true, 'P'), adding(199, false, 'S')...), api.Rule{Flag: 'T', Add: "!"}), numbered(1, "PST"), 20001},
		{append(adding(99, true, 'P'), adding(200, false, 'S')...), numbered(1, "PS"), 20100},
		{append(adding(99, true, 'P'), adding(199, false, 'S')...), append(numbered(1, "PS"), of("0", "S"), of("0", "P"), of("0<7>", "")), 20000},
		{append(adding(99, true, 'P'), adding(199, false, 'S')...), append(numbered(1, "PS"), of("x", "")), 20001},
	} {
		got, e := closure.All(c.rules, c.l)
		if c.n > 20000 {
			isBig(t, c.rules, c.l)
			continue
		}
		if e != api.OK || len(got) != c.n || !slices.IsSorted(got) || len(inOrder(got)) != c.n {
			t.Fatalf("%d rules, %d entries: error %d, %s, want %d", len(c.rules), len(c.l), e, brief(got), c.n)
		}
	}
}

// P13.1, All: unlike forms are counted, not how often they come, nor how many entries and rules there are.
func TestFormsAreCountedOnce(t *testing.T) {
	makesAll(t, adding(1, false, 'S'), slices.Repeat([]api.Entry{of("a", "S"), of("b", "")}, 30000), []string{"a", "a<0>", "b"})
	makesAll(t, slices.Repeat(ruled("SFX S Y 0 s ."), 30000), []api.Entry{of("a", "S")}, []string{"a", "as"})
	rules := append(adding(99, true, 'P'), adding(199, false, 'S')...)
	want, _ := closure.All(rules, numbered(1, "PS"))
	for _, flags := range []string{"PS", "SP", "PSP"} {
		makesAll(t, rules, slices.Repeat([]api.Entry{of("0", "PS"), of("0", flags)}, 1000), want)
	}
	isBig(t, rules, append(slices.Repeat([]api.Entry{of("0", "PS")}, 1000), of("1", "")))
}

// P13.1, Forms: as many as there are, also more than MaxForms.
func TestFormsHaveNoLimit(t *testing.T) {
	rules := append(adding(200, true, 'P'), adding(150, false, 'S')...)
	e := of("a", "PS")
	got := closure.Forms(rules, e)
	if len(got) != 201*151 || !slices.Equal(got, told(rules, e)) {
		t.Fatalf("%s", brief(got))
	}
	isBig(t, rules, []api.Entry{e})
}

// R1, P13.1: where far more forms come than there may be, or the same one again and again, All ends soon.
func TestEndsSoon(t *testing.T) {
	isBig(t, append(adding(60000, true, 'P'), adding(60000, false, 'S')...), numbered(3, "PS"))
	isBig(t, append(adding(1000, true, 'P'), adding(1000, false, 'S')...), numbered(20000, "PS"))
	same := append(slices.Repeat(adding(1, true, 'P'), 20000), slices.Repeat(adding(1, false, 'S'), 20000)...)
	makesAll(t, same, []api.Entry{of("a", "PS")}, []string{"<0>a", "<0>a<0>", "a", "a<0>"})
	makesAll(t, adding(20000, true, 'P'), numbered(20000, "S"), inOrder(words(numbered(20000, ""))))
	makes(t, adding(1, true, 'P'), api.Entry{Word: "a", Flags: slices.Repeat([]int{'P', 'S'}, 100000)}, "<0>a", "a")
	none := append(adding(20000, true, 'P'), adding(20000, false, 'S')...)
	for i := range none {
		none[i].Strip = "x"
	}
	makes(t, none, of("a", "PS"), "a")
}

// words is the words of entries.
func words(l []api.Entry) []string {
	var out []string
	for _, e := range l {
		out = append(out, e.Word)
	}
	return out
}

// orders is all orders of a list.
func orders[T any](l []T) [][]T {
	if len(l) == 0 {
		return [][]T{nil}
	}
	var out [][]T
	for i := range l {
		rest := slices.Delete(slices.Clone(l), i, i+1)
		for _, tail := range orders(rest) {
			out = append(out, append([]T{l[i]}, tail...))
		}
	}
	return out
}

// P13.2: the order of rules, of entries, of flags plays no part.
func TestAnyOrder(t *testing.T) {
	rules := ruled("PFX U Y 0 un .", "PFX R N 0 re .", "SFX D Y 0 ed [^y]", "SFX D Y y ied y", "SFX S Y 0 s .")
	entries := []api.Entry{of("load", "URD"), of("unload", "S"), of("try", "DUS"), of("load", "S")}
	want := []string{"load", "loaded", "loads", "reload", "tried", "try", "trys", "unload", "unloaded", "unloads", "untried", "untry", "untrys"}
	for _, in := range orders(rules) {
		for _, l := range orders(entries) {
			makesAll(t, in, l, want)
		}
		for _, flags := range orders([]int{'U', 'R', 'D', 'S'}) {
			makes(t, in, api.Entry{Word: "load", Flags: flags}, "load", "loaded", "loads", "reload", "unload", "unloaded", "unloads")
		}
	}
}

// P13.2: many rules and entries the other way round, and turned, the edge of MaxForms too.
func TestManyOrders(t *testing.T) {
	m := mixer(132)
	for range 300 {
		rules, l := m.rules(20), m.entries(20)
		want, _ := closure.All(rules, l)
		for range 3 {
			slices.Reverse(rules)
			makesAll(t, rules, l, want)
			slices.Reverse(l)
			makesAll(t, rules, l, want)
			rules = append(rules[len(rules)/3:], rules[:len(rules)/3]...)
			l = append(l[len(l)/3:], l[:len(l)/3]...)
		}
	}
	rules, l := adding(9, true, 'S'), numbered(2000, "S")
	want, _ := closure.All(rules, l)
	slices.Reverse(rules)
	slices.Reverse(l)
	makesAll(t, rules, l, want)
	for _, at := range []int{0, 1, 1000, 2000} {
		isBig(t, rules, slices.Insert(slices.Clone(l), at, of("x", "")))
	}
}

// spacious is an entry whose flags have spare room behind them.
func spacious(e api.Entry) api.Entry {
	e.Flags = append(make([]int, 0, len(e.Flags)+2), e.Flags...)
	return e
}

// sameRules tells whether two lists of rules are the same, field by field.
func sameRules(a, b []api.Rule) bool {
	return slices.EqualFunc(a, b, func(a, b api.Rule) bool {
		return a.Prefix == b.Prefix && a.Flag == b.Flag && a.Cross == b.Cross && a.Strip == b.Strip && a.Add == b.Add &&
			slices.EqualFunc(a.Cond, b.Cond, func(a, b api.Item) bool {
				return a.Any == b.Any && a.Not == b.Not && slices.Equal(a.Set, b.Set)
			})
	})
}

// R3: what is handed in is not changed, its spare room neither; nil and an empty list are one.
func TestNothingChanged(t *testing.T) {
	lines := []string{"SFX S Y 0 s [zyx].", "PFX U Y 0 un .", "SFX S Y y ies [^ab]", "PFX A Y 0 a .", "SFX S Y 0 s [zyx]."}
	whole := []api.Entry{of("lazy", "USAAU"), of("city", "SU"), of("lazy", "USAAU"), of("a", "")}
	for n := range len(lines) + 1 {
		for k := range len(whole) + 1 {
			rules, l := ruled(lines...), []api.Entry{}
			for _, e := range whole {
				l = append(l, spacious(e))
			}
			closure.All(rules[:n], l[:k])
			for _, e := range l[:k] {
				closure.Forms(rules[:n], e)
			}
			for i, e := range l {
				if e.Word != whole[i].Word || !slices.Equal(e.Flags[:cap(e.Flags)][:len(e.Flags)+2], append(slices.Clone(whole[i].Flags), 0, 0)) {
					t.Fatalf("entry %d has changed: %v", i, e)
				}
			}
			if !sameRules(rules, ruled(lines...)) {
				t.Fatalf("rules have changed: %v", rules)
			}
		}
	}
	makesAll(t, []api.Rule{}, []api.Entry{}, nil)
	makes(t, []api.Rule{}, api.Entry{Word: "a", Flags: []int{}}, "a")
	makes(t, nil, api.Entry{Word: "a"}, "a")
}

// R3, R4: an answer is new memory, spare room too, and hangs on nothing that was answered, or handed in, before.
func TestNothingKept(t *testing.T) {
	rules, e := ruled("PFX U Y 0 un .", "SFX S Y 0 s ."), of("do", "US")
	want := []string{"do", "dos", "undo", "undos"}
	for range 3 {
		one, other := closure.Forms(rules, e), closure.Forms(rules, e)
		all, _ := closure.All(rules, []api.Entry{e})
		more, _ := closure.All(rules, []api.Entry{e})
		for _, l := range [][]string{one, all} {
			l = l[:cap(l)]
			for i := range l {
				l[i] = "spoilt"
			}
		}
		if !slices.Equal(other, want) || !slices.Equal(more, want) {
			t.Fatalf("an answer has changed with another one: %s, %s", brief(other), brief(more))
		}
		makes(t, rules, e, want...)
		makes(t, ruled("SFX S Y 0 x ."), e, "do", "dox")
		isBig(t, nil, numbered(20001, ""))
		// What was handed in changes behind the call.
		in, entry := slices.Clone(rules), spacious(e)
		got := closure.Forms(in, entry)
		in[0].Add, in[1].Add, entry.Flags[0] = "x", "y", 'T'
		if !slices.Equal(got, want) {
			t.Fatalf("%s", brief(got))
		}
	}
}
