package dict_test

import (
	"slices"
	"strconv"
	"strings"
	"testing"

	"abecedary/affix"
	"abecedary/api"
	"abecedary/closure"
	"abecedary/dawg"
	"abecedary/dict"
	"abecedary/fold"
	"abecedary/list"
)

// longest is how many bytes a form may have.
const longest = 200

// of is a language's files: the affix file's lines, the list's lines.
func of(affixes, words string) api.Files {
	lines := func(s string) string { return strings.ReplaceAll(s, "; ", "\n") }
	return api.Files{Affix: lines(affixes), List: lines(words)}
}

// brief is the beginning of a text for a message.
func brief(s string) string {
	if len(s) > 120 {
		s = s[:120] + ".."
	}
	return strconv.Quote(s)
}

// named is the files for a message.
func named(f api.Files) string { return brief(f.Affix) + ", " + brief(f.List) }

// made is the language of files that there is one of.
func made(t *testing.T, f api.Files) *dict.Dict {
	t.Helper()
	d, file, line, e := dict.New(f)
	if d == nil || file != 0 || line != 0 || e != api.OK {
		t.Fatalf("New(%s): file %d, line %d, error %d", named(f), file, line, e)
	}
	return d
}

// isRefused holds New of files that there is no language of.
func isRefused(t *testing.T, f api.Files, file, line int, e api.Errno) {
	t.Helper()
	d, gotFile, gotLine, got := dict.New(f)
	if d != nil || gotFile != file || gotLine != line || got != e {
		t.Fatalf("New(%s): file %d, line %d, error %d, want %d, %d, %d", named(f), gotFile, gotLine, got, file, line, e)
	}
}

// language is what the layers below say of two files.
type language struct {
	file, line int
	e          api.Errno
	pairs      []api.Pair
	forms      []string
}

// told is what New is to find by the words of P16.1.
func told(f api.Files) language {
	a, line, e := affix.Parse(f.Affix)
	if e != api.OK {
		return language{file: 1, line: line, e: e}
	}
	l, line, e := list.Parse(f.List)
	if e != api.OK {
		return language{file: 2, line: line, e: e}
	}
	forms, e := closure.All(a.Rules, l)
	if e == api.ErrBig || slices.ContainsFunc(forms, func(s string) bool { return len(s) > longest }) {
		return language{file: 2, e: api.ErrBig}
	}
	return language{pairs: a.Pairs, forms: forms}
}

// has is Has by the words of P16.1.
func (l language) has(word string) bool {
	is := func(s string) bool { return slices.Contains(l.forms, s) }
	small := fold.Small(l.pairs, word)
	switch shape := fold.Shape(l.pairs, word); {
	case is(word):
		return true
	case shape == 1:
		return is(small)
	case shape == 2:
		return is(small) || is(fold.Title(l.pairs, small))
	}
	return false
}

// isAsTold holds New, and what is asked of the language, against the words of P16.1 and P16.2.
func isAsTold(t *testing.T, f api.Files, words ...string) {
	t.Helper()
	want := told(f)
	if want.e != api.OK {
		isRefused(t, f, want.file, want.line, want.e)
		return
	}
	d := made(t, f)
	if got := d.Forms(); !slices.Equal(got, want.forms) {
		t.Fatalf("of %s: %d forms, want %d: %s and %s", named(f), len(got), len(want.forms), brief(strings.Join(got, " ")), brief(strings.Join(want.forms, " ")))
	}
	hasAuto(t, d, want.forms)
	for _, w := range want.forms {
		if !d.Is(w) || !d.Has(w) {
			t.Fatalf("of %s: the form %s: Is %v, Has %v", named(f), brief(w), d.Is(w), d.Has(w))
		}
	}
	for _, w := range words {
		if got := d.Is(w); got != slices.Contains(want.forms, w) {
			t.Fatalf("of %s: Is(%s): %v", named(f), brief(w), got)
		}
		if got := d.Has(w); got != want.has(w) {
			t.Fatalf("of %s: Has(%s): %v", named(f), brief(w), got)
		}
		if got := d.Small(w); got != fold.Small(want.pairs, w) {
			t.Fatalf("of %s: Small(%s): %s", named(f), brief(w), brief(got))
		}
	}
}

// hasAuto holds the automaton of a language: it is dawg's, of the forms.
func hasAuto(t *testing.T, d *dict.Dict, forms []string) {
	t.Helper()
	want, e := dawg.Build(forms)
	a := d.Auto()
	if a == nil || e != api.OK {
		t.Fatalf("Auto is nil, or error %d", e)
	}
	if a.States() != want.States() || a.Start() != want.Start() {
		t.Fatalf("of %d forms: %d states, from %d on, want %d, %d", len(forms), a.States(), a.Start(), want.States(), want.Start())
	}
	for s := range a.States() {
		out := a.Out(s)
		if a.Final(s) != want.Final(s) || !slices.Equal(out, want.Out(s)) {
			t.Fatalf("of %d forms: state %d: Final %v, Out %q", len(forms), s, a.Final(s), out)
		}
		for _, c := range out {
			got, _ := a.Next(s, c)
			if next, _ := want.Next(s, c); got != next {
				t.Fatalf("of %d forms: state %d, byte %q: %d, want %d", len(forms), s, c, got, next)
			}
		}
	}
}

// The document's example.
func TestExample(t *testing.T) {
	d := made(t, of("", "Paris"))
	if !d.Has("PARIS") || d.Has("paris") {
		t.Errorf("PARIS: %v, paris: %v", d.Has("PARIS"), d.Has("paris"))
	}
}

const (
	plurals = "SFX S Y 0 s [^y]; SFX S Y y ies y"
	both    = "SFX S Y 0 s .; PFX U Y 0 un ."
	accents = "CASE Éé; CASE Àà; CASE ßẞ"
)

// P16.1, Forms: told by hand.
func TestFormsTable(t *testing.T) {
	for _, c := range []struct {
		f    api.Files
		want string
	}{
		{of("", ""), ""},
		{of(both, ""), ""},
		{of("# none; ", "#; ; # none"), ""},
		{of("", "cat"), "cat"},
		{of("", "dog; cat; dog; Cat; CAT"), "CAT Cat cat dog"},
		{of(plurals, "city/S; cat/S; very"), "cat cats cities city very"},
		{of(both, "cat/S; do/U; Paris; it's"), "Paris cat cats do it's undo"},
		{of(both, "do/US"), "do dos undo undos"},
		{of(both, "do/U; do/S"), "do dos undo"},
		{of(both, "cat/T"), "cat"},
		{of("", "cat/S"), "cat"},
		{of(accents+"; "+both, "été/S; Été"), "Été été étés"},
		{of("SFX S N 0 a .; SFX S N 0 é .; SFX S N 0 Z .; SFX S N 0 😀 .; SFX S N 0 \uffff .", "a/S"), "a aZ aa aé a\uffff a😀"},
	} {
		d := made(t, c.f)
		if got := d.Forms(); !slices.Equal(got, strings.Fields(c.want)) {
			t.Errorf("of %s: forms %q, want %s", named(c.f), got, c.want)
		}
		hasAuto(t, d, strings.Fields(c.want))
		isAsTold(t, c.f)
	}
}

// P16.1, Is, Has: told by hand. A word is a form as it stands (is), or right in another writing (has), or none of both (none).
func TestHasTable(t *testing.T) {
	for _, c := range []struct {
		f             api.Files
		is, has, none string
	}{
		{of("", ""), "", "", "a A AA Aa paris"},
		{of("", "cat"), "cat", "Cat CAT", "cAT caT cAt CaT CAt cats Cats ca CA at"},
		{of("", "Paris"), "Paris", "PARIS", "paris pARIS PaRIS PARiS pariS"},
		{of("", "NATO"), "NATO", "", "nato Nato nATO NATo NATOs"},
		{of("", "nato"), "nato", "NATO Nato", "nATO NATo"},
		// Forms of which a letter within is great are right just so.
		{of("", "McAdam"), "McAdam", "", "mcadam Mcadam MCADAM MCAdam mcAdam"},
		{of("", "iPod"), "iPod", "", "ipod IPOD IPod Ipod"},
		// A word of one letter that is great has the shape 1.
		{of("", "a"), "a", "A", "aa AA Aa b"},
		{of("", "A"), "A", "", "a AA"},
		{of("", "Ab; cd"), "Ab cd", "AB CD Cd", "ab cD aB"},
		// What is no letter says nothing: not in the first place, not elsewhere.
		{of("", "it's"), "it's", "It's IT'S", "It'S IT's it'S its"},
		{of("", "'tis"), "'tis", "'TIS", "'Tis 'tIs"},
		{of("", "a1"), "a1", "A1", "a2 A2"},
		{of("", "1a; 1ab"), "1a 1ab", "1AB", "1A 1Ab"},
		{of("", "x-ray"), "x-ray", "X-ray X-RAY", "X-Ray x-RAY"},
		// Several writings of one word stand by themselves.
		{of("", "us; US"), "us US", "Us", "uS"},
		{of("", "polish; Polish"), "polish Polish", "POLISH", "pOLISH"},
		{of("", "Us; US"), "Us US", "", "us uS"},
		// Forms that rules make likewise.
		{of(plurals, "city/S; Paris/S"), "city cities Paris Pariss", "City CITY Cities CITIES PARIS PARISS", "pariss citys CITYs Citys CITIEs"},
		{of("PFX U Y 0 un .", "Do/U"), "Do unDo", "DO", "do undo Undo UNDO UnDo"},
		{of("PFX M Y 0 Mc .", "adam/M; bee/M"), "adam bee Mcadam Mcbee", "Adam ADAM MCADAM MCBEE", "mcadam McAdam"},
		{of("SFX X Y 0 X .", "a/X"), "a aX", "A", "ax Ax AX"},
		// Pairs of the file, and A to Z behind them.
		{of(accents, "été"), "été", "Été ÉTÉ", "éTé étÉ ETE ÉtÉ ÉTé ÉTe"},
		{of("", "été"), "été", "", "Été éTé éTÉ ÉTÉ"},
		{of(accents, "Été"), "Été", "ÉTÉ", "été éTÉ"},
		{of(accents, "déjà"), "déjà", "DÉJÀ Déjà", "DéJÀ DÉJà dÉJÀ"},
		{of("", "déjà"), "déjà", "Déjà DéJà", "DÉJÀ dÉjà DéJÀ"},
		// The great letter is the first one of a pair, whatever it looks like.
		{of("CASE éÉ", "É; bÉ"), "É bÉ", "é BÉ Bé", "bé"},
		{of("CASE 12", "2; 2a"), "2 2a", "1 1a 1A", "12 11 2A"},
		{of("CASE 12", "12"), "12", "11", "22 21 111 112"},
		{of("CASE 12", "1"), "1", "", "2 11"},
		{of("CASE 12", "11"), "11", "", "22 12 21 1"},
		{of("CASE  '", "'a; a'"), "'a a'", "A'", "'A aA"},
		{of("CASE \U0001f600\U0001f601", "\U0001f601x"), "\U0001f601x", "\U0001f600x \U0001f600X", "\U0001f600\U0001f600 \U0001f601X x"},
		// The pair counts, not what a great letter is elsewhere.
		{of("CASE ẞß", "maß"), "maß", "MAẞ Maß", "maẞ MASS Mass MAß"},
		{of("", "maß"), "maß", "Maß MAß", "MAẞ MASS"},
	} {
		d := made(t, c.f)
		for _, w := range strings.Fields(c.is) {
			if !d.Is(w) || !d.Has(w) {
				t.Errorf("of %s: %q: Is %v, Has %v", named(c.f), w, d.Is(w), d.Has(w))
			}
		}
		for _, w := range strings.Fields(c.has) {
			if d.Is(w) || !d.Has(w) {
				t.Errorf("of %s: %q in another writing: Is %v, Has %v", named(c.f), w, d.Is(w), d.Has(w))
			}
		}
		for _, w := range append(strings.Fields(c.none), "", " ", "\xff", "\x00") {
			if d.Is(w) || d.Has(w) {
				t.Errorf("of %s: %q, that is none: Is %v, Has %v", named(c.f), w, d.Is(w), d.Has(w))
			}
		}
		isAsTold(t, c.f, strings.Fields(c.is+" "+c.has+" "+c.none)...)
	}
}

// P16.1, Has: a blank may be a letter of a pair.
func TestBlankLetter(t *testing.T) {
	d := made(t, of("CASE  _", "_a; A_"))
	for _, w := range []string{"_a", "A_", " a", " A", "A "} {
		if !d.Has(w) {
			t.Errorf("has no %q", w)
		}
	}
	for _, w := range []string{"a", "a ", "a_", "_A", "  a", " _a"} {
		if d.Has(w) {
			t.Errorf("has %q", w)
		}
	}
	if got := d.Small(" A_ "); got != "_a__" {
		t.Errorf("Small: %q", got)
	}
}

// P16.1, Small: told by hand.
func TestSmallTable(t *testing.T) {
	for _, c := range []struct{ affixes, s, want string }{
		{"", "", ""},
		{"", "NATO", "nato"},
		{"", "McAdam's", "mcadam's"},
		{"", "ÉTÉ", "ÉtÉ"},
		{accents, "ÉTÉ", "été"},
		{accents, "ß", "ẞ"},
		{accents, "@[`{\xc3\x00É\xff", "@[`{\xc3\x00é\xff"},
		{"CASE 12; CASE 34", "1234A", "2244a"},
		{plurals, "CITIES", "cities"},
	} {
		if got := made(t, of(c.affixes, "x")).Small(c.s); got != c.want {
			t.Errorf("of %q: Small(%q): %q, want %q", c.affixes, c.s, got, c.want)
		}
	}
}

// P16.1, New: what layer 11 says of the first file, whatever stands in the second one.
func TestAffixErrors(t *testing.T) {
	rules := func(n int) string { return strings.Repeat("SFX S Y 0 s .\n", n) }
	for _, c := range []struct {
		affixes string
		line    int
		e       api.Errno
	}{
		{"x", 1, api.ErrText},
		{"SFX S Y 0 s .\n#\n\nSFX\n", 4, api.ErrText},
		{"CASE Éé\nCASE Ée\n", 2, api.ErrText},
		{"CASE Aé\n", 1, api.ErrText},
		{"cat\n", 1, api.ErrText},
		{"\xff", 1, api.ErrText},
		{"SFX S Y 0 s .\nPFX S Y 0 s .\n", 2, api.ErrFlag},
		{"PFX S Y 0 s .\n\n\nSFX S N 0 s .", 4, api.ErrFlag},
		{"PFX S Y 0 s .\nSFX S N 0 s .\nx", 3, api.ErrText},
		{rules(201), 0, api.ErrBig},
		{"x\n" + rules(201), 0, api.ErrBig},
		{strings.Repeat("\n", api.MaxFile+1), 0, api.ErrBig},
		{strings.Repeat("x", api.MaxFile+1), 0, api.ErrBig},
	} {
		for _, words := range []string{
			"", "cat/S", "two words", "cat\n\n/S", strings.Repeat("cat\n", 2001), strings.Repeat("\n", api.MaxFile+1), strings.Repeat("a", longest+1), c.affixes,
		} {
			isRefused(t, api.Files{Affix: c.affixes, List: words}, 1, c.line, c.e)
		}
	}
	// What may be at the greatest is taken.
	isAsTold(t, api.Files{Affix: rules(200), List: "cat/S"}, "cats", "Cats", "catss")
	isAsTold(t, api.Files{Affix: strings.Repeat("\n", api.MaxFile), List: "cat/S"}, "cats", "cat")
}

// P16.1, New: what layer 12 says of the second file, where the first one is right.
func TestListErrors(t *testing.T) {
	for _, c := range []struct {
		words string
		line  int
		e     api.Errno
	}{
		{"two words", 1, api.ErrText},
		{"cat/S\n#\n\ncat/\n", 4, api.ErrText},
		{"cat/SS", 1, api.ErrText},
		{"/S", 1, api.ErrText},
		{"cat\n\xff\n", 2, api.ErrText},
		{"SFX S Y 0 s .\n", 1, api.ErrText},
		{strings.Repeat("cat\n", 2001), 0, api.ErrBig},
		{"two words\n" + strings.Repeat("cat\n", 2001), 0, api.ErrBig},
		{strings.Repeat("\n", api.MaxFile+1), 0, api.ErrBig},
		// A line that is none comes ahead of forms that are too long, or too many.
		{strings.Repeat("a", longest+1) + "\n two", 2, api.ErrText},
		{" two\n" + strings.Repeat("a", longest+1), 1, api.ErrText},
	} {
		for _, affixes := range []string{"", both, accents, "#\n\n", "SFX S Y 0 " + strings.Repeat("s", 20) + " ."} {
			isRefused(t, of(affixes, c.words), 2, c.line, c.e)
		}
	}
	full := strings.Repeat("cat\n", 1999)
	isAsTold(t, api.Files{List: full + "dog"}, "cat", "Dog")
	isAsTold(t, api.Files{List: strings.Repeat("\n", api.MaxFile-3) + "dog"}, "cat", "Dog")
	isRefused(t, api.Files{List: full + "dog\nDog"}, 2, 0, api.ErrBig)
	many, big := tooMany()
	isRefused(t, many, 2, 0, api.ErrBig)
	isRefused(t, api.Files{Affix: many.Affix, List: many.List + " two\n"}, 2, 2001, api.ErrText)
	isRefused(t, api.Files{Affix: many.Affix + "x\n", List: many.List}, 1, 11, api.ErrText)
	isRefused(t, big, 2, 0, api.ErrBig)
}

// adding is lines of so many rules of one end that each put something else.
func adding(n int, end string) string {
	var b strings.Builder
	for i := range n {
		b.WriteString(end + " Y 0 <" + strconv.Itoa(i) + "> .\n")
	}
	return b.String()
}

// numbered is lines of so many unlike words with the same flags.
func numbered(n int, flags string) string {
	var b strings.Builder
	for i := range n {
		b.WriteString(strconv.Itoa(i) + flags + "\n")
	}
	return b.String()
}

// tooMany is files with more forms than there may be: many words of some forms, and one word of many.
func tooMany() (api.Files, api.Files) {
	return api.Files{Affix: adding(10, "SFX S"), List: numbered(2000, "/S")}, api.Files{Affix: adding(99, "PFX P") + adding(101, "SFX S"), List: numbered(2, "/PS")}
}

// P16.1, New: at most MaxForms forms.
func TestManyForms(t *testing.T) {
	ends := adding(99, "PFX P") + adding(101, "SFX S")
	for _, c := range []struct {
		f api.Files
		n int
	}{
		{api.Files{List: numbered(2000, "")}, 2000},
		{api.Files{Affix: adding(9, "SFX S"), List: numbered(1999, "/S") + "x\n"}, 19991},
		{api.Files{Affix: adding(9, "SFX S"), List: numbered(2000, "/S")}, 20000},
		{api.Files{Affix: adding(9, "SFX S") + "PFX U Y 0 un .\n", List: numbered(1999, "/S") + "x/SU\n"}, 20010},
		{api.Files{Affix: adding(10, "SFX S"), List: numbered(2000, "/S")}, 22000},
		// Each of these words has 100 times 102 forms.
		{api.Files{Affix: ends, List: "a/PS\n"}, 10200},
		{api.Files{Affix: ends, List: "a/PS\nb/PS\n"}, 20400},
		{api.Files{Affix: ends, List: "a/PS\nb/S\nc/P\n"}, 10402},
		// Ten words of 10 times 200 forms, and one more form.
		{api.Files{Affix: adding(9, "PFX P") + adding(191, "SFX S"), List: numbered(10, "/PS")}, 19200},
		{api.Files{Affix: adding(19, "PFX P") + adding(99, "SFX S"), List: numbered(10, "/PS")}, 20000},
		{api.Files{Affix: adding(19, "PFX P") + adding(99, "SFX S"), List: numbered(10, "/PS") + "a\n"}, 20001},
		{api.Files{Affix: adding(19, "PFX P") + adding(99, "SFX S"), List: numbered(10, "/PS") + "0<7>\n<3>5\n"}, 20000},
		{api.Files{Affix: adding(19, "PFX P") + adding(99, "SFX S") + "SFX T Y 0 ! .\n", List: numbered(9, "/PS") + "9/PST\n"}, 20020},
	} {
		if c.n > 20000 {
			isRefused(t, c.f, 2, 0, api.ErrBig)
			continue
		}
		d := made(t, c.f)
		forms := d.Forms()
		if len(forms) != c.n || !slices.Equal(forms, told(c.f).forms) {
			t.Fatalf("of %s: %d forms, want %d", named(c.f), len(forms), c.n)
		}
		for _, w := range forms {
			if !d.Is(w) || !d.Has(w) || d.Has(w+"-") {
				t.Fatalf("of %s: %q: Is %v, Has %v, and with more %v", named(c.f), w, d.Is(w), d.Has(w), d.Has(w+"-"))
			}
		}
		hasAuto(t, d, forms)
	}
}

// P16.1, New: a form of at most 200 bytes, in whatever way it comes.
func TestLongForms(t *testing.T) {
	a := func(n int) string { return strings.Repeat("a", n) }
	s := "SFX S Y 0 0123456789 .\n"
	p := "PFX P Y 0 9876543210 .\n"
	for _, c := range []struct {
		affixes, words string
		n              int // bytes of the longest form
	}{
		{"", a(199), 199},
		{"", a(200), 200},
		{"", a(201), 201},
		{"", "cat\n" + a(201) + "\ndog", 201},
		{"", a(65536), 65536},
		// A flag is no part of the word.
		{"", a(200) + "/abcdef", 200},
		{s, a(190) + "/S", 200},
		{s, a(191) + "/S", 201},
		{s, a(191) + "/T\n" + a(190) + "/S", 200},
		{p, a(190) + "/P", 200},
		{p, a(191) + "/P", 201},
		{s + p, a(180) + "/SP", 200},
		{s + p, a(181) + "/SP", 201},
		{s + strings.Replace(p, "Y", "N", 1), a(190) + "/SP", 200},
		// A rule that takes away, and the word that it takes from: the word is a form too.
		{"SFX S Y aa b .\n", a(200) + "/S", 200},
		{"SFX S Y aa b .\n", a(201) + "/S", 201},
		{"SFX S Y a bb .\n", a(200) + "/S", 201},
		// Bytes are counted, not code points.
		{"", strings.Repeat("é", 100), 200},
		{"", strings.Repeat("é", 100) + "a", 201},
		{"", strings.Repeat("\U0001f600", 50), 200},
		{"", strings.Repeat("\U0001f600", 51), 204},
	} {
		f := api.Files{Affix: c.affixes, List: c.words}
		if c.n > longest {
			isRefused(t, f, 2, 0, api.ErrBig)
			continue
		}
		forms := made(t, f).Forms()
		if n := len(slices.MaxFunc(forms, func(a, b string) int { return len(a) - len(b) })); n != c.n {
			t.Fatalf("of %s: the longest form has %d bytes, want %d", named(f), n, c.n)
		}
		isAsTold(t, f, a(199), a(200), a(201), strings.ToUpper(a(200)), strings.ToUpper(a(201)))
	}
	// A word may be longer than each form, and its small letters may be one.
	d := made(t, of("CASE \U0001f600é", a(2)+strings.Repeat("é", 99)))
	for _, w := range []string{"AA" + strings.Repeat("\U0001f600", 99), "Aa" + strings.Repeat("é", 99)} {
		if !d.Has(w) {
			t.Errorf("has no %s", brief(w))
		}
	}
}

// words is all words of at most n of these letters.
func words(n int, letters ...string) []string {
	l := []string{""}
	for from := 0; n > 0; n-- {
		to := len(l)
		for _, head := range l[from:to] {
			for _, x := range letters {
				l = append(l, head+x)
			}
		}
		from = to
	}
	return l
}

// P16.1: all small words, right ones and wrong ones, of small languages.
func TestAllSmallWords(t *testing.T) {
	all := words(4, "a", "A", "b", "B", "é", "É", "'")
	odd := words(3, "a", "A", "1", "\xff", "\xc3", "\xa9", "\x00", " ", "ÿ", "É")
	for _, affixes := range []string{"", "CASE Éé", "CASE éÉ", "SFX S Y 0 B .; PFX P Y 0 É .", "CASE Éé; SFX S Y 0 B .; PFX P Y 0 É .; SFX T Y a 0 a", "CASE 1é; CASE É'", "CASE \xc3\xbf1"} {
		for _, l := range []string{
			"", "a", "A", "é", "É", "ab; Ab; aB; AB", "é'a/SP", "Éa/SP; éa/T", "ba/ST; Ba/P", "éé; ÉÉ; Éé; aÉ", "a'b; A'b; 'ab; 'Ab", "éab/PS; Éab/ST; AB/TP; bÉ",
		} {
			isAsTold(t, of(affixes, l), all...)
			isAsTold(t, of(affixes, l), odd...)
		}
	}
}

// P16.1: all lists of a few words in all writings.
func TestAllLists(t *testing.T) {
	pool := []string{"ab", "Ab", "aB", "AB", "é", "É", "b"}
	asked := append(words(3, "a", "A", "b", "B"), words(2, "é", "É", "b", "B")...)
	for set := range 1 << len(pool) {
		var l []string
		for i, w := range pool {
			if set>>i&1 > 0 {
				l = append(l, w)
			}
		}
		for _, affixes := range []string{"", "CASE Éé\n", "PFX P N 0 A b\n"} {
			isAsTold(t, api.Files{Affix: affixes, List: strings.Join(l, "\n")}, asked...)
			isAsTold(t, api.Files{Affix: affixes, List: strings.Join(append(l, ""), "/P\n")}, asked...)
		}
	}
}

// mixer answers numbers without a pattern, always the same ones.
type mixer uint64

func (m *mixer) below(n int) int {
	*m = *m*6364136223846793005 + 1442695040888963407
	return int(*m>>33) % n
}

// one is one of some.
func one[T any](m *mixer, of ...T) T { return of[m.below(len(of))] }

// lines is up to n lines, each one of some.
func (m *mixer) lines(n int, of ...string) string {
	var b strings.Builder
	for range m.below(n + 1) {
		b.WriteString(one(m, of...) + "\n")
	}
	return b.String()
}

// word is up to n letters, great and small, and a few others.
func (m *mixer) word(n int) string {
	var b strings.Builder
	for range m.below(n + 1) {
		b.WriteString(one(m, "a", "a", "b", "c", "A", "B", "é", "É", "'", "1"))
	}
	return b.String()
}

// written is a word in another writing: each letter great or small, or the first one great, or all of them.
func (m *mixer) written(pairs []api.Pair, word string) string {
	great := func(s string) string {
		var b strings.Builder
		for _, r := range s {
			b.WriteString(fold.Title(pairs, string(r)))
		}
		return b.String()
	}
	small := fold.Small(pairs, word)
	switch m.below(5) {
	case 0:
		return small
	case 1:
		return fold.Title(pairs, small)
	case 2:
		return great(word)
	case 3:
		return fold.Title(pairs, word)
	}
	at := m.below(len(word) + 1)
	return great(word[:at]) + word[at:]
}

// P16.1: files without a pattern, also such as are refused; words around their forms in other writings.
func TestAny(t *testing.T) {
	m := mixer(16)
	refused := 0
	for range 3000 {
		f := api.Files{Affix: m.lines(8, "SFX S Y 0 s .", "SFX S Y a b a", "SFX T N 0 É .", "PFX P Y 0 un .", "PFX P Y a A .", "PFX Q Y 0 B [^b]", "CASE Éé", "CASE 1'", "#", "")}
		for range m.below(20) {
			f.List += m.word(5) + one(&m, "", "/S", "/P", "/SP", "/QT", "/PQST", "/Z") + "\n"
		}
		if m.below(20) == 0 {
			f.Affix += m.lines(2, "x", "PFX S Y 0 s .", "CASE É'", "SFX S Y 0 s ")
		}
		if m.below(20) == 0 {
			f.List += m.lines(2, "two words", "a/", "/S", "\xff", strings.Repeat("a", longest+1), strings.Repeat("a", longest)+"/S")
		}
		want := told(f)
		if want.e != api.OK {
			refused++
		}
		var asked []string
		for range 30 {
			w := m.word(6)
			if len(want.forms) > 0 && m.below(4) > 0 {
				w = want.forms[m.below(len(want.forms))]
			}
			asked = append(asked, m.written(want.pairs, w), w, m.word(3))
		}
		isAsTold(t, f, asked...)
	}
	if refused < 300 || refused > 2700 {
		t.Errorf("%d of 3000 files are refused", refused)
	}
}

// P16.2: what is a form is right, however its letters stand.
func TestFormsAreRight(t *testing.T) {
	l := words(4, "a", "A", "é", "É", "'")[1:]
	for _, affixes := range []string{"", "CASE Éé", "CASE éÉ", "CASE É'"} {
		d := made(t, api.Files{Affix: affixes, List: strings.Join(l, "\n")})
		for _, w := range l {
			if !d.Is(w) || !d.Has(w) {
				t.Fatalf("of %q: %q: Is %v, Has %v", affixes, w, d.Is(w), d.Has(w))
			}
		}
	}
}

// R1: any bytes, and very long words, may be asked.
func TestAnyBytes(t *testing.T) {
	m := mixer(161)
	f := of("CASE Éé; SFX S Y 0 s .", "cat/S; Été; NATO; it's")
	var asked []string
	for range 5000 {
		var b strings.Builder
		for range m.below(12) {
			b.WriteString(one(&m, "cat", "Cat", "É", "é", "t", "T", string([]byte{byte(m.below(256))}), "\xff"))
		}
		asked = append(asked, b.String())
	}
	for _, s := range []string{"a", "A", "cat", "CAT", "É", "\xff", "\x00", " "} {
		asked = append(asked, strings.Repeat(s, 1<<17))
	}
	for c := range 256 {
		s := string([]byte{byte(c)})
		asked = append(asked, s, "cat"+s, s+"cat", "CAT"+s, s+"CAT", "N"+s+"ATO")
	}
	isAsTold(t, f, asked...)
}

// R3: forms that are answered are new memory, spare room too.
func TestFormsAreNew(t *testing.T) {
	d := made(t, of(both, "cat/S; do/U; Paris"))
	want := []string{"Paris", "cat", "cats", "do", "undo"}
	for range 3 {
		one, other := d.Forms(), d.Forms()
		one = one[:cap(one)]
		for i := range one {
			one[i] = "spoilt"
		}
		if !slices.Equal(other, want) || !slices.Equal(d.Forms(), want) {
			t.Fatalf("forms have changed: %q, %q", other, d.Forms())
		}
		if !d.Is("cats") || !d.Has("PARIS") || d.Has("spoilt") || !d.Auto().Has("undo") {
			t.Fatal("the language has changed")
		}
	}
}

// R4: languages have nothing in common, and what is answered hangs on the files and the word alone.
func TestNothingInCommon(t *testing.T) {
	one, other := made(t, of("CASE Éé", "été; cat")), made(t, of("", "Été; dog"))
	isRefused(t, of("x", "été"), 1, 1, api.ErrText)
	isRefused(t, of("", "é t é"), 2, 1, api.ErrText)
	again := made(t, of("CASE Éé", "été; cat"))
	for range 3 {
		for _, c := range []struct {
			word       string
			one, other bool
		}{{"été", true, false}, {"Été", true, true}, {"ÉTÉ", true, false}, {"Cat", true, false}, {"DOG", false, true}, {"dog", false, true}, {"cow", false, false}} {
			if one.Has(c.word) != c.one || again.Has(c.word) != c.one || other.Has(c.word) != c.other {
				t.Errorf("%q: %v, %v, and %v", c.word, one.Has(c.word), again.Has(c.word), other.Has(c.word))
			}
		}
		if one.Small("É") != "é" || other.Small("É") != "É" {
			t.Errorf("Small: %q and %q", one.Small("É"), other.Small("É"))
		}
		if !slices.Equal(one.Forms(), again.Forms()) || slices.Equal(one.Forms(), other.Forms()) {
			t.Errorf("forms: %q, %q, and %q", one.Forms(), again.Forms(), other.Forms())
		}
		hasAuto(t, one, again.Forms())
	}
}

// P13.2 holds here too: the order of a file's lines plays no part, as far as they are right.
func TestAnyOrder(t *testing.T) {
	want := made(t, of("PFX U Y 0 un .; SFX S Y 0 s .; CASE Éé", "do/US; été/S; Paris"))
	for _, f := range []api.Files{
		of("CASE Éé; SFX S Y 0 s .; PFX U Y 0 un .", "Paris; été/S; do/SU"),
		of("#; SFX S Y 0 s .; CASE Éé; ; PFX U Y 0 un .; SFX S Y 0 s .", "Paris; #; do/SU; do; été/S; Paris; ; undo"),
	} {
		d := made(t, f)
		if !slices.Equal(d.Forms(), want.Forms()) {
			t.Errorf("of %s: forms %q, want %q", named(f), d.Forms(), want.Forms())
		}
		hasAuto(t, d, want.Forms())
	}
}
