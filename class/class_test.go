package class_test

import (
	"math"
	"slices"
	"testing"

	"abecedary/api"
	"abecedary/class"
)

const greatest = 0x10ffff

// latin is an ordinary table: digits, letters great and small, and what joins.
func latin() []api.Range {
	return []api.Range{
		{From: '\'', To: '\'', Class: api.Joiner},
		{From: '-', To: '-', Class: api.Joiner},
		{From: '0', To: '9', Class: api.Digit},
		{From: 'A', To: 'Z', Class: api.Letter},
		{From: 'a', To: 'z', Class: api.Letter},
		{From: 0xc0, To: 0xd6, Class: api.Letter},
		{From: 0xd8, To: 0xf6, Class: api.Letter},
	}
}

// spaced is a table of n ranges of some width with a gap behind each, their classes in turn.
func spaced(n, width, gap int) []api.Range {
	var l []api.Range
	for k := range n {
		from := k * (width + gap)
		l = append(l, api.Range{From: from, To: from + width - 1, Class: api.Letter + k%3})
	}
	return l
}

// may says what Check is to say, by the words of the promise one by one.
func may(l []api.Range) bool {
	if len(l) > api.MaxRanges {
		return false
	}
	for k, r := range l {
		fromRight := 0 <= r.From && r.From <= r.To
		toRight := r.To <= 0x10ffff
		classRight := r.Class == api.Letter || r.Class == api.Digit || r.Class == api.Joiner
		if !fromRight || !toRight || !classRight || k > 0 && r.From <= l[k-1].To {
			return false
		}
	}
	return true
}

// of says what Of is to say, by looking at all ranges.
func of(l []api.Range, code int) int {
	if !may(l) {
		return api.Other
	}
	for _, r := range l {
		if r.From <= code && code <= r.To {
			return r.Class
		}
	}
	return api.Other
}

// edges is the codes at which a table's classes may change, and numbers that are no code points.
func edges(l []api.Range) []int {
	codes := []int{math.MinInt, math.MinInt + 1, math.MinInt32, -256, -2, -1, 0, 1, 'a', 0xd800, 0xdfff, greatest - 1, greatest, greatest + 1, 1<<32 + 'a', math.MaxInt32, math.MaxInt - 1, math.MaxInt}
	for _, r := range l {
		codes = append(codes, r.From-1, r.From, r.From+1, r.To-1, r.To, r.To+1)
	}
	return codes
}

// refused is tables that may not be, each for one reason.
func refused() map[string][]api.Range {
	return map[string][]api.Range{
		"a range more than there may be":   spaced(api.MaxRanges+1, 2, 1),
		"many more":                        spaced(2*api.MaxRanges, 1, 0),
		"From below 0":                     {{From: -1, To: 'z', Class: api.Letter}},
		"From and To below 0":              {{From: -5, To: -2, Class: api.Letter}},
		"the least From":                   {{From: math.MinInt, To: math.MaxInt, Class: api.Letter}},
		"From above To":                    {{From: 'b', To: 'a', Class: api.Letter}},
		"From far above To":                {{From: math.MaxInt, To: math.MinInt, Class: api.Letter}},
		"To above the greatest code":       {{From: 'a', To: greatest + 1, Class: api.Letter}},
		"both above the greatest code":     {{From: greatest + 1, To: greatest + 1, Class: api.Letter}},
		"the greatest To":                  {{From: 'a', To: math.MaxInt, Class: api.Letter}},
		"class Other":                      {{From: 'a', To: 'z', Class: api.Other}},
		"a class above Joiner":             {{From: 'a', To: 'z', Class: api.Joiner + 1}},
		"a class below 0":                  {{From: 'a', To: 'z', Class: -1}},
		"the greatest class":               {{From: 'a', To: 'z', Class: math.MaxInt}},
		"the least class":                  {{From: 'a', To: 'z', Class: math.MinInt}},
		"a class that wraps to a letter":   {{From: 'a', To: 'z', Class: 1<<32 + api.Letter}},
		"zero":                             {{}},
		"From is the To ahead":             {{From: 'a', To: 'm', Class: api.Letter}, {From: 'm', To: 'z', Class: api.Letter}},
		"From below the To ahead":          {{From: 'a', To: 'm', Class: api.Letter}, {From: 'k', To: 'z', Class: api.Digit}},
		"out of order":                     {{From: 'a', To: 'z', Class: api.Letter}, {From: '0', To: '9', Class: api.Digit}},
		"the same twice":                   {{From: 'a', To: 'a', Class: api.Letter}, {From: 'a', To: 'a', Class: api.Letter}},
		"one within the one ahead":         {{From: 0, To: 9, Class: api.Letter}, {From: 3, To: 4, Class: api.Letter}},
		"0 twice":                          {{From: 0, To: 0, Class: api.Letter}, {From: 0, To: 0, Class: api.Letter}},
		"the last one is wrong":            append(latin(), api.Range{From: 0x100, To: 0x17f, Class: api.Other}),
		"the last one is out of order":     append(latin(), api.Range{From: 0xf6, To: 0x17f, Class: api.Letter}),
		"the first one is wrong":           append([]api.Range{{From: -1, To: 3, Class: api.Letter}}, latin()...),
		"the greatest code, and one again": {{From: 0, To: greatest, Class: api.Letter}, {From: greatest, To: greatest, Class: api.Letter}},
	}
}

// P2.1, Check: tables that may be, at each edge.
func TestCheckYes(t *testing.T) {
	for name, l := range map[string][]api.Range{
		"nil":                       nil,
		"empty":                     {},
		"an ordinary one":           latin(),
		"one code":                  {{From: 'a', To: 'a', Class: api.Letter}},
		"the least code":            {{From: 0, To: 0, Class: api.Letter}},
		"the greatest code":         {{From: greatest, To: greatest, Class: api.Joiner}},
		"all codes":                 {{From: 0, To: greatest, Class: api.Digit}},
		"surrogates":                {{From: 0xd800, To: 0xdfff, Class: api.Letter}},
		"each class":                {{From: 1, To: 1, Class: api.Joiner}, {From: 3, To: 3, Class: api.Digit}, {From: 5, To: 5, Class: api.Letter}},
		"From next to the To ahead": {{From: 'a', To: 'm', Class: api.Letter}, {From: 'n', To: 'z', Class: api.Letter}},
		"as many as there may be":   spaced(api.MaxRanges, 2, 1),
		"as many without gaps":      spaced(api.MaxRanges, 1, 0),
		"one less":                  spaced(api.MaxRanges-1, 3, 5),
	} {
		if !class.Check(l) {
			t.Errorf("%s: Check says no", name)
		}
	}
}

// P2.1: of a table that Check refuses each code is Other.
func TestRefusedTables(t *testing.T) {
	for name, l := range refused() {
		if class.Check(l) {
			t.Errorf("%s: Check says yes", name)
		}
		for _, code := range edges(l) {
			if got := class.Of(l, code); got != api.Other {
				t.Errorf("%s: Of(.., %#x) = %d, want Other", name, code, got)
			}
		}
	}
}

// P2.1, Check, Of: all tables of up to three ranges around some edge, against the words of the promise.
func TestSmallTables(t *testing.T) {
	for _, base := range []int{0, greatest - 3} {
		var rs []api.Range
		for from := base - 1; from <= base+4; from++ {
			for to := base - 1; to <= base+4; to++ {
				rs = append(rs, api.Range{From: from, To: to, Class: 1 + (from+to+2)%3})
			}
		}
		rs = append(rs, api.Range{From: base + 1, To: base + 2, Class: api.Other}, api.Range{From: base + 1, To: base + 2, Class: 4}, api.Range{From: base + 2, To: base + 2, Class: -1})
		for _, a := range rs {
			against(t, []api.Range{a}, base)
			for _, b := range rs {
				against(t, []api.Range{a, b}, base)
				for _, c := range rs {
					against(t, []api.Range{a, b, c}, base)
				}
			}
		}
	}
}

// against holds a table's answers around base against the words of the promise.
func against(t *testing.T, l []api.Range, base int) {
	t.Helper()
	if got := class.Check(l); got != may(l) {
		t.Fatalf("Check(%v) = %v", l, got)
	}
	for code := base - 2; code <= base+5; code++ {
		if got := class.Of(l, code); got != of(l, code) {
			t.Fatalf("Of(%v, %#x) = %d, want %d", l, code, got, of(l, code))
		}
	}
}

// P2.1, Of: an ordinary table, at and around each edge.
func TestOfTable(t *testing.T) {
	for code, want := range map[int]int{
		'a': api.Letter, 'm': api.Letter, 'z': api.Letter, 'a' - 1: api.Other, 'z' + 1: api.Other,
		'A': api.Letter, 'Z': api.Letter, 'A' - 1: api.Other, 'Z' + 1: api.Other,
		'0': api.Digit, '5': api.Digit, '9': api.Digit, '0' - 1: api.Other, '9' + 1: api.Other,
		'\'': api.Joiner, '-': api.Joiner, '\'' - 1: api.Other, '\'' + 1: api.Other,
		0xc0: api.Letter, 0xd6: api.Letter, 0xd7: api.Other, 0xd8: api.Letter, 0xf6: api.Letter, 0xf7: api.Other,
		0: api.Other, ' ': api.Other, '\n': api.Other, greatest: api.Other, greatest + 1: api.Other, 1<<32 + 'a': api.Other,
	} {
		if got := class.Of(latin(), code); got != want {
			t.Errorf("Of(latin, %#x) = %d, want %d", code, got, want)
		}
	}
}

// P2.1, Of: tables of every number of ranges, so that the halves meet each place.
func TestOfTablesOfEveryLength(t *testing.T) {
	for n := 0; n <= api.MaxRanges; n++ {
		for width := 1; width <= 3; width++ {
			for gap := 0; gap <= 2; gap++ {
				l := spaced(n, width, gap)
				for code := -2; code <= n*(width+gap)+2; code++ {
					want := api.Other
					if k := code / (width + gap); code >= 0 && k < n && code%(width+gap) < width {
						want = api.Letter + k%3
					}
					if got := class.Of(l, code); got != want {
						t.Fatalf("%d ranges of %d, gaps of %d: Of(.., %d) = %d, want %d", n, width, gap, code, got, want)
					}
				}
			}
		}
	}
}

// P2.1, Of: ranges at both ends of the code points, and all of them.
func TestOfAtTheEnds(t *testing.T) {
	ends := []api.Range{{From: 0, To: 0, Class: api.Joiner}, {From: 0xd800, To: 0xdfff, Class: api.Letter}, {From: greatest, To: greatest, Class: api.Digit}}
	all := []api.Range{{From: 0, To: greatest, Class: api.Digit}}
	for _, l := range [][]api.Range{ends, all, latin(), spaced(api.MaxRanges, 10000, 10)} {
		for _, code := range edges(l) {
			if got := class.Of(l, code); got != of(l, code) {
				t.Errorf("Of(%v, %#x) = %d, want %d", l, code, got, of(l, code))
			}
		}
	}
}

// The document's example.
func TestOfATableWithoutRanges(t *testing.T) {
	for _, l := range [][]api.Range{nil, {}} {
		for _, code := range edges(nil) {
			if got := class.Of(l, code); got != api.Other {
				t.Errorf("Of(%v, %#x) = %d", l, code, got)
			}
		}
	}
}

// P2.2: a code below 0 is Other, also of a table of all codes, and of one that goes below 0.
func TestCodeBelowZero(t *testing.T) {
	for _, l := range [][]api.Range{nil, latin(), {{From: 0, To: greatest, Class: api.Letter}}, {{From: -256, To: greatest, Class: api.Letter}}, {{From: math.MinInt, To: -1, Class: api.Letter}}} {
		for code := -300; code < 0; code++ {
			if got := class.Of(l, code); got != api.Other {
				t.Errorf("Of(%v, %d) = %d", l, code, got)
			}
		}
		for _, code := range []int{math.MinInt, math.MinInt + 'a', math.MinInt32, -1<<32 + 'a', -1 << 40} {
			if got := class.Of(l, code); got != api.Other {
				t.Errorf("Of(%v, %d) = %d", l, code, got)
			}
		}
	}
}

// R3, R4: the table stays as it was, spare room too, and is not kept from call to call.
func TestTableIsNeitherChangedNorKept(t *testing.T) {
	room := append(latin(), api.Range{From: 7, To: 3, Class: 9})
	l := room[:len(room)-1]
	if !class.Check(l) || class.Of(l, 'q') != api.Letter {
		t.Error("an ordinary table is refused")
	}
	if !slices.Equal(room, append(latin(), api.Range{From: 7, To: 3, Class: 9})) {
		t.Error("a call has changed its table")
	}
	l[4].Class = api.Digit
	if class.Of(l, 'q') != api.Digit {
		t.Error("Of answers from the table as it was")
	}
	l[4].Class = api.Other
	if class.Check(l) || class.Of(l, 'q') != api.Other || class.Of(l, 'A') != api.Other {
		t.Error("a table that may not be any more is still taken")
	}
}
