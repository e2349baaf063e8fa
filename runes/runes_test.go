package runes_test

import (
	"math"
	"slices"
	"strings"
	"testing"

	"abecedary/api"
	"abecedary/runes"
)

const greatest = 0x10ffff

// shape is what the bytes of a code point of some length look like: the bits that stand in the first byte, and the least code that needs so many bytes.
type shape struct{ mask, lead, least int }

// shapes is UTF-8 as it is defined, by length: the tests read by it, so that they do not lean on what the package leans on.
func shapes() []shape {
	return []shape{{0x80, 0x00, 0}, {0xe0, 0xc0, 0x80}, {0xf0, 0xe0, 0x800}, {0xf8, 0xf0, 0x10000}}
}

func isCode(code int) bool {
	return code >= 0 && code <= greatest && (code < 0xd800 || code > 0xdfff)
}

// first is the unit that s begins with at a place, read bit by bit.
func first(s string, at int) api.Unit {
	for k, f := range shapes() {
		n := k + 1
		if at+n > len(s) || int(s[at])&f.mask != f.lead {
			continue
		}
		code := int(s[at]) & ^f.mask & 0xff
		follows := true
		for _, c := range []byte(s[at+1 : at+n]) {
			follows = follows && c&0xc0 == 0x80
			code = code<<6 | int(c&0x3f)
		}
		if follows && code >= f.least && isCode(code) {
			return api.Unit{At: at, Len: n, Code: code}
		}
	}
	return api.Unit{At: at, Len: 1, Code: -1 - int(s[at])}
}

func units(s string) []api.Unit {
	var l []api.Unit
	for at := 0; at < len(s); {
		u := first(s, at)
		l = append(l, u)
		at += u.Len
	}
	return l
}

// encode is a code point's bytes, put together bit by bit.
func encode(code int) string {
	if !isCode(code) {
		return ""
	}
	n := 1
	for n < 4 && code >= shapes()[n].least {
		n++
	}
	b := make([]byte, n)
	for k := n - 1; k > 0; k-- {
		b[k] = byte(0x80 | code&0x3f)
		code >>= 6
	}
	b[0] = byte(shapes()[n-1].lead | code)
	return string(b)
}

// texts is short texts: all of up to two bytes, and of three and four all from bytes at the edges of UTF-8.
func texts(yield func(string) bool) {
	edges := "\x00a\x7f\x80\x8f\x90\x9f\xa0\xbd\xbf\xc0\xc1\xc2\xdf\xe0\xe1\xec\xed\xee\xef\xf0\xf1\xf3\xf4\xf5\xff"
	if !yield("") {
		return
	}
	for a := range 256 {
		if !yield(string([]byte{byte(a)})) {
			return
		}
		for b := range 256 {
			if !yield(string([]byte{byte(a), byte(b)})) {
				return
			}
		}
	}
	for _, a := range []byte(edges) {
		for _, b := range []byte(edges) {
			for _, c := range []byte(edges) {
				if !yield(string([]byte{a, b, c})) {
					return
				}
				for _, d := range []byte(edges) {
					if !yield(string([]byte{a, b, c, d})) {
						return
					}
				}
			}
		}
	}
}

// codesOf is the codes of units, and whether none of them is a byte.
func codesOf(l []api.Unit) ([]int, bool) {
	var codes []int
	for _, u := range l {
		if u.Code < 0 {
			return nil, false
		}
		codes = append(codes, u.Code)
	}
	return codes, true
}

// P1.1, All: the document's example, each length, and bytes that are no code points.
func TestAllTable(t *testing.T) {
	for _, c := range []struct {
		name, s string
		want    []api.Unit
	}{
		{"empty", "", nil},
		{"the document's example", "a\xff", []api.Unit{{At: 0, Len: 1, Code: 'a'}, {At: 1, Len: 1, Code: -256}}},
		{"each length", "a\u00e9\u20ac\U0001f600", []api.Unit{{At: 0, Len: 1, Code: 'a'}, {At: 1, Len: 2, Code: 0xe9}, {At: 3, Len: 3, Code: 0x20ac}, {At: 6, Len: 4, Code: 0x1f600}}},
		{"zero", "\x00", []api.Unit{{At: 0, Len: 1, Code: 0}}},
		{"the code that stands for none elsewhere", "\ufffd", []api.Unit{{At: 0, Len: 3, Code: 0xfffd}}},
		{"that code, and a byte that is none", "\ufffd\xfd\ufffd", []api.Unit{{At: 0, Len: 3, Code: 0xfffd}, {At: 3, Len: 1, Code: -254}, {At: 4, Len: 3, Code: 0xfffd}}},
		{"a byte that is none ahead of that code", "\xef\ufffd", []api.Unit{{At: 0, Len: 1, Code: -240}, {At: 1, Len: 3, Code: 0xfffd}}},
		{"that code cut short", "\xef\xbf", []api.Unit{{At: 0, Len: 1, Code: -240}, {At: 1, Len: 1, Code: -192}}},
		{"the byte 80", "\x80", []api.Unit{{At: 0, Len: 1, Code: -129}}},
		{"too long a form of two bytes", "\xc1\xbf", []api.Unit{{At: 0, Len: 1, Code: -194}, {At: 1, Len: 1, Code: -192}}},
		{"too long a form of three bytes", "\xe0\x9f\xbf", []api.Unit{{At: 0, Len: 1, Code: -225}, {At: 1, Len: 1, Code: -160}, {At: 2, Len: 1, Code: -192}}},
		{"too long a form of four bytes", "\xf0\x8f\xbf\xbf", []api.Unit{{At: 0, Len: 1, Code: -241}, {At: 1, Len: 1, Code: -144}, {At: 2, Len: 1, Code: -192}, {At: 3, Len: 1, Code: -192}}},
		{"the first surrogate", "\xed\xa0\x80", []api.Unit{{At: 0, Len: 1, Code: -238}, {At: 1, Len: 1, Code: -161}, {At: 2, Len: 1, Code: -129}}},
		{"the last surrogate", "\xed\xbf\xbf", []api.Unit{{At: 0, Len: 1, Code: -238}, {At: 1, Len: 1, Code: -192}, {At: 2, Len: 1, Code: -192}}},
		{"around the surrogates", "\xed\x9f\xbf\xee\x80\x80", []api.Unit{{At: 0, Len: 3, Code: 0xd7ff}, {At: 3, Len: 3, Code: 0xe000}}},
		{"the greatest code", "\xf4\x8f\xbf\xbf", []api.Unit{{At: 0, Len: 4, Code: greatest}}},
		{"above the greatest code", "\xf4\x90\x80\x80", []api.Unit{{At: 0, Len: 1, Code: -245}, {At: 1, Len: 1, Code: -145}, {At: 2, Len: 1, Code: -129}, {At: 3, Len: 1, Code: -129}}},
		{"cut short, and on", "\xe2\x82a", []api.Unit{{At: 0, Len: 1, Code: -227}, {At: 1, Len: 1, Code: -131}, {At: 2, Len: 1, Code: 'a'}}},
	} {
		if got := runes.All(c.s); !slices.Equal(got, c.want) {
			t.Errorf("%s: All(%q) = %v, want %v", c.name, c.s, got, c.want)
		}
	}
}

// P1.1, All, Codes: against the reading bit by bit. P1.2: the units side by side are the text.
func TestAllAndCodesOfManyTexts(t *testing.T) {
	for s := range texts {
		want := units(s)
		got := runes.All(s)
		if !slices.Equal(got, want) {
			t.Fatalf("All(%q) = %v, want %v", s, got, want)
		}
		if back := sideBySide(t, s, got); back != s {
			t.Fatalf("the units of %q side by side are %q", s, back)
		}
		wantCodes, wantOK := codesOf(want)
		if codes, ok := runes.Codes(s); ok != wantOK || !slices.Equal(codes, wantCodes) {
			t.Fatalf("Codes(%q) = %v, %v, want %v, %v", s, codes, ok, wantCodes, wantOK)
		}
	}
}

// sideBySide is the text that units say by their codes alone; each must begin where the one ahead ends.
func sideBySide(t *testing.T, s string, l []api.Unit) string {
	t.Helper()
	var b strings.Builder
	for _, u := range l {
		if u.At != b.Len() {
			t.Fatalf("a unit of %q begins at %d, not at %d", s, u.At, b.Len())
		}
		own := runes.Bytes(u.Code)
		if u.Code < 0 {
			own = string([]byte{byte(-1 - u.Code)})
		}
		if u.Len != len(own) {
			t.Fatalf("a unit of %q has %d bytes, not %d", s, u.Len, len(own))
		}
		b.WriteString(own)
	}
	return b.String()
}

// P1.2: in a long text in which right and wrong bytes are mixed.
func TestUnitsSideBySideOfALongText(t *testing.T) {
	var b strings.Builder
	for code := 0; code <= greatest+1; code += 257 {
		b.WriteString(encode(code))
		b.WriteByte(byte(code))
	}
	s := b.String()
	got := runes.All(s)
	if !slices.Equal(got, units(s)) {
		t.Error("All reads a long text in another way than bit by bit")
	}
	if sideBySide(t, s, got) != s {
		t.Error("the units of a long text side by side are another text")
	}
}

// P1.1, At: at every place, within a code point too.
func TestAtEveryPlace(t *testing.T) {
	for s := range texts {
		for i := range len(s) {
			if u, ok := runes.At(s, i); !ok || u != first(s, i) {
				t.Fatalf("At(%q, %d) = %v, %v, want %v", s, i, u, ok, first(s, i))
			}
		}
	}
}

// P1.1, At: no such place.
func TestAtNoPlace(t *testing.T) {
	for _, s := range []string{"", "a", "a\u00e9", "\xff\xff"} {
		for _, i := range []int{-1, len(s), len(s) + 1, math.MinInt, math.MaxInt, -len(s)} {
			if i == 0 && s != "" {
				continue
			}
			if u, ok := runes.At(s, i); ok || u != (api.Unit{}) {
				t.Errorf("At(%q, %d) = %v, %v", s, i, u, ok)
			}
		}
	}
}

// P1.1, Bytes: all code points, and those that are none; they are read as what they were.
func TestBytesOfEveryCode(t *testing.T) {
	for code := -300; code <= greatest+300; code++ {
		s := runes.Bytes(code)
		if s != encode(code) {
			t.Fatalf("Bytes(%#x) = %q, want %q", code, s, encode(code))
		}
		if !isCode(code) {
			continue
		}
		if l := runes.All(s); len(l) != 1 || l[0] != (api.Unit{At: 0, Len: len(s), Code: code}) {
			t.Fatalf("All(Bytes(%#x)) = %v", code, l)
		}
		if codes, ok := runes.Codes(s); !ok || !slices.Equal(codes, []int{code}) {
			t.Fatalf("Codes(Bytes(%#x)) = %v, %v", code, codes, ok)
		}
	}
}

// P1.1, Bytes: numbers whose lowest bits alone would be a code point.
func TestBytesOfNone(t *testing.T) {
	for _, code := range []int{0xd800, 0xdfff, greatest + 1, -1, -256, 1<<32 + 'a', -1<<32 + 'a', 1<<31 + 'a', 1<<21 + 'a', math.MaxInt32, math.MinInt32, math.MaxInt, math.MinInt, math.MinInt + 'a'} {
		if s := runes.Bytes(code); s != "" {
			t.Errorf("Bytes(%#x) = %q", code, s)
		}
	}
}

// P1.1, Codes: ordinary texts, and a byte that is none at the beginning, within, at the end.
func TestCodes(t *testing.T) {
	for s, want := range map[string][]int{"": nil, "a": {'a'}, "na\u00efve": {'n', 'a', 0xef, 'v', 'e'}, "\ufffd": {0xfffd}, "\x00\U0010ffff": {0, greatest}} {
		if codes, ok := runes.Codes(s); !ok || !slices.Equal(codes, want) {
			t.Errorf("Codes(%q) = %v, %v, want %v", s, codes, ok, want)
		}
	}
	for _, s := range []string{"\xff", "\xffab", "a\xffb", "ab\xff", "\u00e9\xc3", "\xed\xa0\x80", "\xc0\x80", "\ufffd\x80"} {
		if codes, ok := runes.Codes(s); ok || len(codes) != 0 {
			t.Errorf("Codes(%q) = %v, %v", s, codes, ok)
		}
	}
}

// R3, R4: what was answered once is not what is answered next; spare room is none that is shared.
func TestAnswersAreNewMemory(t *testing.T) {
	s := "a\u00e9\xff"
	one, two := runes.All(s), runes.All(s)
	one[0].Code = 7
	_ = append(one[:1], api.Unit{At: 9, Len: 9, Code: 9})
	if !slices.Equal(two, units(s)) || !slices.Equal(runes.All(s), units(s)) {
		t.Error("two answers of All share memory")
	}
	here, _ := runes.Codes("ab")
	there, _ := runes.Codes("ab")
	here[0] = 7
	if again, _ := runes.Codes("ab"); !slices.Equal(there, []int{'a', 'b'}) || !slices.Equal(again, there) {
		t.Error("two answers of Codes share memory")
	}
}
