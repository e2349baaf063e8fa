// Package runes: texts as code points.
package runes

import (
	"strings"
	"unicode/utf8"

	"abecedary/api"
)

// replacement is what decoding answers for a byte that is no code point, and a code point that a text may hold itself.
const replacement = "\ufffd"

// All is a text's units.
func All(s string) []api.Unit {
	units := make([]api.Unit, 0, utf8.RuneCountInString(s))
	for i, r := range s {
		units = append(units, unit(s, i, r))
	}
	return units
}

// At is the unit that begins at a place.
func At(s string, i int) (api.Unit, bool) {
	if i < 0 || i >= len(s) {
		return api.Unit{}, false
	}
	r, _ := utf8.DecodeRuneInString(s[i:])
	return unit(s, i, r), true
}

// Bytes is a code point's bytes.
func Bytes(code int) string {
	// The range comes first: a rune has 32 bits, and a greater number would wrap round to some code point.
	if code < 0 || code > utf8.MaxRune || !utf8.ValidRune(rune(code)) {
		return ""
	}
	return string(rune(code))
}

// Codes is a text's code points.
func Codes(s string) ([]int, bool) {
	if !utf8.ValidString(s) {
		return nil, false
	}
	codes := make([]int, 0, utf8.RuneCountInString(s))
	for _, r := range s {
		codes = append(codes, int(r))
	}
	return codes, true
}

// unit is the unit at a place where r was decoded.
func unit(s string, at int, r rune) api.Unit {
	if r == utf8.RuneError && !strings.HasPrefix(s[at:], replacement) {
		return api.Unit{At: at, Len: 1, Code: -1 - int(s[at])}
	}
	return api.Unit{At: at, Len: utf8.RuneLen(r), Code: int(r)}
}
