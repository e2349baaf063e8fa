package store_test

import (
	"math"
	"strings"
	"testing"

	"abecedary/api"
	"abecedary/store"
)

// mixed is n bytes, of all values, that do not repeat soon.
func mixed(n, seed int) string {
	b := make([]byte, n)
	x := uint32(seed)*2654435761 + 1
	for i := range b {
		x = x*1664525 + 1013904223
		b[i] = byte(x >> 24)
	}
	return string(b)
}

// slice is P5.1's Slice by its words, of all that was added.
func slice(all string, from, n int) (string, bool) {
	if from < 0 || n < 0 || from > len(all) || n > len(all)-from {
		return "", false
	}
	return all[from : from+n], true
}

func check(t *testing.T, s *store.Store, all string, from, n int) {
	t.Helper()
	got, ok := s.Slice(from, n)
	want, wantOK := slice(all, from, n)
	if ok != wantOK || got != want {
		t.Fatalf("of %d bytes Slice(%d, %d): %.40q %t, want %.40q %t", len(all), from, n, got, ok, want, wantOK)
	}
}

func TestExample(t *testing.T) {
	s := store.New("ab")
	if from := s.Add("c"); from != 2 {
		t.Error(from)
	}
	if got, ok := s.Slice(0, 3); got != "abc" || !ok {
		t.Error(got, ok)
	}
	if s.Len() != 3 {
		t.Error(s.Len())
	}
}

// P5.1: every slice, and every one that is none, of stores that were made of few bytes in every way.
func TestSmall(t *testing.T) {
	all := "a\x00\xffé"
	for cut := range 1 << (len(all) + 1) {
		s := store.New("")
		sofar := ""
		if cut&1 != 0 {
			s = store.New(all[:1])
			sofar = all[:1]
		}
		for len(sofar) < len(all) {
			k := 1
			for len(sofar)+k < len(all) && cut>>(len(sofar)+k)&1 != 0 {
				k++
			}
			if from := s.Add(all[len(sofar):][:k]); from != len(sofar) {
				t.Fatal(cut, from)
			}
			sofar = all[:len(sofar)+k]
			if s.Len() != len(sofar) {
				t.Fatal(cut, s.Len())
			}
			for from := -2; from <= len(all)+2; from++ {
				for n := -2; n <= len(all)+2; n++ {
					check(t, s, sofar, from, n)
				}
			}
		}
	}
}

// P5.1: the edges that the chapter names, and the greatest and the least numbers.
func TestEdges(t *testing.T) {
	for _, first := range []string{"", "x", mixed(1000, 1), mixed(5000, 2)} {
		s := store.New(first)
		if s.Len() != len(first) {
			t.Fatal(s.Len())
		}
		places := []int{math.MinInt, math.MinInt + 1, -1 << 31, -1, 0, 1, len(first) - 1, len(first), len(first) + 1, 1 << 31, math.MaxInt - 1, math.MaxInt}
		for _, from := range places {
			for _, n := range places {
				check(t, s, first, from, n)
			}
		}
		if got, ok := s.Slice(len(first), 0); got != "" || !ok {
			t.Error("none behind all", got, ok)
		}
		if _, ok := s.Slice(len(first)+1, 0); ok {
			t.Error("none from above Len")
		}
		if from := s.Add(""); from != len(first) || s.Len() != len(first) {
			t.Error("nothing added", from, s.Len())
		}
	}
}

// P5.1, P5.2: long texts of every length around the powers of two, and all that was answered stays.
func TestLong(t *testing.T) {
	s := store.New(mixed(77, 0))
	all := mixed(77, 0)
	var kept, want []string
	for i := range 16 {
		for _, d := range []int{-1, 0, 1} {
			add := mixed(max(0, 1<<i+d), i*3+d)
			if from := s.Add(add); from != len(all) {
				t.Fatal(i, d, from)
			}
			all += add
			if s.Len() != len(all) {
				t.Fatal(s.Len())
			}
			for from := 0; from <= len(all); from += len(all)/13 + 1 {
				for _, n := range []int{0, 1, len(all) / 7, len(all) - from, len(all) - from + 1} {
					check(t, s, all, from, n)
				}
				got, _ := s.Slice(from, min(9, len(all)-from))
				kept, want = append(kept, got), append(want, all[from:][:min(9, len(all)-from)])
			}
		}
	}
	for i := range kept {
		if kept[i] != want[i] {
			t.Fatal("an answer has changed", i)
		}
	}
}

// P5.1: one byte at a time, to more than a text may have; near each place all slices that are short.
func TestByBytes(t *testing.T) {
	all := mixed(api.MaxText+10, 5)
	s := store.New("")
	for i := range len(all) {
		if from := s.Add(all[i : i+1]); from != i {
			t.Fatal(i, from)
		}
		check(t, s, all[:i+1], max(0, i-4), 5)
		check(t, s, all[:i+1], i, 2)
	}
	for from := range len(all) {
		check(t, s, all, from, 3)
	}
	check(t, s, all, 0, len(all))
}

// R4: two stores have nothing in common.
func TestApart(t *testing.T) {
	a, b := store.New("same"), store.New("same")
	a.Add("one")
	b.Add("two and more")
	check(t, a, "sameone", 0, 7)
	check(t, b, "sametwo and more", 0, 16)
}

// P5.2: a refused Slice has changed nothing.
func TestRefused(t *testing.T) {
	s := store.New("abc")
	for _, c := range [][2]int{{-1, 0}, {0, -1}, {4, 0}, {0, 4}, {3, 1}, {math.MaxInt, math.MaxInt}} {
		if got, ok := s.Slice(c[0], c[1]); got != "" || ok {
			t.Error(c, got, ok)
		}
		check(t, s, "abc", 0, 3)
	}
	if from := s.Add("d"); from != 3 {
		t.Error(from)
	}
	check(t, s, "abcd", 0, 4)
}

// T5: a short slice of a long store takes memory of its own alone.
func TestLittleMemory(t *testing.T) {
	s := store.New(strings.Repeat("x", api.MaxText))
	if n := testing.AllocsPerRun(100, func() { s.Slice(1000, 100) }); n > 1 {
		t.Error(n)
	}
}
