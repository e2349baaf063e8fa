package edit_test

import (
	"fmt"
	"math"
	"strings"
	"testing"

	"abecedary/api"
	"abecedary/buffer"
	"abecedary/edit"
)

// mixed is n bytes, of all values, that do not repeat soon.
func mixed(n, seed int) string {
	b := make([]byte, n)
	x := uint32(seed)*2654435761 + 1
	for i := range b {
		x = x*1664525 + 1013904223
		b[i] = byte(x >> 24)
	}
	return string(b)
}

// mixer is numbers that look like any, the same ones each time.
type mixer uint64

func (m *mixer) below(n int) int {
	*m = *m*6364136223846793005 + 1442695040888963407
	return int(uint64(*m) >> 33 % uint64(n))
}

// edges is numbers at which a sum or a difference would wrap round, and those around a length.
func edges(n int) []int {
	return []int{math.MinInt, math.MinInt + 1, -1 << 32, -n - 1, -1, 0, 1, n / 2, n - 1, n, n + 1, 1 << 32, math.MaxInt - n, math.MaxInt - 1, math.MaxInt}
}

// words is all texts of at most so many bytes, each of them one of a few.
func words(bytes string, most int) []string {
	out := []string{""}
	for from := 0; most > 0; most-- {
		to := len(out)
		for _, s := range out[from:to] {
			for i := range len(bytes) {
				out = append(out, s+bytes[i:i+1])
			}
		}
		from = to
	}
	return out
}

// stands tells, byte by byte, whether a text stands at a place of another one.
func stands(s string, at int, part string) bool {
	if at < 0 || at > len(s) || len(part) > len(s)-at {
		return false
	}
	for i := range len(part) {
		if s[at+i] != part[i] {
			return false
		}
	}
	return true
}

// shown is an edit as a failing test tells it.
func shown(e api.Edit) string {
	return fmt.Sprintf("{%d, %.40q, %.40q}", e.At, e.Del, e.Ins)
}

// applied is P7.1's Apply by its words.
func applied(s string, e api.Edit) (string, bool) {
	if !stands(s, e.At, e.Del) {
		return "", false
	}
	return strings.Join([]string{s[:e.At], e.Ins, s[e.At+len(e.Del):]}, ""), true
}

func TestExample(t *testing.T) {
	if got, want := edit.Inverse(api.Edit{At: 1, Del: "a", Ins: "b"}), (api.Edit{At: 1, Del: "b", Ins: "a"}); got != want {
		t.Errorf("%s, want %s", shown(got), shown(want))
	}
}

// P7.1: all edits of few bytes, at all places and beyond them, of all short texts; and the Inverse makes of what came what was.
func TestApplySmall(t *testing.T) {
	for _, s := range words("ab", 3) {
		for at := -2; at <= len(s)+2; at++ {
			for _, del := range words("ab", 4) {
				for _, ins := range words("ab", 2) {
					e := api.Edit{At: at, Del: del, Ins: ins}
					got, ok := edit.Apply(s, e)
					if want, wantOK := applied(s, e); got != want || ok != wantOK {
						t.Fatalf("Apply(%q, %s): %q %t, want %q %t", s, shown(e), got, ok, want, wantOK)
					}
					if !ok {
						continue
					}
					if back, ok := edit.Apply(got, edit.Inverse(e)); back != s || !ok {
						t.Fatalf("%s of %q, and back: %q %t", shown(e), s, back, ok)
					}
				}
			}
		}
	}
}

// P7.1: places of any kind; bytes of any kind, half a code point too; long texts.
func TestApplyEdges(t *testing.T) {
	for _, s := range []string{"", "a", "né\xff\x00", mixed(3000, 1)} {
		for _, at := range edges(len(s)) {
			for _, del := range []string{"", "\xff", "\xa9\xff", s, s + "x", s[len(s)/2:], s[len(s)/2:] + "\x00"} {
				for _, ins := range []string{"", "\xc3", s, mixed(70000, 2)} {
					e := api.Edit{At: at, Del: del, Ins: ins}
					got, ok := edit.Apply(s, e)
					if want, wantOK := applied(s, e); got != want || ok != wantOK {
						t.Fatalf("Apply of %d bytes, {%d, %d bytes, %d bytes}: %d bytes %t, want %d bytes %t", len(s), at, len(del), len(ins), len(got), ok, len(want), wantOK)
					}
				}
			}
		}
	}
}

// P7.1: of any edit, also such as stand nowhere.
func TestInverse(t *testing.T) {
	for _, at := range edges(5) {
		for _, del := range []string{"", "a", "\xff\x00", mixed(100, 1)} {
			for _, ins := range []string{"", "a", "é", mixed(100, 2)} {
				e := api.Edit{At: at, Del: del, Ins: ins}
				got := edit.Inverse(e)
				if got.At != at || got.Del != ins || got.Ins != del {
					t.Errorf("Inverse of %s: %s", shown(e), shown(got))
				}
				if back := edit.Inverse(got); back != e {
					t.Errorf("Inverse of Inverse of %s: %s", shown(e), shown(back))
				}
			}
		}
	}
}

// both is a buffer, and the flat text that it stands for by the words of the promise.
type both struct {
	buf  *buffer.Buffer
	text string
	most int
}

// of is a buffer of a text that may have most bytes.
func of(t *testing.T, s string, most int) *both {
	t.Helper()
	b, e := buffer.New(s, most)
	if b == nil || e != api.OK {
		t.Fatalf("New(%.40q, %d): %v, %d", s, most, b, e)
	}
	return &both{buf: b, text: s, most: most}
}

// cut is a buffer of a text in as many pieces as it has bytes.
func cut(t *testing.T, s string, most int) *both {
	t.Helper()
	b := of(t, "", most)
	for i := range len(s) {
		if e := b.buf.Insert(i, s[i:i+1]); e != api.OK {
			t.Fatal(e)
		}
	}
	b.text = s
	return b
}

// put is the flat text with a change, or what refuses it.
func (b *both) put(at int, del, ins string) api.Errno {
	if len(b.text)-len(del)+len(ins) > b.most {
		return api.ErrBig
	}
	b.text = b.text[:at] + ins + b.text[at+len(del):]
	return api.OK
}

// wantDo is what P7.2 says of a Do.
func (b *both) wantDo(at, n int, ins string) (api.Edit, api.Errno) {
	if at < 0 || n < 0 || at > len(b.text) || n > len(b.text)-at {
		return api.Edit{}, api.ErrPlace
	}
	e := api.Edit{At: at, Del: b.text[at : at+n], Ins: ins}
	if err := b.put(at, e.Del, ins); err != api.OK {
		return api.Edit{}, err
	}
	return e, api.OK
}

func (b *both) do(t *testing.T, at, n int, ins string) (api.Edit, api.Errno) {
	t.Helper()
	ahead, high := b.buf.Pieces(), b.buf.Height()
	want, wantErr := b.wantDo(at, n, ins)
	got, err := edit.Do(b.buf, at, n, ins)
	if got != want || err != wantErr {
		t.Fatalf("Do(%d, %d, %.40q) with %d bytes of %d: %s %d, want %s %d", at, n, ins, len(b.text), b.most, shown(got), err, shown(want), wantErr)
	}
	b.same(t, err != api.OK || n == 0 && ins == "", ahead, high)
	return got, err
}

// wantUndo is what P7.2 says of an Undo.
func (b *both) wantUndo(e api.Edit) api.Errno {
	if !stands(b.text, e.At, e.Ins) {
		return api.ErrPlace
	}
	return b.put(e.At, e.Ins, e.Del)
}

func (b *both) undo(t *testing.T, e api.Edit) api.Errno {
	t.Helper()
	ahead, high := b.buf.Pieces(), b.buf.Height()
	want := b.wantUndo(e)
	got := edit.Undo(b.buf, e)
	if got != want {
		t.Fatalf("Undo(%s) with %d bytes of %d: %d, want %d", shown(e), len(b.text), b.most, got, want)
	}
	b.same(t, got != api.OK || e.Del == "" && e.Ins == "", ahead, high)
	return got
}

// same holds the buffer's text against the flat one; where nothing was to be done, no piece is another one.
func (b *both) same(t *testing.T, nothing bool, pieces, height int) {
	t.Helper()
	if got := b.buf.Text(); got != b.text {
		t.Fatalf("text %.60q, want %.60q", got, b.text)
	}
	if b.buf.Len() != len(b.text) {
		t.Fatalf("Len %d, want %d", b.buf.Len(), len(b.text))
	}
	if nothing && (b.buf.Pieces() != pieces || b.buf.Height() != height) {
		t.Fatalf("nothing was done, but of %d pieces, %d high, are %d, %d", pieces, height, b.buf.Pieces(), b.buf.Height())
	}
}

// P7.2, P7.3: each Do of few bytes, at all places and beyond them, with all room that there may be, of a text in one piece and in many; and back, and again.
func TestDoSmall(t *testing.T) {
	for _, s := range words("ab", 3) {
		for most := len(s); most <= len(s)+3; most++ {
			for at := -1; at <= len(s)+1; at++ {
				for n := -1; n <= len(s)+1; n++ {
					for _, ins := range words("ax", 3) {
						for _, b := range []*both{of(t, s, most), cut(t, s, most)} {
							e, err := b.do(t, at, n, ins)
							if err != api.OK {
								b.fill(t)
								continue
							}
							if b.undo(t, e) != api.OK || b.text != s {
								t.Fatalf("%s undone: %q, was %q", shown(e), b.text, s)
							}
							if b.undo(t, edit.Inverse(e)) != api.OK {
								t.Fatalf("%s, undone, is not done again", shown(e))
							}
							b.fill(t)
						}
					}
				}
			}
		}
	}
}

// fill puts bytes until there is no room: there is just as much as there must be.
func (b *both) fill(t *testing.T) {
	t.Helper()
	room := b.most - len(b.text)
	if _, err := b.do(t, 0, 0, strings.Repeat("z", room+1)); err != api.ErrBig {
		t.Fatal(err)
	}
	if _, err := b.do(t, len(b.text), 0, strings.Repeat("z", room)); err != api.OK {
		t.Fatal(err)
	}
}

// P7.2: each Undo of few bytes, whether it was ever done or not.
func TestUndoSmall(t *testing.T) {
	for _, s := range words("ab", 3) {
		for most := len(s); most <= len(s)+2; most++ {
			for at := -1; at <= len(s)+1; at++ {
				for _, del := range words("ax", 3) {
					for _, ins := range words("ab", 3) {
						e := api.Edit{At: at, Del: del, Ins: ins}
						for _, b := range []*both{of(t, s, most), cut(t, s, most)} {
							if b.undo(t, e) == api.OK {
								b.undo(t, edit.Inverse(e))
							}
						}
					}
				}
			}
		}
	}
}

// P7.2: numbers of any kind, texts of any length: a place that there is not is named ahead of what is too much, and nothing has changed.
func TestEdges(t *testing.T) {
	for _, pieces := range []int{0, 1, 2, 9, 300} {
		b := of(t, "", 1000)
		for i := range pieces {
			b.do(t, i, 0, mixed(1+i%3, i))
		}
		n := len(b.text)
		for _, at := range edges(n) {
			for _, k := range edges(n) {
				if at < 0 || k < 0 || at > n || k > n-at {
					b.do(t, at, k, "x")
					b.do(t, at, k, mixed(1001, 1))
					continue
				}
				b.do(t, at, k, mixed(1001-n+k, 2))
				if e, err := b.do(t, at, k, mixed(1000-n+k, 3)); err == api.OK {
					b.undo(t, e)
				}
			}
			b.undo(t, api.Edit{At: at})
			b.undo(t, api.Edit{At: at, Ins: b.text + "x"})
			b.undo(t, api.Edit{At: at, Ins: b.text + "x", Del: mixed(1001, 4)})
			b.undo(t, api.Edit{At: at, Del: mixed(1001-n, 5)})
		}
	}
}

// P7.2: a text as long as any may be: each byte by others, as many, fewer, one more.
func TestFull(t *testing.T) {
	b := of(t, mixed(api.MaxText, 1), api.MaxText)
	for _, at := range []int{0, 1, 5000, api.MaxText / 2, api.MaxText - 1, api.MaxText} {
		n := min(40, api.MaxText-at)
		b.do(t, at, n, mixed(n+1, at))
		b.do(t, at, 0, "x")
		b.do(t, at, 0, "")
		b.do(t, at, n, mixed(n, at))
		e, _ := b.do(t, at, n, "")
		b.undo(t, e)
		if e, err := b.do(t, 0, api.MaxText, mixed(at, 3)); err != api.OK || b.undo(t, e) != api.OK {
			t.Fatal(at, err)
		}
	}
	b.undo(t, api.Edit{At: 7, Del: "x"})
	b.undo(t, api.Edit{At: 7, Del: "xy", Ins: b.text[7:8]})
	b.undo(t, api.Edit{At: 7, Del: "x", Ins: b.text[7:8]})
	b.undo(t, api.Edit{At: 7, Del: "x", Ins: "no such text"})
}

// P7.3, T2: many changes of a text, all undone, all done again, over and over; Apply says of each what the buffer says.
func TestThereAndBack(t *testing.T) {
	m := mixer(11)
	b := of(t, mixed(400, 1), 1500)
	var texts []string
	var done []api.Edit
	for len(done) < 400 {
		at := m.below(len(b.text) + 1)
		n := m.below(min(30, len(b.text)-at) + 1)
		was := b.text
		e, err := b.do(t, at, n, mixed(m.below(40), len(done)))
		if err != api.OK {
			continue
		}
		texts, done = append(texts, was), append(done, e)
		if got, ok := edit.Apply(was, e); got != b.text || !ok {
			t.Fatalf("Apply of %s is not what was done: %t", shown(e), ok)
		}
	}
	last := b.text
	for range 3 {
		for i := len(done) - 1; i >= 0; i-- {
			if b.undo(t, done[i]) != api.OK || b.text != texts[i] {
				t.Fatalf("change %d undone: another text", i)
			}
		}
		for _, e := range done {
			if got, err := b.do(t, e.At, len(e.Del), e.Ins); err != api.OK || got != e {
				t.Fatalf("%s done again: %s, %d", shown(e), shown(got), err)
			}
		}
		if b.text != last {
			t.Fatal("all done again: another text")
		}
	}
}

// P7.2: what was undone is told by bytes, in code points' midst too, and whatever pieces they lie in.
func TestHalfCodePoints(t *testing.T) {
	b := of(t, "né", 9)
	e, _ := b.do(t, 2, 1, "\xaa\xc3")
	if b.text != "nê\xc3" || e != (api.Edit{At: 2, Del: "\xa9", Ins: "\xaa\xc3"}) {
		t.Fatalf("%q, %s", b.text, shown(e))
	}
	b.do(t, 3, 0, "!")
	if b.undo(t, e) != api.ErrPlace {
		t.Error("undone, where it does not stand")
	}
	b.do(t, 3, 1, "")
	if b.undo(t, e) != api.OK || b.text != "né" {
		t.Errorf("%q", b.text)
	}
}

// R3: an edit that was answered stays, whatever comes behind it.
func TestAnswersStay(t *testing.T) {
	b := of(t, mixed(2000, 8), 4000)
	var got, want []api.Edit
	for i := range 200 {
		e := api.Edit{At: i * 9, Del: b.text[i*9 : i*9+i%7], Ins: mixed(i%8, i)}
		d, _ := b.do(t, e.At, len(e.Del), e.Ins)
		got, want = append(got, d), append(want, e)
	}
	for i := range got {
		if got[i] != want[i] {
			t.Fatal("an answer has changed", i)
		}
	}
}

// R4: two buffers have nothing in common.
func TestApart(t *testing.T) {
	a, b := of(t, "same text", 20), of(t, "same text", 20)
	e, _ := a.do(t, 0, 4, "another")
	b.do(t, 5, 4, "one")
	if b.undo(t, e) != api.ErrPlace {
		t.Error("what was done to one is undone in another")
	}
	a.undo(t, e)
	b.same(t, false, 0, 0)
}

// T5: a change of a text in many pieces makes few others, and looks at few.
func TestLittleWork(t *testing.T) {
	b := cut(t, mixed(5000, 2), 9000)
	for i := range 200 {
		at := i * 17
		ahead := b.buf.Pieces()
		e, _ := b.do(t, at, i%4, mixed(i%6, i))
		if n := b.buf.Pieces(); n > ahead+3 {
			t.Fatalf("%s made of %d pieces %d", shown(e), ahead, n)
		}
		ahead = b.buf.Pieces()
		b.undo(t, e)
		if n := b.buf.Pieces(); n > ahead+3 {
			t.Fatalf("%s, undone, made of %d pieces %d", shown(e), ahead, n)
		}
	}
	if n := testing.AllocsPerRun(100, func() {
		e, _ := edit.Do(b.buf, 2500, 2, "three")
		edit.Undo(b.buf, e)
	}); n > 200 {
		t.Errorf("a short change of a long text takes memory %v times", n)
	}
}
