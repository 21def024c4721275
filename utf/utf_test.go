package utf_test

import (
	"slices"
	"strings"
	"testing"
	"unicode/utf8"

	"rhizome/api"
	"rhizome/utf"
)

const lastRune = 1114111

// edges are the runes on both sides of each border that the chapter names, with their bytes.
var edges = []struct {
	r int
	s string
}{
	{0, "\x00"},
	{'a', "a"},
	{127, "\x7f"},
	{128, "\xc2\x80"},
	{233, "\xc3\xa9"},
	{2047, "\xdf\xbf"},
	{2048, "\xe0\xa0\x80"},
	{8364, "\xe2\x82\xac"},
	{55295, "\xed\x9f\xbf"},
	{57344, "\xee\x80\x80"},
	{65533, "\xef\xbf\xbd"},
	{65535, "\xef\xbf\xbf"},
	{65536, "\xf0\x90\x80\x80"},
	{128512, "\xf0\x9f\x98\x80"},
	{1114111, "\xf4\x8f\xbf\xbf"},
}

// noRunes are numbers that are no runes; among them some whose last bits would be those of one.
var noRunes = []int{
	-1, -2, -128, -55296, -1 << 31, -1 << 62, -1 << 63,
	55296, 55297, 56320, 57342, 57343,
	1114112, 1114113, 2097151, 2097152, 1<<31 - 1, 1 << 31, 1 << 32, 1<<32 + 'a', 1<<63 - 1,
}

// noForms are bytes with which no rune begins.
var noForms = []string{
	// A further byte comes first.
	"\x80", "\xbf", "\x80a", "\xa9\xc3", "\xbf\x80\x80\x80",
	// Cut short, at the end or by another byte.
	"\xc2", "\xdf", "\xe2", "\xe2\x82", "\xf0", "\xf0\x9f", "\xf0\x9f\x98",
	"\xc2a", "\xc3\xc3\xa9", "\xe2\x82a", "\xe2a\xac", "\xe2\xc2\x80", "\xf0\x9f\x98a", "\xf0\x9fa\x80", "\xf0a\x98\x80",
	"\xc2\x7f", "\xc2\xc0", "\xe2\x7f\x80", "\xe2\x82\xc0", "\xf0\x9f\x98\x7f", "\xf0\x9f\x98\xff",
	// Longer than need be.
	"\xc0\x80", "\xc0\xaf", "\xc1\x81", "\xc1\xbf", "\xe0\x80\x80", "\xe0\x81\xbf", "\xe0\x82\x80", "\xe0\x9f\xbf",
	"\xf0\x80\x80\x80", "\xf0\x80\x80\xaf", "\xf0\x82\x82\xac", "\xf0\x8f\xbf\xbf",
	// Of 55296 to 57343.
	"\xed\xa0\x80", "\xed\xa0\xbd\xed\xb8\x80", "\xed\xaf\xbf", "\xed\xb0\x80", "\xed\xbf\xbf",
	// Above those of 1114111, and forms that there are not.
	"\xf4\x90\x80\x80", "\xf4\xbf\xbf\xbf", "\xf5\x80\x80\x80", "\xf7\xbf\xbf\xbf",
	"\xf8\x88\x80\x80\x80", "\xfb\xbf\xbf\xbf\xbf", "\xfc\x84\x80\x80\x80\x80", "\xfe", "\xfe\x80\x80\x80\x80\x80\x80", "\xff", "\xff\xff",
}

func isRune(r int) bool { return r >= 0 && r <= lastRune && (r < 55296 || r > 57343) }

func wantGet(t *testing.T, s string, r, n int, e api.Errno) {
	t.Helper()
	if gotR, gotN, gotE := utf.Get(s); gotR != r || gotN != n || gotE != e {
		t.Errorf("Get(%x) = %d, %d, %d; want %d, %d, %d", s, gotR, gotN, gotE, r, n, e)
	}
}

// collect goes over the runes of s to the end.
func collect(s string) (at, runes []int) {
	for i, r := range utf.Runes(s) {
		at, runes = append(at, i), append(runes, r)
	}
	return at, runes
}

// P1.1: Put answers the bytes of a rune.
func TestPut(t *testing.T) {
	for _, x := range edges {
		if b, e := utf.Put(x.r); string(b) != x.s || e != api.OK {
			t.Errorf("Put(%d) = %x, %d; want %x", x.r, b, e, x.s)
		}
	}
}

// P1.1: Put refuses what is no rune, and answers no bytes beside the error.
func TestPutNoRune(t *testing.T) {
	for _, r := range noRunes {
		if b, e := utf.Put(r); len(b) != 0 || e != api.ErrArg {
			t.Errorf("Put(%d) = %x, %d; want ErrArg", r, b, e)
		}
	}
}

// P1.1: what Put answers belongs to the caller.
func TestPutNewMemory(t *testing.T) {
	for _, x := range edges {
		b, _ := utf.Put(x.r)
		for i := range b {
			b[i] = 255
		}
		c, _ := utf.Put(x.r)
		_ = append(b[:0], "zzzz"...)
		if string(c) != x.s {
			t.Errorf("Put(%d) = %x after its first answer was overwritten; want %x", x.r, c, x.s)
		}
	}
}

// P1.1: Get answers the rune and its length, whatever comes after it.
func TestGet(t *testing.T) {
	for _, x := range edges {
		for _, after := range []string{"", "a", "\x00", "é", "\x80", "\xff", "\xf0\x9f"} {
			wantGet(t, x.s+after, x.r, len(x.s), api.OK)
		}
	}
}

// P1.1: Get refuses bytes with which no rune begins, also if runes come later.
func TestGetNoRune(t *testing.T) {
	wantGet(t, "", 0, 0, api.ErrText)
	for _, s := range noForms {
		wantGet(t, s, 0, 0, api.ErrText)
		wantGet(t, s+"a", 0, 0, api.ErrText)
	}
}

// P1.1: each rune cut short at any place is refused.
func TestGetCut(t *testing.T) {
	for _, x := range edges {
		for n := range len(x.s) {
			wantGet(t, x.s[:n], 0, 0, api.ErrText)
		}
	}
}

// P1.1: for all runes, and the numbers below and above them, Put is as the library has it.
func TestPutAll(t *testing.T) {
	for r := -3000; r <= lastRune+3000; r++ {
		b, e := utf.Put(r)
		if !isRune(r) {
			if len(b) != 0 || e != api.ErrArg {
				t.Fatalf("Put(%d) = %x, %d; want ErrArg", r, b, e)
			}
			continue
		}
		if want := string(rune(r)); string(b) != want || e != api.OK {
			t.Fatalf("Put(%d) = %x, %d; want %x", r, b, e, want)
		}
	}
}

// P1.1: all texts of up to three bytes, and those of four whose last three stand at a border, are as the library has them.
func TestGetAllBytes(t *testing.T) {
	check := func(b ...byte) {
		s := string(b)
		want, n := utf8.DecodeRuneInString(s)
		e := api.OK
		if want == utf8.RuneError && n < 2 {
			want, n, e = 0, 0, api.ErrText
		}
		if r, m, f := utf.Get(s); r != int(want) || m != n || f != e {
			t.Fatalf("Get(%x) = %d, %d, %d; want %d, %d, %d", s, r, m, f, want, n, e)
		}
		if v := utf.Valid(s); v != utf8.ValidString(s) {
			t.Fatalf("Valid(%x) = %v", s, v)
		}
	}
	borders := []byte{0x00, 0x61, 0x7f, 0x80, 0x81, 0x8f, 0x90, 0x9f, 0xa0, 0xbf, 0xc0, 0xc2, 0xe0, 0xf0, 0xff}
	for a := range 256 {
		check(byte(a))
		for b := range 256 {
			check(byte(a), byte(b))
			for c := range 256 {
				check(byte(a), byte(b), byte(c))
			}
			for _, c := range borders {
				for _, d := range borders {
					check(byte(a), byte(b), c, d)
				}
			}
		}
	}
}

// P1.2: Valid of texts that are well-formed.
func TestValid(t *testing.T) {
	for _, s := range []string{"", "a", "\x00", "abc", "aé€😀", strings.Repeat("€", 1000), "\ufffd", "\ufeff"} {
		if !utf.Valid(s) {
			t.Errorf("Valid(%x) = false", s)
		}
	}
	for _, x := range edges {
		if !utf.Valid(x.s) || !utf.Valid("a"+x.s+x.s) {
			t.Errorf("Valid of %d's bytes = false", x.r)
		}
	}
}

// P1.2: Valid finds wrong bytes at the beginning, within and at the end.
func TestValidWrong(t *testing.T) {
	for _, s := range noForms {
		for _, x := range []string{s, s + "a", "a" + s, "aé€😀" + s, "a" + s + "z", strings.Repeat("é", 500) + s} {
			if utf.Valid(x) {
				t.Errorf("Valid(%x) = true", x)
			}
		}
	}
}

// P1.2: Len counts runes, up to the first position where none is.
func TestLen(t *testing.T) {
	for s, want := range map[string]int{"": 0, "a": 1, "\x00\x00": 2, "aé€😀": 4, strings.Repeat("😀", 1000): 1000} {
		if n := utf.Len(s); n != want {
			t.Errorf("Len(%x) = %d; want %d", s, n, want)
		}
		for _, wrong := range noForms {
			if n := utf.Len(s + wrong + "abc"); n != want {
				t.Errorf("Len(%x) = %d; want %d", s+wrong+"abc", n, want)
			}
		}
	}
}

// P1.2: Of lays the bytes of all runes one after another.
func TestOf(t *testing.T) {
	var all []int
	var want string
	for _, x := range edges {
		if s, e := utf.Of([]int{x.r}); s != x.s || e != api.OK {
			t.Errorf("Of(%d) = %x, %d; want %x", x.r, s, e, x.s)
		}
		all, want = append(all, x.r), want+x.s
	}
	kept := slices.Clone(all)
	if s, e := utf.Of(all); s != want || e != api.OK {
		t.Errorf("Of(%v) = %x, %d; want %x", all, s, e, want)
	}
	if !slices.Equal(all, kept) {
		t.Errorf("Of changed its list to %v", all)
	}
	for _, l := range [][]int{nil, {}} {
		if s, e := utf.Of(l); s != "" || e != api.OK {
			t.Errorf("Of(%v) = %x, %d", l, s, e)
		}
	}
}

// P1.2: Of refuses a list with a number that is no rune, wherever it stands, and answers no text beside the error.
func TestOfNoRune(t *testing.T) {
	for _, r := range noRunes {
		for _, l := range [][]int{{r}, {r, 'a'}, {'a', r}, {'a', 8364, r, 'b'}, {r, r}} {
			if s, e := utf.Of(l); s != "" || e != api.ErrArg {
				t.Errorf("Of(%v) = %x, %d; want ErrArg", l, s, e)
			}
		}
	}
}

// P1.3: Runes goes over the positions and the runes.
func TestRunes(t *testing.T) {
	at, runes := collect("aé€😀\x00")
	if !slices.Equal(at, []int{0, 1, 3, 6, 10}) || !slices.Equal(runes, []int{97, 233, 8364, 128512, 0}) {
		t.Errorf("positions %v, runes %v", at, runes)
	}
	if at, runes := collect(""); len(at) != 0 || len(runes) != 0 {
		t.Errorf("of the empty text: positions %v, runes %v", at, runes)
	}
}

// P1.3: Runes ends at the first position where no rune is.
func TestRunesWrong(t *testing.T) {
	for _, s := range noForms {
		if at, runes := collect(s + "a"); len(at) != 0 || len(runes) != 0 {
			t.Errorf("of %x: positions %v, runes %v", s+"a", at, runes)
		}
		at, runes := collect("é€" + s + "a")
		if !slices.Equal(at, []int{0, 2}) || !slices.Equal(runes, []int{233, 8364}) {
			t.Errorf("of %x: positions %v, runes %v", "é€"+s+"a", at, runes)
		}
	}
}

// P1.3: the iteration may be stopped anywhere, and repeated: it begins anew, also within itself.
func TestRunesStopAndRepeat(t *testing.T) {
	l := utf.Runes("aé€😀")
	want := []int{97, 233, 8364, 128512}
	for stop := range 5 {
		var got []int
		for _, r := range l {
			if len(got) == stop {
				break
			}
			got = append(got, r)
		}
		if !slices.Equal(got, want[:stop]) {
			t.Errorf("stopped after %d: %v", stop, got)
		}
	}
	n := 0
	for range l {
		for range l {
			n++
		}
	}
	if n != 16 {
		t.Errorf("%d steps within one another; want 16", n)
	}
}

// P1.4: Get of Put is the rune, for all of them.
func TestGetOfPut(t *testing.T) {
	for r := range lastRune + 1 {
		if !isRune(r) {
			continue
		}
		b, _ := utf.Put(r)
		if x, n, e := utf.Get(string(b)); x != r || n != len(b) || e != api.OK {
			t.Fatalf("Get of Put(%d) = %d, %d, %d", r, x, n, e)
		}
	}
}

// P1.4: what is well-formed is Of of its runes.
func TestOfRunes(t *testing.T) {
	texts := []string{"", "a", "aé€😀", "\x00\x7f\u0080\u07ff\u0800\ud7ff\ue000\uffff\U00010000\U0010ffff"}
	for _, x := range edges {
		for _, y := range edges {
			texts = append(texts, x.s+y.s)
		}
	}
	for _, s := range texts {
		_, runes := collect(s)
		if x, e := utf.Of(runes); x != s || e != api.OK || !utf.Valid(x) || utf.Len(x) != len(runes) {
			t.Errorf("Of of the runes %v of %x = %x, %d", runes, s, x, e)
		}
	}
}

// P1.4: well-formed bytes are ordered as their runes are.
func TestOrder(t *testing.T) {
	last := ""
	for r := 1; r <= lastRune; r++ {
		if !isRune(r) {
			continue
		}
		b, _ := utf.Put(r)
		if s := string(b); s <= last {
			t.Fatalf("%d: %x is not after %x", r, s, last)
		} else {
			last = s
		}
	}
	var lists [][]int
	for _, x := range edges {
		lists = append(lists, nil, []int{x.r})
		for _, y := range edges {
			lists = append(lists, []int{x.r, y.r})
		}
	}
	for _, a := range lists {
		for _, b := range lists {
			s, _ := utf.Of(a)
			z, _ := utf.Of(b)
			if strings.Compare(s, z) != slices.Compare(a, b) {
				t.Fatalf("%v and %v, but %x and %x", a, b, s, z)
			}
		}
	}
}

// The examples of the chapter.
func TestExamples(t *testing.T) {
	if b, e := utf.Put(233); !slices.Equal(b, []byte{195, 169}) || e != api.OK {
		t.Error(b, e)
	}
	if b, e := utf.Put(8364); !slices.Equal(b, []byte{226, 130, 172}) || e != api.OK {
		t.Error(b, e)
	}
	if b, e := utf.Put(55296); len(b) != 0 || e != api.ErrArg {
		t.Error(b, e)
	}
	wantGet(t, "\xc0\x80", 0, 0, api.ErrText)
	if !utf.Valid("a") {
		t.Error("a is not well-formed")
	}
}
