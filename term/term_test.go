package term_test

import (
	"fmt"
	"math"
	"slices"
	"strings"
	"testing"

	"rhizome/api"
	"rhizome/term"
)

func iri(s string) api.Term              { return api.Term{Kind: api.IRI, Text: s} }
func blank(s string) api.Term            { return api.Term{Kind: api.Blank, Text: s} }
func plain(s string) api.Term            { return api.Term{Kind: api.Plain, Text: s} }
func lang(s, tag string) api.Term        { return api.Term{Kind: api.Lang, Text: s, Extra: tag} }
func typed(s, of string) api.Term        { return api.Term{Kind: api.Typed, Text: s, Extra: of} }
func triple(s, p, o api.Term) api.Triple { return api.Triple{s, p, o} }

// show is how tests tell of terms; of long texts the beginning.
func show(terms ...api.Term) string {
	var l []string
	for _, t := range terms {
		l = append(l, fmt.Sprintf("%d %.60q %.60q", t.Kind, t.Text, t.Extra))
	}
	return "(" + strings.Join(l, "; ") + ")"
}

// showAll is how tests tell of triples.
func showAll(triples ...api.Triple) string {
	var l []string
	for _, t := range triples {
		l = append(l, show(t[:]...))
	}
	return strings.Join(l, " ")
}

// The letters and digits, written out.
const (
	small   = "abcdefghijklmnopqrstuvwxyz"
	capital = "ABCDEFGHIJKLMNOPQRSTUVWXYZ"
	digit   = "0123456789"
)

// noTexts are bytes that are not well-formed.
var noTexts = []string{
	"\x80", "\xff", "a\x80", "a\xc3", "\xc0\x80", "é\xa9", "\xe2\x82", "\xed\xa0\x80", "\xf4\x90\x80\x80", "a\xffb", "\xf0\x9f\x98",
}

// values are texts of a Plain, a Lang, a Typed, with what they are when they are escaped.
var values = []struct{ text, escaped string }{
	{"", ""},
	{"a", "a"},
	{" ", " "},
	{"b c", "b c"},
	{"'", "'"},
	{"<>{}|^`@_:?.#/", "<>{}|^`@_:?.#/"},
	{`"`, `\"`},
	{`\`, `\\`},
	{`\"`, `\\\"`},
	{`""`, `\"\"`},
	{`a"b`, `a\"b`},
	{`\n`, `\\n`},
	{"\x00", `\u0000`},
	{"\x01", `\u0001`},
	{"\x02", `\u0002`},
	{"\x03", `\u0003`},
	{"\x04", `\u0004`},
	{"\x05", `\u0005`},
	{"\x06", `\u0006`},
	{"\x07", `\u0007`},
	{"\x08", `\b`},
	{"\x09", `\t`},
	{"\x0a", `\n`},
	{"\x0b", `\u000B`},
	{"\x0c", `\f`},
	{"\x0d", `\r`},
	{"\x0e", `\u000E`},
	{"\x0f", `\u000F`},
	{"\x10", `\u0010`},
	{"\x11", `\u0011`},
	{"\x12", `\u0012`},
	{"\x13", `\u0013`},
	{"\x14", `\u0014`},
	{"\x15", `\u0015`},
	{"\x16", `\u0016`},
	{"\x17", `\u0017`},
	{"\x18", `\u0018`},
	{"\x19", `\u0019`},
	{"\x1a", `\u001A`},
	{"\x1b", `\u001B`},
	{"\x1c", `\u001C`},
	{"\x1d", `\u001D`},
	{"\x1e", `\u001E`},
	{"\x1f", `\u001F`},
	{"\x7e", "\x7e"},
	{"\x7f", `\u007F`},
	{"\u0080", "\u0080"},
	{"\u009f", "\u009f"},
	{"é€😀", "é€😀"},
	{"\u2028\ufffd\ufeff\U0010ffff", "\u2028\ufffd\ufeff\U0010ffff"},
	{"é\n€\t😀\"", `é\n€\t😀\"`},
	{"\n\n\x00\x007", `\n\n\u0000\u00007`},
}

// tags are the Extra of a Lang; noTags are not.
var (
	tags = []string{
		"a", "z", "en", small, strings.Repeat("a", 35), "en-us", "en-1", "en-1a", "en-a1", "en-x-0-9-z", "a-b-c-d",
		"a-" + digit, "a-" + small, strings.Repeat("a", 33) + "-9", strings.Repeat("a-", 17) + "a",
	}
	noTags = []string{
		"", strings.Repeat("a", 36), strings.Repeat("a", 34) + "-9", strings.Repeat("a", 1000),
		"-", "-en", "en-", "en--us", "--", "en-us-", "en--",
		"EN", "En", "eN", "en-US", "en-uS", "en-A1",
		"1", "1en", "en1", "e1n", "1-en", "e1-us",
		"en_us", "en us", " en", "en ", "en.", "en/us", "@en", "en-us@x", "en\x00", "é", "en-é", "e\u0301", "`", "{", "en-`", "en-{", "en-:", "en-@",
	}
)

// noBlanks are not the text of a Blank.
var noBlanks = []string{
	"", strings.Repeat("b", 65), strings.Repeat("b", 1000), "0", "1b", "9", "_", "_:b", "b_", "b-", "-b", "b.", "b c", " b", "b ", "é", "bé", "b٣", "b\x00", "@", "[", "`", "{", "b/", "b:", "b@", "b[", "b`", "b{",
}

// notInIRI are the runes that an IRI may not have.
func notInIRI() []string {
	l := []string{"<", ">", "\"", "{", "}", "|", "^", "`", "\\"}
	for r := range 33 {
		l = append(l, string(rune(r)))
	}
	return l
}

// iris are the texts of IRIs.
func iris() []string {
	l := []string{
		"a", "!", "http://example.org/a?b=c#d", api.SameAs, "urn:é€😀", "\u0080", "\u007f", "\U0010ffff", "%", "_:b", "'", ";=[]()&$*+,-./:@~",
		strings.Repeat("a", 1000), strings.Repeat("é", 500), strings.Repeat("😀", 250),
	}
	for r := rune(33); r < 300; r++ {
		if !strings.ContainsRune("<>\"{}|^`\\", r) {
			l = append(l, string(r), "a"+string(r)+"b")
		}
	}
	return l
}

// noIRIs are not the texts of IRIs.
func noIRIs() []string {
	l := []string{"", strings.Repeat("a", 1001), strings.Repeat("é", 500) + "a", strings.Repeat("😀", 251), strings.Repeat("a", 100000)}
	for _, s := range notInIRI() {
		l = append(l, s, s+"a", "a"+s, "http://a"+s+"b", strings.Repeat("a", 999)+s)
	}
	for _, s := range noTexts {
		l = append(l, s, "a"+s, s+"a", "http://é"+s+"z")
	}
	return l
}

// wrongTerms are terms that are not valid.
func wrongTerms() []api.Term {
	l := []api.Term{{}, {Kind: api.IRI}, {Kind: api.Blank}, {Kind: api.Lang, Text: "a"}, {Kind: api.Typed, Text: "1"}}
	for _, s := range noIRIs() {
		l = append(l, iri(s), typed("1", s))
	}
	l = append(l, typed("a", api.XSDString), typed("", api.XSDString))
	for _, s := range noBlanks {
		l = append(l, blank(s))
	}
	for _, s := range noTags {
		l = append(l, lang("a", s), lang("", s))
	}
	for _, s := range append(slices.Clone(noTexts), strings.Repeat("a", 4001), strings.Repeat("é", 2000)+"a") {
		l = append(l, iri(s), blank(s), plain(s), plain("a"+s), plain(s+"a"), lang(s, "en"), typed(s, "x"), lang("a", s), typed("a", s), lang("a", "en-"+s))
	}
	for _, extra := range []string{"a", "en", " ", "\x00", api.XSDString, "\xff"} {
		l = append(l, api.Term{Kind: api.IRI, Text: "a", Extra: extra}, api.Term{Kind: api.Blank, Text: "a", Extra: extra}, api.Term{Kind: api.Plain, Text: "a", Extra: extra})
	}
	for _, k := range []api.Kind{0, 6, -1, 7, 256 + api.IRI, math.MaxInt, math.MinInt} {
		l = append(l, api.Term{Kind: k}, api.Term{Kind: k, Text: "a"}, api.Term{Kind: k, Text: "a", Extra: "x"})
	}
	return l
}

// rightTerms are valid terms, no two the same, with their texts.
func rightTerms() (terms []api.Term, texts []string) {
	add := func(t api.Term, s string) { terms, texts = append(terms, t), append(texts, s) }
	for _, s := range iris() {
		add(iri(s), "<"+s+">")
		add(typed("1", s), `"1"^^<`+s+">")
	}
	for _, s := range []string{"b", "B", "b1", "Z9z", "a" + digit, small + capital, strings.Repeat("b", 64), "z" + strings.Repeat("0", 63)} {
		add(blank(s), "_:"+s)
	}
	for _, v := range values {
		add(plain(v.text), `"`+v.escaped+`"`)
		add(lang(v.text, "en"), `"`+v.escaped+`"@en`)
		add(typed(v.text, "http://x"), `"`+v.escaped+`"^^<http://x>`)
	}
	for _, s := range tags {
		add(lang("tag", s), `"tag"@`+s)
	}
	for _, s := range []string{strings.Repeat("a", 4000), strings.Repeat("é", 2000), strings.Repeat("😀", 1000)} {
		add(plain(s), `"`+s+`"`)
		add(lang(s, "en"), `"`+s+`"@en`)
		add(typed(s, "http://x"), `"`+s+`"^^<http://x>`)
	}
	add(plain(strings.Repeat("\x00", 4000)), `"`+strings.Repeat(`\u0000`, 4000)+`"`)
	add(typed("a", api.XSDString+"s"), `"a"^^<`+api.XSDString+"s>")
	add(typed("a", strings.ToLower(api.XSDString)), `"a"^^<`+strings.ToLower(api.XSDString)+">")
	add(iri(api.XSDString), "<"+api.XSDString+">")
	return terms, texts
}

// oneOfEach has a valid term of each kind, at the kind's number; at 0 and 6 none that is valid.
var oneOfEach = []api.Term{{Text: "a"}, iri("a"), blank("a"), plain("a"), lang("a", "en"), typed("a", "x"), {Kind: 6, Text: "a"}}

// sign is which of two comes first, by what the library says of each part.
func sign(a, b api.Term) int {
	switch {
	case a.Kind < b.Kind:
		return -1
	case a.Kind > b.Kind:
		return 1
	case a.Text != b.Text:
		return slices.Compare([]byte(a.Text), []byte(b.Text))
	}
	return slices.Compare([]byte(a.Extra), []byte(b.Extra))
}

// ordered are terms, valid or not, each one before the next one.
var ordered = []api.Term{
	{Kind: math.MinInt, Text: "z", Extra: "z"},
	{Kind: -1},
	{},
	{Extra: "a"},
	{Text: "a"},
	{Kind: api.IRI},
	{Kind: api.IRI, Extra: "z"},
	{Kind: api.IRI, Text: "A"},
	{Kind: api.IRI, Text: "a"},
	{Kind: api.IRI, Text: "a", Extra: "a"},
	{Kind: api.IRI, Text: "a", Extra: "b"},
	{Kind: api.IRI, Text: "a\x00"},
	{Kind: api.IRI, Text: "aa"},
	{Kind: api.IRI, Text: "b"},
	{Kind: api.IRI, Text: "z"},
	{Kind: api.IRI, Text: "é"},
	{Kind: api.IRI, Text: "\uffff"},
	{Kind: api.IRI, Text: "\U00010000"},
	{Kind: api.IRI, Text: "\xff"},
	{Kind: api.Blank, Text: "a"},
	{Kind: api.Blank, Text: "b"},
	{Kind: api.Plain},
	{Kind: api.Plain, Text: "\x00"},
	{Kind: api.Plain, Text: " "},
	{Kind: api.Plain, Text: "10"},
	{Kind: api.Plain, Text: "9"},
	{Kind: api.Lang, Text: "a", Extra: "de"},
	{Kind: api.Lang, Text: "a", Extra: "en"},
	{Kind: api.Lang, Text: "a", Extra: "en-us"},
	{Kind: api.Lang, Text: "b", Extra: "de"},
	{Kind: api.Typed, Text: "1", Extra: "x"},
	{Kind: api.Typed, Text: "1", Extra: "y"},
	{Kind: api.Typed, Text: "2", Extra: "x"},
	{Kind: 6},
	{Kind: math.MaxInt},
}

// P2.1: May of valid terms, up to the bounds.
func TestMay(t *testing.T) {
	terms, _ := rightTerms()
	for _, x := range terms {
		if !term.May(x) {
			t.Errorf("May%s = false", show(x))
		}
	}
	for k, x := range oneOfEach {
		if got, want := term.May(x), k >= 1 && k <= 5; got != want {
			t.Errorf("May%s = %v", show(x), got)
		}
	}
}

// P2.1: May of terms that are not valid, each for one reason alone.
func TestMayNot(t *testing.T) {
	for _, x := range wrongTerms() {
		if term.May(x) {
			t.Errorf("May%s = true", show(x))
		}
	}
}

// P2.1: the bounds are those that package api and the chapter name.
func TestBounds(t *testing.T) {
	for _, x := range []struct {
		least, most int
		of          func(string) api.Term
	}{
		{1, api.MaxIRI, iri},
		{1, 64, blank},
		{0, api.MaxText, plain},
		{0, api.MaxText, func(s string) api.Term { return lang(s, "en") }},
		{0, api.MaxText, func(s string) api.Term { return typed(s, "x") }},
		{1, 35, func(s string) api.Term { return lang("a", s) }},
		{1, api.MaxIRI, func(s string) api.Term { return typed("a", s) }},
	} {
		for _, n := range []int{0, 1, 2, x.most - 1, x.most, x.most + 1, x.most + 2, 2 * x.most} {
			v := x.of(strings.Repeat("a", n))
			if got, want := term.May(v), n >= x.least && n <= x.most; got != want {
				t.Errorf("May of %d bytes %s = %v", n, show(v), got)
			}
		}
	}
}

// P2.1: each rune up to 300, and some greater ones, alone and behind a letter, in each place that has demands on runes.
func TestRunes(t *testing.T) {
	// Beside them some that other ways of telling letters, digits and spaces take for such.
	runes := []rune{0x17f, 0x212a, 0x660, 0x663, 0xff10, 0xff21, 0xff41, 0x2028, 0x3000, 0xfeff, 0xfffd, 0xffff, 0x10000, 0x10ffff}
	for r := rune(0); r <= 300; r++ {
		runes = append(runes, r)
	}
	check := func(x api.Term, want bool) {
		t.Helper()
		if got := term.May(x); got != want {
			t.Errorf("May%s = %v", show(x), got)
		}
	}
	for _, r := range runes {
		s := string(r)
		inIRI := r > 32 && !strings.Contains("<>\"{}|^`\\", s)
		check(iri(s), inIRI)
		check(iri("a"+s), inIRI)
		check(typed("a", "a"+s), inIRI)
		check(blank(s), strings.Contains(small+capital, s))
		check(blank("a"+s), strings.Contains(small+capital+digit, s))
		check(lang("a", s), strings.Contains(small, s))
		check(lang("a", "a"+s+"a"), strings.Contains(small+"-", s))
		check(lang("a", "a-"+s), strings.Contains(small+digit, s))
		check(lang("a", "a-1-2"+s), strings.Contains(small+digit, s))
		for _, of := range []api.Term{plain(s), lang(s, "en"), typed(s, "x")} {
			check(of, true)
		}
	}
}

// P2.1: which kinds may stand where, in what is added, and in what follows.
func TestPositions(t *testing.T) {
	for i, s := range oneOfEach {
		for j, p := range oneOfEach {
			for k, o := range oneOfEach {
				x := triple(s, p, o)
				valid := i%6 != 0 && j%6 != 0 && k%6 != 0
				if got := term.MayFollow(x); got != valid {
					t.Errorf("MayFollow of kinds %d, %d, %d = %v", i, j, k, got)
				}
				if got := term.MayAdd(x); got != (valid && i <= 2 && j == 1) {
					t.Errorf("MayAdd of kinds %d, %d, %d = %v", i, j, k, got)
				}
			}
		}
	}
	if term.MayAdd(api.Triple{}) || term.MayFollow(api.Triple{}) {
		t.Error("the triple without terms")
	}
}

// P2.1: one term that is not valid makes a triple one that may neither be added nor follow, wherever it stands.
func TestWrongInTriple(t *testing.T) {
	for _, x := range wrongTerms() {
		for at := range 3 {
			v := triple(iri("a"), iri("b"), iri("c"))
			v[at] = x
			if term.MayAdd(v) || term.MayFollow(v) {
				t.Errorf("%s at %d", show(x), at)
			}
		}
	}
}

// P2.2: Compare and Less of terms that differ in one place, and in several.
func TestCompare(t *testing.T) {
	for i, a := range ordered {
		for j, b := range ordered {
			want := 0
			if i < j {
				want = -1
			} else if i > j {
				want = 1
			}
			if got := term.Compare(a, b); got != want {
				t.Errorf("Compare%s = %d; want %d", show(a, b), got, want)
			}
			if got := term.Less(a, b); got != (want < 0) {
				t.Errorf("Less%s = %v", show(a, b), got)
			}
		}
	}
}

// P2.2: CompareTriples goes by the subjects, then the predicates, then the objects.
func TestCompareTriples(t *testing.T) {
	for i, a := range ordered {
		for j, b := range ordered {
			want := min(1, max(-1, i-j))
			for at := range 3 {
				for _, behind := range []api.Term{{Kind: math.MinInt}, iri("m"), {Kind: math.MaxInt, Text: "z"}} {
					x, y := triple(iri("m"), iri("m"), iri("m")), triple(iri("m"), iri("m"), iri("m"))
					x[at], y[at] = a, b
					// What stands behind a difference is not asked; where there is none it decides.
					if i != j && at < 2 {
						y[at+1] = behind
					}
					if got := term.CompareTriples(x, y); got != want {
						t.Errorf("CompareTriples %s = %d; want %d", showAll(x, y), got, want)
					}
				}
			}
		}
	}
}

// P2.2: Sort orders, keeps one of equal ones, and leaves its argument as it was.
func TestSort(t *testing.T) {
	var want []api.Triple
	for _, s := range ordered[:8] {
		for _, p := range ordered[4:12] {
			for _, o := range ordered[20:] {
				want = append(want, triple(s, p, o))
			}
		}
	}
	for _, step := range []int{1, 7, 11, 101, len(want) - 1} {
		var l []api.Triple
		for i := range 3 * len(want) {
			l = append(l, want[i*step%len(want)])
		}
		given := slices.Clone(l)
		if got := term.Sort(l); !slices.Equal(got, want) {
			t.Errorf("by steps of %d: %d triples, not the %d in order", step, len(got), len(want))
		}
		if !slices.Equal(l, given) {
			t.Errorf("by steps of %d: the argument has changed", step)
		}
	}
}

// P2.2: short lists, and lists of equal triples.
func TestSortShort(t *testing.T) {
	for _, l := range [][]api.Triple{nil, {}} {
		if got := term.Sort(l); len(got) != 0 {
			t.Errorf("Sort(%v) = %v", l, got)
		}
	}
	a, b := triple(iri("a"), iri("p"), plain("1")), triple(iri("a"), iri("p"), plain("2"))
	for _, x := range []struct{ l, want []api.Triple }{
		{[]api.Triple{a}, []api.Triple{a}},
		{[]api.Triple{a, a, a}, []api.Triple{a}},
		{[]api.Triple{a, b}, []api.Triple{a, b}},
		{[]api.Triple{b, a}, []api.Triple{a, b}},
		{[]api.Triple{b, a, b, a, a}, []api.Triple{a, b}},
		{[]api.Triple{{}, a, {}}, []api.Triple{{}, a}},
	} {
		if got := term.Sort(x.l); !slices.Equal(got, x.want) {
			t.Errorf("Sort of %s = %s", showAll(x.l...), showAll(got...))
		}
	}
}

// P2.2: what Sort answers is new memory, also where the list is in order already.
func TestSortNewMemory(t *testing.T) {
	a, b := triple(iri("a"), iri("p"), plain("1")), triple(iri("b"), iri("p"), plain("2"))
	l := append(make([]api.Triple, 0, 8), a, b)
	got := term.Sort(l)
	got[0] = api.Triple{}
	got = append(got, b)
	got[2] = api.Triple{}
	if !slices.Equal(l, []api.Triple{a, b}) || l[:3][2] != (api.Triple{}) {
		t.Errorf("the argument has become %s", showAll(l...))
	}
	again := term.Sort(l)
	l[0], l[1] = b, b
	if !slices.Equal(again, []api.Triple{a, b}) {
		t.Errorf("the answer has become %s", showAll(again...))
	}
}

// P2.3: the texts of terms of all kinds, escaped.
func TestText(t *testing.T) {
	terms, texts := rightTerms()
	for i, x := range terms {
		if s, e := term.Text(x); s != texts[i] || e != api.OK {
			t.Errorf("Text%s = %.80q, %d; want %.80q", show(x), s, e, texts[i])
		}
	}
}

// P2.3: Text refuses what is not valid, and answers no text beside the error.
func TestTextWrong(t *testing.T) {
	for _, x := range wrongTerms() {
		if s, e := term.Text(x); s != "" || e != api.ErrArg {
			t.Errorf("Text%s = %.80q, %d; want ErrArg", show(x), s, e)
		}
	}
}

// P2.3: the text of a triple, also of one that may only follow.
func TestTripleText(t *testing.T) {
	for i, x := range []api.Triple{
		triple(iri("http://a"), iri("http://p"), plain("b c")),
		triple(blank("b"), iri(api.SameAs), blank("c")),
		triple(plain("a\n"), lang("x", "en-us"), typed("1", "http://x")),
		triple(typed("", "y"), blank("p"), plain("")),
		triple(lang(".", "a"), plain("\" ."), iri(".")),
	} {
		want := []string{
			`<http://a> <http://p> "b c" .`,
			`_:b <` + api.SameAs + `> _:c .`,
			`"a\n" "x"@en-us "1"^^<http://x> .`,
			`""^^<y> _:p "" .`,
			`"."@a "\" ." <.> .`,
		}[i]
		if s, e := term.TripleText(x); s != want || e != api.OK {
			t.Errorf("TripleText%s = %s, %d; want %s", showAll(x), s, e, want)
		}
	}
}

// P2.3: TripleText is made of the texts of its terms, wherever they stand.
func TestTripleTextOfTexts(t *testing.T) {
	terms, texts := rightTerms()
	for i := range terms {
		j, k := (i*7+3)%len(terms), (i*11+5)%len(terms)
		want := texts[i] + " " + texts[j] + " " + texts[k] + " ."
		if s, e := term.TripleText(triple(terms[i], terms[j], terms[k])); s != want || e != api.OK {
			t.Errorf("%.80q, %d; want %.80q", s, e, want)
		}
	}
}

// P2.3: TripleText refuses a triple that may not follow, and answers no text beside the error.
func TestTripleTextWrong(t *testing.T) {
	for _, x := range wrongTerms() {
		for at := range 3 {
			v := triple(iri("a"), iri("b"), iri("c"))
			v[at] = x
			if s, e := term.TripleText(v); s != "" || e != api.ErrArg {
				t.Errorf("%s at %d: %.80q, %d; want ErrArg", show(x), at, s, e)
			}
		}
	}
	if s, e := term.TripleText(api.Triple{}); s != "" || e != api.ErrArg {
		t.Errorf("of the triple without terms: %q, %d", s, e)
	}
}

// alike are valid terms whose texts, and parts, are easily taken for one another's.
func alike() []api.Term {
	texts := []string{"", "a", "b", "a b", " ", `"`, `\`, `\"`, `\n`, "\n", "n", "@en", `"@en`, `a"@en`, "^^<a>", `"^^<a>`, "<a>", "_:a", `\u0000`, "\x00", "u0000", "\x7f", `\u007F`, "é", "a .", `" `, `" "`}
	var l []api.Term
	for _, s := range texts {
		l = append(l, iri(s), blank(s), plain(s), typed("", s))
		for _, tag := range []string{"e", "en", "en-a", "en-a-b"} {
			l = append(l, lang(s, tag))
		}
		for _, of := range []string{"a", "ab", "b", "@en"} {
			l = append(l, typed(s, of))
		}
	}
	return slices.DeleteFunc(l, func(t api.Term) bool { return !term.May(t) })
}

// P2.4: different terms have different texts, and no text followed by a space is a prefix of another one.
func TestTextsDiffer(t *testing.T) {
	terms := alike()
	more, _ := rightTerms()
	terms = append(terms, more...)
	texts := make([]string, len(terms))
	for i, x := range terms {
		texts[i], _ = term.Text(x)
	}
	for i, a := range terms {
		for j, b := range terms {
			if (a == b) != (texts[i] == texts[j]) {
				t.Errorf("%s have the texts %.80q and %.80q", show(a, b), texts[i], texts[j])
			}
			if strings.HasPrefix(texts[j], texts[i]+" ") {
				t.Errorf("%.80q, followed by a space, begins %.80q", texts[i], texts[j])
			}
		}
	}
}

// P2.4: the orders are total: one of two different ones is before the other, and what is before what is before is before.
func TestTotal(t *testing.T) {
	terms := append(alike(), ordered...)
	slices.SortFunc(terms, sign)
	for i, a := range terms {
		for j, b := range terms {
			x, y := triple(a, b, a), triple(b, a, b)
			if c := term.Compare(a, b); c != -term.Compare(b, a) || (c == 0) != (a == b) || c < -1 || c > 1 || i < j && c > 0 {
				t.Errorf("Compare%s = %d, the other way %d", show(a, b), c, term.Compare(b, a))
			}
			if c := term.CompareTriples(x, y); c != -term.CompareTriples(y, x) || (c == 0) != (x == y) || c != sign(a, b) {
				t.Errorf("CompareTriples %s = %d, the other way %d", showAll(x, y), c, term.CompareTriples(y, x))
			}
			if term.Less(a, b) != (sign(a, b) < 0) {
				t.Errorf("Less%s = %v", show(a, b), term.Less(a, b))
			}
		}
	}
}

// The examples of the chapter, as its words have them.
func TestExamples(t *testing.T) {
	for want, x := range map[string]api.Term{
		`"a\"b"@en`:       lang(`a"b`, "en"),
		`"a \"b"@en`:      lang(`a "b`, "en"),
		`"1"^^<http://x>`: typed("1", "http://x"),
	} {
		if s, e := term.Text(x); s != want || e != api.OK {
			t.Errorf("Text%s = %s, %d; want %s", show(x), s, e, want)
		}
	}
}
