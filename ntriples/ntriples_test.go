package ntriples_test

import (
	"fmt"
	"math/rand"
	"slices"
	"strings"
	"testing"

	"rhizome/api"
	"rhizome/ntriples"
	"rhizome/term"
)

func iri(s string) api.Term              { return api.Term{Kind: api.IRI, Text: s} }
func blank(s string) api.Term            { return api.Term{Kind: api.Blank, Text: s} }
func plain(s string) api.Term            { return api.Term{Kind: api.Plain, Text: s} }
func lang(s, tag string) api.Term        { return api.Term{Kind: api.Lang, Text: s, Extra: tag} }
func typed(s, of string) api.Term        { return api.Term{Kind: api.Typed, Text: s, Extra: of} }
func triple(s, p, o api.Term) api.Triple { return api.Triple{s, p, o} }

// abc is the triple <a> <b> <c>, and def another one.
var (
	abc = triple(iri("a"), iri("b"), iri("c"))
	def = triple(iri("d"), iri("e"), iri("f"))
)

// showOne is how tests tell of a triple; of long texts the beginning.
func showOne(t api.Triple) string {
	var l []string
	for _, x := range t {
		l = append(l, fmt.Sprintf("%d %.40q %.40q", x.Kind, x.Text, x.Extra))
	}
	return "(" + strings.Join(l, "; ") + ")"
}

// show is how tests tell of triples; of many the first ones.
func show(triples []api.Triple) string {
	var b strings.Builder
	fmt.Fprintf(&b, "%d", len(triples))
	for _, t := range triples[:min(len(triples), 5)] {
		b.WriteString(" " + showOne(t))
	}
	return b.String()
}

// wantTriples checks that s is a document of these triples.
func wantTriples(t *testing.T, s string, want ...api.Triple) {
	t.Helper()
	if l, at, e := ntriples.Parse(s); !slices.Equal(l, want) || at != 0 || e != api.OK {
		t.Errorf("Parse(%.80q) = %s, %d, %v; want %s", s, show(l), at, e, show(want))
	}
	var only api.Triple
	code := api.ErrText
	if len(want) == 1 {
		only, code = want[0], api.OK
	}
	if x, e := ntriples.One(s); x != only || e != code {
		t.Errorf("One(%.80q) = %s, %v; want %s, %v", s, showOne(x), e, showOne(only), code)
	}
}

// wantWrong checks that s is wrong at a position.
func wantWrong(t *testing.T, s string, place int) {
	t.Helper()
	if l, at, e := ntriples.Parse(s); len(l) != 0 || at != place || e != api.ErrText {
		t.Errorf("Parse(%.80q) = %s, %d, %v; want %d, ErrText", s, show(l), at, e, place)
	}
	if x, e := ntriples.One(s); x != (api.Triple{}) || e != api.ErrText {
		t.Errorf("One(%.80q) = %s, %v; want ErrText", s, showOne(x), e)
	}
}

// wantText checks that l has that text, and that it is read as l.
func wantText(t *testing.T, want string, l ...api.Triple) {
	t.Helper()
	if s, e := ntriples.Text(l); s != want || e != api.OK {
		t.Errorf("Text(%s) = %.80q, %v; want %.80q", show(l), s, e, want)
	}
	wantTriples(t, want, l...)
}

// written is a term, and a text of it.
type written struct {
	text string
	term api.Term
}

// The terms of each kind, in more than one form.
var (
	iris    = []written{{"<a>", iri("a")}, {"<http://a/b#c.d>", iri("http://a/b#c.d")}, {`<\u0061\U0001F600>`, iri("a😀")}, {"<é>", iri("é")}}
	blanks  = []written{{"_:b", blank("b")}, {"_:B9", blank("B9")}}
	values  = []written{{`""`, plain("")}, {`"a b"`, plain("a b")}, {`"\t\"\\\u00e9."`, plain("\t\"\\é.")}, {`"# <a> ."`, plain("# <a> .")}, {`"a"@en`, lang("a", "en")}, {`""@en-us-1`, lang("", "en-us-1")}, {`"1"^^<t>`, typed("1", "t")}, {`""^^<\u0074>`, typed("", "t")}, {`"s"^^<` + api.XSDString + `>`, plain("s")}}
	gaps    = []string{" ", "\t", "\n", "\r\n", "  ", " \t\r\n ", "# . <x> \"\n", " # é\n#\n\t"}
	objects = slices.Concat(iris, blanks, values)
)

// subjects may stand first.
func subjects() []written { return slices.Concat(iris, blanks) }

// TestParse: documents of none, one and many triples.
func TestParse(t *testing.T) {
	wantTriples(t, "")
	for _, s := range append([]string{"#", "# <a> <b> <c> .", "#\n#", "\n\n", " # \n "}, gaps...) {
		wantTriples(t, s)
	}
	// The chapter's examples.
	wantTriples(t, `<a> <b> "c" . # d`, triple(iri("a"), iri("b"), plain("c")))
	wantWrong(t, `<a> "b" <c> .`, 0)

	wantTriples(t, "<a> <b> <c> .", abc)
	wantTriples(t, "<a> <b> <c> .\n", abc)
	wantTriples(t, "<a><b><c>.", abc)
	wantTriples(t, "<a><b><c>.<d><e><f>.", abc, def)
	wantTriples(t, "<a> <b> <c> .\n<d> <e> <f> .", abc, def)
	wantTriples(t, "<a> <b> <c> .\n\n# f\n<d> <e> <f> .\n", abc, def)
	wantTriples(t, "<d> <e> <f> . <a> <b> <c> .", def, abc)
	wantTriples(t, "<a> <b> <c> . <a> <b> <c> .", abc, abc)
	wantTriples(t, "<a> <b> <c> . <d> <e> <f> . <a> <b> <c> .", abc, def, abc)
	wantTriples(t, "<a> <b> <c> .#", abc)
	wantTriples(t, "#\r\n<a> # s\n <b> # p\n <c> # o\n . # .\n", abc)
	wantTriples(t, `_:a<b>"c"@en._:d<e>"f"^^<g>.`, triple(blank("a"), iri("b"), lang("c", "en")), triple(blank("d"), iri("e"), typed("f", "g")))
	wantTriples(t, "<a> <b> \"c\" @en .", triple(iri("a"), iri("b"), lang("c", "en")))
	wantTriples(t, "<a> <b> \"c\" # d\n ^^ <e> .", triple(iri("a"), iri("b"), typed("c", "e")))
	wantTriples(t, "<a> <b> \"c\"^^<"+api.XSDString+"> .", triple(iri("a"), iri("b"), plain("c")))
	wantTriples(t, "<a> <"+api.SameAs+"> <c> .", triple(iri("a"), iri(api.SameAs), iri("c")))
	wantTriples(t, "<a> <a> <a> .", triple(iri("a"), iri("a"), iri("a")))

	var many []api.Triple
	for i := range 5000 {
		many = append(many, triple(iri(fmt.Sprint("s", i%7)), iri(fmt.Sprint("p", i)), plain(fmt.Sprint(i))))
	}
	var b strings.Builder
	for i, x := range many {
		fmt.Fprintf(&b, "<%s> <%s> \"%s\".%s", x[0].Text, x[1].Text, x[2].Text, gaps[i%len(gaps)])
	}
	wantTriples(t, b.String(), many...)
}

// TestPlaces: terms of all kinds where they may stand, with all that may be between, and with nothing.
func TestPlaces(t *testing.T) {
	for _, s := range subjects() {
		for _, p := range iris {
			for _, o := range objects {
				want := triple(s.term, p.term, o.term)
				wantTriples(t, s.text+p.text+o.text+".", want)
				for _, g := range gaps {
					wantTriples(t, s.text+g+p.text+g+o.text+g+".", want)
					wantTriples(t, g+s.text+g+p.text+g+o.text+g+"."+g, want)
					wantTriples(t, "<a> <b> <c> ."+g+s.text+p.text+o.text+"."+g, abc, want)
				}
			}
		}
	}
}

// TestMayNot: a triple that may not be added is wrong at its first symbol, whatever follows.
func TestMayNot(t *testing.T) {
	for _, s := range objects {
		for _, p := range objects {
			ok := (s.term.Kind == api.IRI || s.term.Kind == api.Blank) && p.term.Kind == api.IRI
			if ok {
				continue
			}
			for _, o := range objects {
				for _, end := range []string{" .", "", " # .", " <d> .", " ?x", " . ?x", " . <a> <b> <c> ."} {
					wantWrong(t, s.text+" "+p.text+" "+o.text+end, 0)
				}
				wantWrong(t, " #\n "+s.text+p.text+o.text+".", 4)
				wantWrong(t, "<a> <b> <c> .\n"+s.text+"\t"+p.text+"\n"+o.text+" .", 14)
			}
		}
	}
	wantWrong(t, "<a> <b> <c> . _:d _:e <f> . <g> <h> <i> .", 14)
	wantWrong(t, "<a> <b> <c> . \"d\" <e> <f> . \"g\" <h> <i> .", 14)
}

// noTerms are symbols with which no term begins, here without prefixes.
func noTerms() []string {
	return []string{
		".", ",", "=", "!=", ":-", "^^", "(", ")", "{", "}", "?x", "?a1", "a", "a1", "not", "PREFIX", "@en", "@en-us", ":", ":a", ":_", "a:", "a:b", "xsd:string", "rdf:type",
		`"` + strings.Repeat("s", api.MaxText+1) + `"`, `"` + strings.Repeat("é", 2001) + `"`, `"` + strings.Repeat("s", 4001) + `"@en`, `"` + strings.Repeat("s", 4001) + `"^^<t>`,
	}
}

// TestNoTerm: a symbol that is no term, at each of the three places, also if a triple comes before or behind.
func TestNoTerm(t *testing.T) {
	for _, x := range noTerms() {
		for _, before := range []string{"", "# é\n", "<a> <b> <c> .", "<a> <b> <c> . \n <d> <e> <f> .\n"} {
			n := len(before)
			wantWrong(t, before+x, n)
			wantWrong(t, before+x+" <b> <c> .", n)
			wantWrong(t, before+"<a> "+x+" <c> .", n+4)
			wantWrong(t, before+"_:a\t"+x, n+4)
			wantWrong(t, before+"<a> <b> "+x+" .", n+8)
			wantWrong(t, before+"<a> <b> "+x, n+8)
			wantWrong(t, before+"<a> <b> "+x+" . <d> <e> <f> .", n+8)
			// No triple is there that may not be added.
			wantWrong(t, before+`"a"@b `+x+" <c> .", n+6)
			wantWrong(t, before+`"a" "b"@c `+x+" .", n+10)
		}
	}
	// A symbol that belongs to no string in front of it.
	wantWrong(t, "<a>@en <b> <c> .", 3)
	wantWrong(t, "<a> _:b@en <c> .", 7)
	wantWrong(t, "<a> ^^ <b> <c> .", 4)
	wantWrong(t, ". <a> <b> <c> .", 0)
	wantWrong(t, "<a> <b> <c> .. <d> <e> <f> .", 13)
	wantWrong(t, "<a> . <b> <c> .", 4)
	wantWrong(t, "<a> <b> . <c> .", 8)
	wantWrong(t, "<a> <b> .", 8)
	wantWrong(t, "prefix a: <b> <c> <d> .", 0)
}

// TestNoEnd: another symbol in place of '.'.
func TestNoEnd(t *testing.T) {
	for _, x := range append(noTerms(), "<d>", "_:d", `"d"`, `"d"@en`, `"d"^^<e>`) {
		if x == "." {
			continue
		}
		for _, before := range []string{"", "<d> <e> <f> . "} {
			n := len(before)
			wantWrong(t, before+"<a> <b> <c> "+x, n+12)
			wantWrong(t, before+"<a> <b> <c> "+x+" .", n+12)
			wantWrong(t, before+"<a> <b> <c>#\n"+x+" <d> <e> <f> .", n+13)
			wantWrong(t, before+`<a> <b> "c"@en `+x+" .", n+15)
			wantWrong(t, before+`<a> <b> "c"^^<d> `+x+" .", n+17)
		}
	}
	// What is behind a string, and makes no term with it.
	wantWrong(t, `<a> <b> "c"^^ .`, 11)
	wantWrong(t, `<a> <b> "c"^^`, 11)
	wantWrong(t, `<a> <b> "c"^^_:d .`, 11)
	wantWrong(t, `<a> <b> "c"^^"d" .`, 11)
	wantWrong(t, `<a> <b> "c"^^x:d .`, 11)
	wantWrong(t, `<a> <b> "c"^^xsd:string .`, 11)
	wantWrong(t, `<a> <b> "c"@en@de .`, 14)
	wantWrong(t, `<a> <b> "c"@en^^<d> .`, 14)
	wantWrong(t, `<a> <b> "c"^^<d>@en .`, 16)
	wantWrong(t, "<a> <b> <c> <d> .", 12)
	wantWrong(t, "<a> <b> <c>\n<d> <e> <f> .", 12)
	wantWrong(t, "<a> <b> <c> ; <d> <e> .", 12)
}

// TestEnds: the end where a term or '.' is due is wrong at the length.
func TestEnds(t *testing.T) {
	for _, before := range []string{"", "<d> <e> <f> .", "# a\n<d> <e> <f> . <d> <e> <f> .\n"} {
		for _, s := range []string{"<a>", "_:a", `"a"`, `"a"@en`, `"a"^^<b>`, "<a> <b>", `"a" "b"`, "<a> _:b", `<a> "b"^^<c>`, "<a> <b> <c>", `<a> <b> "c"`, `<a> <b> "c"@en`, `<a> <b> "c"^^<d>`, "_:a<b>_:c"} {
			wantWrong(t, before+s, len(before+s))
			for _, g := range append([]string{"#", " # .", "\n# . <c> ."}, gaps...) {
				wantWrong(t, before+s+g, len(before+s+g))
			}
		}
	}
}

// TestBytes: a byte where no symbol is, at the position of layer 4.
func TestBytes(t *testing.T) {
	for _, x := range []string{"<", "<a", "<a b>", "<>", "<\">", `<\n>`, `<\u0020>`, `"`, `"a`, "\"a\nb\"", `"\q"`, `"\ud800"`, "_:", "_:1", "_", "?", "@", "@EN", "@en-", "&", "1", "é", "!", "^", "'a'", "[", ";", "<" + strings.Repeat("i", api.MaxIRI+1) + ">", "_:" + strings.Repeat("b", 65), strings.Repeat("w", 33), "\x00", "\x80", "\xff", "\xc3", "\xed\xa0\x80", "\ufeff"} {
		for _, before := range []string{"", "# \n", "<a> ", "<a> <b>\t", "<a> <b> <c> ", "<a> <b> <c> . ", "<a> <b> <c> .\n<d> <e> <f> .\n", `<a> <b> "c"`, `<a> <b> "c"^^`} {
			wantWrong(t, before+x, len(before))
			if x != "<" && x[0] != '"' {
				wantWrong(t, before+x+" <c> .", len(before))
			}
		}
	}
	for _, s := range []string{"# \xff", "<a> <b> <c> . # \xff", "<a> <b> \"\xff\" .", "<a> <\xff> <c> .", "<a> <b> <c> .\xff", "<a> <b> \"\xed\xa0\x80\" ."} {
		wantWrong(t, s, strings.IndexAny(s, "\xff\xed"))
	}
}

// TestWhichFirst: of several faults the one that the chapter names first.
func TestWhichFirst(t *testing.T) {
	// Symbols come before terms, bytes that are no runes before symbols.
	wantWrong(t, `. "`, 2)
	wantWrong(t, `"a" <b> <c> . <d> &`, 18)
	wantWrong(t, "<a> <b> <c> <d> . <e", 18)
	wantWrong(t, "?x \" \xff", 5)
	wantWrong(t, "<a> <b> <c> # \xff", 14)
	wantWrong(t, "<a> & <c> . \xff", 12)
	// Of the same kind the one that comes first.
	wantWrong(t, "<a> ?x . ?y", 4)
	wantWrong(t, "<a> <b> <c> , . <d> . .", 12)
	wantWrong(t, "<a> <b> <c> . ?x <d> ?y .", 14)
	wantWrong(t, "& !", 0)
	wantWrong(t, "\xff \x80", 0)
	// A triple that may not be added before what is in place of its '.', but behind a symbol that is no term.
	wantWrong(t, `<a> "b" <c> <d>`, 0)
	wantWrong(t, `<a> "b" <c>`, 0)
	wantWrong(t, `<a> "b" ?c .`, 8)
	wantWrong(t, `<a> "b" .`, 8)
	wantWrong(t, `<a> "b"`, 7)
	// A triple before the next one.
	wantWrong(t, `"a" <b> <c> . . .`, 0)
	wantWrong(t, `<a> <b> <c> <d> . "e" <f> <g> .`, 12)
	wantWrong(t, `<a> <b> <c> . "e" <f> <g> . .`, 14)
}

// padded returns s with so many bytes as to have n in all.
func padded(s string, n int) string {
	return s + strings.Repeat(" ", n-len(s))
}

// TestLongDocument: a document has at most MaxSource bytes.
func TestLongDocument(t *testing.T) {
	wantTriples(t, padded("", api.MaxSource))
	wantTriples(t, padded("<a> <b> <c> .", api.MaxSource), abc)
	wantTriples(t, "#"+strings.Repeat("#", api.MaxSource-15)+"\n<a> <b> <c>.", abc)
	wantTriples(t, padded("<a>", api.MaxSource-8)+"<b><c>. ", abc)
	wantWrong(t, padded("<a> <b> <c>", api.MaxSource), api.MaxSource)
	wantWrong(t, padded("<a> <b>", api.MaxSource-1)+".", api.MaxSource-1)
	many := strings.Repeat("<a><b><c>.\n", api.MaxSource/11)
	if l, at, e := ntriples.Parse(many); len(l) != api.MaxSource/11 || l[len(l)-1] != abc || at != 0 || e != api.OK {
		t.Error(len(l), at, e)
	}
	for _, s := range []string{
		padded("", api.MaxSource+1), padded("<a> <b> <c> .", api.MaxSource+1), padded("<a> <b> <c>", api.MaxSource+1), padded("&", api.MaxSource+1), padded("\xff", api.MaxSource+1),
		strings.Repeat("\xff", api.MaxSource+1), "#" + strings.Repeat("a", api.MaxSource), strings.Repeat("<a><b><c>.\n", api.MaxSource/11+1), padded("", 3*api.MaxSource),
	} {
		if l, at, e := ntriples.Parse(s); len(l) != 0 || at != 0 || e != api.ErrLong {
			t.Errorf("Parse(%.40q), %d bytes = %s, %d, %v; want 0, ErrLong", s, len(s), show(l), at, e)
		}
		if x, e := ntriples.One(s); x != (api.Triple{}) || e != api.ErrText {
			t.Errorf("One(%.40q), %d bytes = %s, %v; want ErrText", s, len(s), showOne(x), e)
		}
	}
}

// TestOne: documents of one triple alone.
func TestOne(t *testing.T) {
	for s, want := range map[string]api.Triple{
		"<a> <b> <c> .":                     abc,
		"<a><b><c>.\n":                      abc,
		"# d\n<d> <e> <f> . # <a> <b> <c>.": def,
		"\n#\n\n_:a\n<b>\n\"c\"\n@en\n.\n":  triple(blank("a"), iri("b"), lang("c", "en")),
		`<a> <b> "\u0022"^^<c> .`:           triple(iri("a"), iri("b"), typed(`"`, "c")),
	} {
		if x, e := ntriples.One(s); x != want || e != api.OK {
			t.Errorf("One(%q) = %s, %v; want %s", s, showOne(x), e, showOne(want))
		}
	}
	for _, s := range []string{"", " ", "#", "# <a> <b> <c> .", "<a> <b> <c>", "<a> <b>", ".", "<a> <b> <c> . .", "<a> <b> <c> . <a> <b> <c> .", "<a> <b> <c> . <d> <e> <f> .", "<a> <b> <c> . <d>", "<a> <b> <c> . &", "<a> <b> <c> . \xff", "\"a\" <b> <c> .", "a:b <b> <c> .", "?x <b> <c> ."} {
		if x, e := ntriples.One(s); x != (api.Triple{}) || e != api.ErrText {
			t.Errorf("One(%q) = %s, %v; want ErrText", s, showOne(x), e)
		}
	}
}

// TestText: each triple in a line of its own, in order, each as often as it occurs.
func TestText(t *testing.T) {
	wantText(t, "")
	if s, e := ntriples.Text([]api.Triple{}); s != "" || e != api.OK {
		t.Errorf("Text of none = %q, %v", s, e)
	}
	wantText(t, "<a> <b> <c> .\n", abc)
	wantText(t, "<d> <e> <f> .\n<a> <b> <c> .\n", def, abc)
	wantText(t, "<a> <b> <c> .\n<a> <b> <c> .\n", abc, abc)
	wantText(t, "<a> <b> <c> .\n<d> <e> <f> .\n<a> <b> <c> .\n", abc, def, abc)
	wantText(t, "_:a <b> \"c\" .\n", triple(blank("a"), iri("b"), plain("c")))
	wantText(t, "_:a <b> _:c .\n", triple(blank("a"), iri("b"), blank("c")))
	wantText(t, "<a> <b> \"c\\n.\\\"\"@en-us .\n", triple(iri("a"), iri("b"), lang("c\n.\"", "en-us")))
	wantText(t, "<a> <b> \"\\\\\\u0000\\u007F'é\"^^<c> .\n", triple(iri("a"), iri("b"), typed("\\\x00\x7f'é", "c")))
}

// wantCode checks that l has no text, and why.
func wantCode(t *testing.T, want api.Errno, l ...api.Triple) {
	t.Helper()
	if s, e := ntriples.Text(l); s != "" || e != want {
		t.Errorf("Text(%s) = %.80q, %v; want %v", show(l), s, e, want)
	}
}

// TestTextMayNot: a triple that may not be added, alone, and among others at each place.
func TestTextMayNot(t *testing.T) {
	a, b := iri("a"), iri("b")
	for _, x := range []api.Triple{
		{},
		// What may follow, and may not be added.
		triple(plain("a"), b, a), triple(lang("a", "en"), b, a), triple(typed("a", "t"), b, a),
		triple(a, blank("b"), a), triple(a, plain("b"), a), triple(a, lang("b", "en"), a), triple(a, typed("b", "t"), a),
		// What is not valid.
		triple(api.Term{}, b, a), triple(a, api.Term{}, a), triple(a, b, api.Term{}), triple(iri("a b"), b, a), triple(a, iri(""), a), triple(a, b, iri("\xff")), triple(blank("1"), b, a), triple(a, b, blank("")), triple(a, b, plain("\xff")), triple(a, b, plain(strings.Repeat("a", api.MaxText+1))), triple(a, b, lang("a", "EN")), triple(a, b, typed("a", "")), triple(a, b, typed("a", api.XSDString)), triple(iri(strings.Repeat("a", api.MaxIRI+1)), b, a), triple(a, b, api.Term{Kind: 6, Text: "a"}), triple(a, b, api.Term{Kind: api.Plain, Text: "a", Extra: "en"}),
	} {
		wantCode(t, api.ErrArg, x)
		wantCode(t, api.ErrArg, x, abc, def)
		wantCode(t, api.ErrArg, abc, x, def)
		wantCode(t, api.ErrArg, abc, def, x)
	}
}

// sized returns triples whose text has n bytes.
func sized(n int) []api.Triple {
	// The text of a triple with o bytes in quotes has o+13.
	const beside = 13
	var l []api.Triple
	add := func(o int) {
		l = append(l, triple(iri("a"), iri("b"), plain(strings.Repeat("o", o))))
		n -= o + beside
	}
	for n > 2*(api.MaxText+beside) {
		add(api.MaxText)
	}
	add(n/2 - beside)
	add(n - beside)
	return l
}

// TestLongText: a text has at most MaxSource bytes.
func TestLongText(t *testing.T) {
	l := sized(api.MaxSource)
	s, e := ntriples.Text(l)
	if len(s) != api.MaxSource || e != api.OK {
		t.Fatal(len(s), e)
	}
	wantTriples(t, s, l...)
	wantCode(t, api.ErrLong, sized(api.MaxSource+1)...)
	wantCode(t, api.ErrLong, append(sized(api.MaxSource), abc)...)
	wantCode(t, api.ErrLong, append([]api.Triple{abc}, sized(api.MaxSource)...)...)
	wantCode(t, api.ErrLong, sized(3*api.MaxSource)...)
	wantCode(t, api.ErrLong, slices.Repeat([]api.Triple{abc}, api.MaxSource/14+1)...)
	// Escapes count as they are written.
	escaped := triple(iri("a"), iri("b"), plain(strings.Repeat("\x00", api.MaxText)))
	wantCode(t, api.ErrLong, slices.Repeat([]api.Triple{escaped}, 44)...)
	if s, e := ntriples.Text(slices.Repeat([]api.Triple{escaped}, 43)); len(s) != 43*(6*api.MaxText+13) || e != api.OK {
		t.Error(len(s), e)
	}
	// A triple that may not be added comes first, also behind what is too long.
	no := triple(plain("a"), iri("b"), iri("c"))
	wantCode(t, api.ErrArg, append(sized(api.MaxSource+1), no)...)
	wantCode(t, api.ErrArg, append(sized(3*api.MaxSource), no, abc)...)
	wantCode(t, api.ErrArg, append([]api.Triple{no}, sized(api.MaxSource+1)...)...)
}

// greatTerms are terms with everything that is escaped, and of their greatest length.
func greatTerms() []api.Term {
	l := []api.Term{iri("a"), iri("é€😀'_:?.#/\u0085\u007f"), iri(strings.Repeat("i", api.MaxIRI)), iri(strings.Repeat("é", api.MaxIRI/2)), iri(api.SameAs), iri(api.XSDString), blank("b"), blank("Z" + strings.Repeat("9", 63))}
	var all strings.Builder
	texts := []string{"", " ", "#", ". ", "<a> <b> <c> .\n", `\u0041`, "@en", "^^<t>", "é€😀\U0010ffff", strings.Repeat("s", api.MaxText), strings.Repeat(`"`, api.MaxText), strings.Repeat("\x01", api.MaxText), strings.Repeat("é", api.MaxText/2), strings.Repeat("😀", api.MaxText/4)}
	for r := range rune(256) {
		texts = append(texts, string(r), `\`+string(r)+`"`)
		all.WriteRune(r)
	}
	for _, s := range append(texts, all.String()) {
		l = append(l, plain(s), lang(s, "en"), lang(s, strings.Repeat("l", 33)+"-9"), typed(s, "t"), typed(s, strings.Repeat("é", api.MaxIRI/2)))
	}
	return l
}

// TestRoundTrip: what has a text is read from it.
func TestRoundTrip(t *testing.T) {
	var some []api.Triple
	for _, x := range greatTerms() {
		for _, y := range []api.Triple{triple(x, iri("b"), iri("c")), triple(iri("a"), x, iri("c")), triple(iri("a"), iri("b"), x), triple(x, x, x)} {
			if !term.MayAdd(y) {
				wantCode(t, api.ErrArg, y)
				continue
			}
			s, e := ntriples.Text([]api.Triple{y})
			if e != api.OK || !strings.HasSuffix(s, " .\n") || strings.Count(s, "\n") != 1 {
				t.Fatalf("Text(%s) = %.80q, %v", showOne(y), s, e)
			}
			wantTriples(t, s, y)
			some = append(some, y)
		}
	}
	for part := range slices.Chunk(some, 30) {
		s, e := ntriples.Text(part)
		if e != api.OK {
			t.Fatal(len(s), e)
		}
		wantTriples(t, s, part...)
	}
}

// randomTriple returns a triple that may be added, a text of it, and what stands before that.
func randomTriple(r *rand.Rand) (string, string, api.Triple) {
	all, none := subjects(), []string{"", "", ""}
	s, p, o := all[r.Intn(len(all))], iris[r.Intn(len(iris))], objects[r.Intn(len(objects))]
	gap := func() string { return append(none, gaps...)[r.Intn(len(none)+len(gaps))] }
	return gap(), s.text + gap() + p.text + gap() + o.text + gap() + ".", triple(s.term, p.term, o.term)
}

// TestDivided: the triples of a document are those of its parts, if it is divided after a triple; one that is divided within a triple is wrong.
func TestDivided(t *testing.T) {
	r := rand.New(rand.NewSource(5))
	for range 300 {
		doc := ""
		var all []api.Triple
		ends := []int{0}
		within := map[int]bool{}
		for range 1 + r.Intn(4) {
			gap, s, x := randomTriple(r)
			for i := 1; i < len(s); i++ {
				within[len(doc+gap)+i] = true
			}
			doc += gap + s
			all = append(all, x)
			ends = append(ends, len(doc))
		}
		for n, at := range ends {
			wantTriples(t, doc[:at], all[:n]...)
			wantTriples(t, doc[at:], all[n:]...)
		}
		for at := range within {
			if l, _, e := ntriples.Parse(doc[:at]); len(l) != 0 || e != api.ErrText {
				t.Errorf("Parse(%q) = %s, %v; want ErrText", doc[:at], show(l), e)
			}
		}
	}
	// What looks like the end of a triple, and is none.
	for _, one := range []string{"<a.b> <c> <d>.", `_:a <.> ". ."@en .`, "<a> # .\n <b> # .\n \"c\" ^^ <d.e> # .\n .", "<a><b><c>."} {
		for _, before := range []string{"", "<a> <b> <c> ."} {
			for at := 1; at < len(one); at++ {
				if l, _, e := ntriples.Parse(before + one[:at]); len(l) != 0 || e != api.ErrText {
					t.Errorf("%q: %s, %v", before+one[:at], show(l), e)
				}
			}
		}
	}
}

// piece is a symbol, or those of a term.
type piece struct {
	text string
	kind api.Kind // 0 for what is no term
}

// expect returns how many triples there are in pieces with a space between, and where they are wrong; -1 if nowhere.
func expect(l []piece) (int, int) {
	n, at := 0, 0
	for len(l) > 0 {
		begin := at
		for i := range 4 {
			switch {
			case i == 3 && (l[0].kind == 3 || l[0].kind == 4 || l[1].kind != 1):
				return 0, begin
			case len(l) <= i:
				return 0, at
			case i < 3 && l[i].kind == 0 || i == 3 && l[i].text != ".":
				return 0, at
			}
			at += len(l[i].text) + 1
		}
		n++
		l = l[4:]
	}
	return n, -1
}

// TestRandom: symbols in any order.
func TestRandom(t *testing.T) {
	pieces := []piece{{"<a>", 1}, {"<b>", 1}, {"<c>", 1}, {"_:a", 2}, {`"a"`, 3}, {`"a"@en`, 4}, {`"a" ^^ <b>`, 4}, {".", 0}, {".", 0}, {".", 0}, {"?x", 0}, {"a:b", 0}, {"a", 0}, {"=", 0}}
	r := rand.New(rand.NewSource(55))
	right := 0
	for range 50000 {
		var l []piece
		doc := ""
		for i := range r.Intn(14) {
			x := pieces[r.Intn(len(pieces))]
			// Most of them like triples, or few would be.
			if r.Intn(8) > 0 {
				x = []piece{pieces[r.Intn(4)], pieces[r.Intn(3)], pieces[r.Intn(7)], pieces[7]}[i%4]
			}
			l = append(l, x)
			doc += x.text + " "
		}
		n, at := expect(l)
		if at < 0 {
			right++
			if got, at, e := ntriples.Parse(doc); len(got) != n || at != 0 || e != api.OK {
				t.Fatalf("Parse(%q) = %s, %d, %v; want %d", doc, show(got), at, e, n)
			}
			continue
		}
		if got, p, e := ntriples.Parse(doc); len(got) != 0 || p != at || e != api.ErrText {
			t.Fatalf("Parse(%q) = %s, %d, %v; want %d", doc, show(got), p, e, at)
		}
	}
	if right < 2500 {
		t.Error("too few of them are documents:", right)
	}
}

// TestAnyBytes: nothing panics, whatever the bytes are, and what is wrong is within the text.
func TestAnyBytes(t *testing.T) {
	for a := range 256 {
		for b := range 256 {
			two := string([]byte{byte(a), byte(b)})
			for _, s := range []string{two, "<a> <b> <c> " + two, "<a> <b> \"" + two + "\" .", "<a> <b> <c> ." + two} {
				l, at, e := ntriples.Parse(s)
				x, f := ntriples.One(s)
				switch {
				case e == api.ErrText && len(l) == 0 && at >= 0 && at <= len(s) && f == api.ErrText && x == (api.Triple{}):
				case e == api.OK && at == 0 && (len(l) == 1) == (f == api.OK):
				default:
					t.Errorf("%q: %s, %d, %v; %s, %v", s, show(l), at, e, showOne(x), f)
				}
			}
		}
	}
}

// TestMemory: what is handed in stays as it is, and what is handed out belongs to the caller.
func TestMemory(t *testing.T) {
	l := []api.Triple{def, abc, def}
	before := slices.Clone(l)
	s, _ := ntriples.Text(l)
	if !slices.Equal(l, before) {
		t.Error(show(l))
	}
	first, _, _ := ntriples.Parse(s)
	first[0] = abc
	wantTriples(t, s, before...)
	if again, _ := ntriples.Text(l); again != s {
		t.Errorf("%q, then %q", s, again)
	}
}
