package lex_test

import (
	"fmt"
	"math"
	"math/rand"
	"regexp"
	"slices"
	"strconv"
	"strings"
	"testing"

	"rhizome/api"
	"rhizome/lex"
	"rhizome/term"
)

// What symbols are, without their places.
func iri(s string) api.Symbol {
	return api.Symbol{Kind: api.SymIRI, Term: api.Term{Kind: api.IRI, Text: s}}
}
func blank(s string) api.Symbol {
	return api.Symbol{Kind: api.SymBlank, Term: api.Term{Kind: api.Blank, Text: s}}
}
func str(s string) api.Symbol      { return api.Symbol{Kind: api.SymString, Text: s} }
func lang(s string) api.Symbol     { return api.Symbol{Kind: api.SymLang, Text: s} }
func variable(s string) api.Symbol { return api.Symbol{Kind: api.SymVar, Text: s} }
func word(s string) api.Symbol     { return api.Symbol{Kind: api.SymWord, Text: s} }
func name(s string) api.Symbol     { return api.Symbol{Kind: api.SymName, Text: s} }
func mark(s string) api.Symbol     { return api.Symbol{Kind: api.SymMark, Text: s} }

// at lays symbols at places.
func at(places []int, l ...api.Symbol) []api.Symbol {
	for i := range l {
		l[i].Place = places[i]
	}
	return l
}

// showTerm is how tests tell of a term; of long texts the beginning.
func showTerm(t api.Term) string {
	return fmt.Sprintf("(%d %.60q %.60q)", t.Kind, t.Text, t.Extra)
}

// show is how tests tell of symbols.
func show(l ...api.Symbol) string {
	var b strings.Builder
	for _, x := range l {
		fmt.Fprintf(&b, "[%d %.60q %s at %d]", x.Kind, x.Text, showTerm(x.Term), x.Place)
	}
	return b.String()
}

// collect returns what Runs goes over.
func collect(s string) []api.Symbol {
	return slices.Collect(lex.Runs(s))
}

// wantAll checks that s has these symbols.
func wantAll(t *testing.T, s string, want ...api.Symbol) {
	t.Helper()
	if l, p, e := lex.All(s); !slices.Equal(l, want) || p != 0 || e != api.OK {
		t.Errorf("All(%.60q) = %s, %d, %v; want %s", s, show(l...), p, e, show(want...))
	}
	if l := collect(s); !slices.Equal(l, want) {
		t.Errorf("Runs(%.60q): %s; want %s", s, show(l...), show(want...))
	}
}

// wantWrong checks that s is wrong at a position, and has these symbols before it.
func wantWrong(t *testing.T, s string, place int, before ...api.Symbol) {
	t.Helper()
	if l, p, e := lex.All(s); len(l) != 0 || p != place || e != api.ErrText {
		t.Errorf("All(%.60q) = %s, %d, %v; want %d, ErrText", s, show(l...), p, e, place)
	}
	if l := collect(s); !slices.Equal(l, before) {
		t.Errorf("Runs(%.60q): %s; want %s", s, show(l...), show(before...))
	}
}

// The letters and digits, written out.
const (
	small   = "abcdefghijklmnopqrstuvwxyz"
	capital = "ABCDEFGHIJKLMNOPQRSTUVWXYZ"
	digit   = "0123456789"
)

var marks = []string{"^^", ":-", "!=", "=", ".", ",", "(", ")", "{", "}"}

// piece is the text of one symbol, and the symbol.
type piece struct {
	text string
	sym  api.Symbol
}

// pieces are symbols of each kind, with their texts.
func pieces() []piece {
	l := []piece{}
	for _, m := range marks {
		l = append(l, piece{m, mark(m)})
	}
	for _, s := range []string{"a", "Z", "a1", "x0Y", small, capital, "a" + digit, strings.Repeat("w", 32), "W" + strings.Repeat("9", 31), "not", "prefix", "u", "b"} {
		l = append(l, piece{s, word(s)}, piece{"?" + s, variable(s)}, piece{"_:" + s, blank(s)}, piece{s + ":", name(s + ":")})
	}
	for _, s := range []string{"b", "b-c", "_", "_-", "1", "9-", "a_b-C9", small, capital, digit, strings.Repeat("n", 64), "_" + strings.Repeat("-", 63)} {
		l = append(l, piece{":" + s, name(":" + s)}, piece{"a:" + s, name("a:" + s)}, piece{strings.Repeat("A", 32) + ":" + s, name(strings.Repeat("A", 32) + ":" + s)})
	}
	l = append(l, piece{":", name(":")}, piece{"_:" + strings.Repeat("b", 64), blank(strings.Repeat("b", 64))}, piece{"_:z" + strings.Repeat("0", 63), blank("z" + strings.Repeat("0", 63))})
	for _, s := range []string{"a", "en", small, "en-us", "en-1", "a-b-c-1x-x1", "z-" + digit, strings.Repeat("l", 35), strings.Repeat("l", 33) + "-9", strings.Repeat("a-", 17) + "a"} {
		l = append(l, piece{"@" + s, lang(s)})
	}
	for _, s := range []string{"a", "http://a/b?c=d#e", "#", "?x", "_:b", "a:b", ".", ",", "(", "'", "!=", ":-", "@en", "é€😀", "\u007f", "\u0085", api.SameAs, api.XSDString, strings.Repeat("i", 1000), strings.Repeat("é", 500)} {
		l = append(l, piece{"<" + s + ">", iri(s)})
	}
	for _, s := range []string{"", "a", " ", "a b", "#", "'", "<>", "?x@en^^:-.", "\t", "\x00\x01\x07\x08\x0b\x0c\x1f\x7f", "é€😀\U0010ffff", strings.Repeat("s", 4000), strings.Repeat("s", 4001), strings.Repeat("é", 30000)} {
		l = append(l, piece{`"` + s + `"`, str(s)})
	}
	return l
}

// betweens are what may stand between symbols: all of them end as spaces do.
var betweens = []string{" ", "\t", "\n", "\r", "\r\n", " \t\n\r ", "#\n", "# a \"b <c ! \\ é€😀\n", " # one\n# two\n", "#\r<\n", "###\n\n"}

// TestKinds: each symbol alone, and with spaces and comments around it.
func TestKinds(t *testing.T) {
	for _, x := range pieces() {
		wantAll(t, x.text, x.sym)
		for _, b := range betweens {
			sym := x.sym
			sym.Place = len(b)
			wantAll(t, b+x.text, sym)
			wantAll(t, b+x.text+b, sym)
			wantAll(t, x.text+b+"#", x.sym)
			wantAll(t, x.text+b+"# é", x.sym)
		}
	}
}

// TestPairs: all pairs of symbols with something between.
func TestPairs(t *testing.T) {
	for i, x := range pieces() {
		for k, y := range pieces() {
			b := betweens[(i+k)%len(betweens)]
			second := y.sym
			second.Place = len(x.text + b)
			if l, p, e := lex.All(x.text + b + y.text); !slices.Equal(l, []api.Symbol{x.sym, second}) || p != 0 || e != api.OK {
				t.Errorf("%.60q, %.60q: %s, %d, %v", x.text, y.text, show(l...), p, e)
			}
		}
	}
}

// TestNothing: texts without symbols.
func TestNothing(t *testing.T) {
	for _, s := range append([]string{"", "#", "# \"", "#\n#", "# a b c", "#é"}, betweens...) {
		wantAll(t, s)
	}
}

// TestBeside: symbols with nothing between them.
func TestBeside(t *testing.T) {
	for _, x := range []struct {
		s string
		l []api.Symbol
	}{
		{`<a>:-?x != "b"@en .`, at([]int{0, 3, 5, 8, 11, 14, 18}, iri("a"), mark(":-"), variable("x"), mark("!="), str("b"), lang("en"), mark("."))},
		{"a:b-c a :", at([]int{0, 6, 8}, name("a:b-c"), word("a"), name(":"))},
		{"x:-b", at([]int{0, 1, 3}, word("x"), mark(":-"), word("b"))},
		{":-:-b", at([]int{0, 2, 4}, mark(":-"), mark(":-"), word("b"))},
		{":-:b", at([]int{0, 2}, mark(":-"), name(":b"))},
		{"::-b", at([]int{0, 1, 3}, name(":"), mark(":-"), word("b"))},
		{"a::-", at([]int{0, 2}, name("a:"), mark(":-"))},
		{"a:b:c", at([]int{0, 3}, name("a:b"), name(":c"))},
		{"a:b:-c", at([]int{0, 3, 5}, name("a:b"), mark(":-"), word("c"))},
		{"a:::b", at([]int{0, 2, 3}, name("a:"), name(":"), name(":b"))},
		{"a:b-:-", at([]int{0, 4}, name("a:b-"), mark(":-"))},
		{"a:_:b", at([]int{0, 3}, name("a:_"), name(":b"))},
		{"a_:b", at([]int{0, 1}, word("a"), blank("b"))},
		{"a:1b", at([]int{0}, name("a:1b"))},
		{"_:a:b", at([]int{0, 3}, blank("a"), name(":b"))},
		{"_:a_:b", at([]int{0, 3}, blank("a"), blank("b"))},
		{"_:a:-", at([]int{0, 3}, blank("a"), mark(":-"))},
		{"_:a.", at([]int{0, 3}, blank("a"), mark("."))},
		{"?a:b", at([]int{0, 2}, variable("a"), name(":b"))},
		{"?a?b", at([]int{0, 2}, variable("a"), variable("b"))},
		{"?a_:b", at([]int{0, 2}, variable("a"), blank("b"))},
		{"a?b", at([]int{0, 1}, word("a"), variable("b"))},
		{"a.b", at([]int{0, 1, 2}, word("a"), mark("."), word("b"))},
		{"a:b.", at([]int{0, 3}, name("a:b"), mark("."))},
		{"a=b!=c", at([]int{0, 1, 2, 3, 5}, word("a"), mark("="), word("b"), mark("!="), word("c"))},
		{"==!=.", at([]int{0, 1, 2, 4}, mark("="), mark("="), mark("!="), mark("."))},
		{"(){},..", at([]int{0, 1, 2, 3, 4, 5, 6}, mark("("), mark(")"), mark("{"), mark("}"), mark(","), mark("."), mark("."))},
		{"^^^^", at([]int{0, 2}, mark("^^"), mark("^^"))},
		{`"1"^^<t>`, at([]int{0, 3, 5}, str("1"), mark("^^"), iri("t"))},
		{`"1"^^x:t.`, at([]int{0, 3, 5, 8}, str("1"), mark("^^"), name("x:t"), mark("."))},
		{`""""`, at([]int{0, 2}, str(""), str(""))},
		{`"a"b"c"`, at([]int{0, 3, 4}, str("a"), word("b"), str("c"))},
		{"<a><b>", at([]int{0, 3}, iri("a"), iri("b"))},
		{"<a>b<c>", at([]int{0, 3, 4}, iri("a"), word("b"), iri("c"))},
		{"@en.", at([]int{0, 3}, lang("en"), mark("."))},
		{"@en@de", at([]int{0, 3}, lang("en"), lang("de"))},
		{"@enX", at([]int{0, 3}, lang("en"), word("X"))},
		{"@en:b", at([]int{0, 3}, lang("en"), name(":b"))},
		{"@en_:b", at([]int{0, 3}, lang("en"), blank("b"))},
		{"@en-us?x", at([]int{0, 6}, lang("en-us"), variable("x"))},
		{"a#b\nc", at([]int{0, 4}, word("a"), word("c"))},
		{"a#b\rc", at([]int{0}, word("a"))},
		{"a:b#c", at([]int{0}, name("a:b"))},
		{"<a#b>#c", at([]int{0}, iri("a#b"))},
		{`"#"#"`, at([]int{0}, str("#"))},
		{"a\rb", at([]int{0, 2}, word("a"), word("b"))},
		{"<é>\"€\" a # 😀\n b", at([]int{0, 4, 10, 20}, iri("é"), str("€"), word("a"), word("b"))},
	} {
		wantAll(t, x.s, x.l...)
	}
}

// TestWrong: what is wrong alone, in all of its bytes; wrong is its first one.
func TestWrong(t *testing.T) {
	for _, s := range []string{
		// What begins no symbol.
		"!", "! =", "!a", "^", "^ ^", "^<a>", "-", "-a", "_", "_a", "__:a", "_ :a", "0", "1", "1a", "9:", "1:b", "12:-", "'", "'a'", "\\", "\\u0041", "/", "[", "]", "&", ";", "$", "%", "*", "+", "|", "~", "`", ">", "\x00", "\x0b", "\x0c", "\x1f", "\x7f", "\u0085", "\u00a0", "é", "\u2028", "\ufeff", "😀",
		// What has no end.
		"<", "<a", "<a b", "<a\n", "<a\n>", "<a.", "\"", "\"a", "\"a\n\"", "\"a\r\"", "\"\n", "\"\\\"", "\"a\\", "\"'", "\"<a>",
		// What is not as it should be.
		"<>", "<a b>", "< >", "<a\t>", "<a<b>", "<\">", "<{>", "<}>", "<|>", "<^>", "<`>", "<\x00>", "<\x1f>", "< a>", "<a >",
		"_:", "_:1", "_:9b", "_: a", "_:_", "_:-", "_:.", "_:é", "_::", "_:-b",
		"?", "?1", "?9a", "? a", "?_", "?-", "?.", "?é", "??a", "?:a",
		"@", "@1", "@1a", "@ en", "@-", "@-en", "@E", "@EN", "@En", "@_", "@.", "@é", "@@en",
		"@en-", "@en--us", "@en-us-", "@en-US", "@en-.", "@en1", "@e1-us",
		// What is too long.
		strings.Repeat("w", 33), strings.Repeat("w", 1000), strings.Repeat("W", 33) + ":", strings.Repeat("w", 33) + ":b", strings.Repeat("w", 33) + ":-b",
		":" + strings.Repeat("n", 65), "a:" + strings.Repeat("n", 65), "a:" + strings.Repeat("n", 63) + "-_", ":" + strings.Repeat("1", 1000), strings.Repeat("A", 32) + ":" + strings.Repeat("n", 65),
		"_:" + strings.Repeat("b", 65), "_:b" + strings.Repeat("1", 64), "_:" + strings.Repeat("b", 1000),
		"?" + strings.Repeat("v", 33), "?v" + strings.Repeat("1", 32), "?" + strings.Repeat("v", 1000),
		"@" + strings.Repeat("l", 36), "@" + strings.Repeat("l", 34) + "-9", "@" + strings.Repeat("a-", 18) + "a",
		"<" + strings.Repeat("i", 1001) + ">", "<" + strings.Repeat("é", 500) + "i>", "<" + strings.Repeat("i", 100000) + ">", "<\\u0061" + strings.Repeat("i", 1000) + ">",
	} {
		wantWrong(t, s, 0)
		wantWrong(t, " #\n"+s, 3)
		for _, x := range []piece{{"<a>", iri("a")}, {`"b"`, str("b")}, {"=", mark("=")}, {"?x ", variable("x")}, {"_:b ", blank("b")}, {"a:b ", name("a:b")}, {"w\t", word("w")}, {"@en #\n", lang("en")}} {
			wantWrong(t, x.text+s, len(x.text), x.sym)
		}
	}
}

// TestWrongThen: what is wrong behind a symbol that ends there.
func TestWrongThen(t *testing.T) {
	for _, x := range []struct {
		s     string
		place int
		l     []api.Symbol
	}{
		{"a_", 1, at([]int{0}, word("a"))},
		{"a-b", 1, at([]int{0}, word("a"))},
		{"aé", 1, at([]int{0}, word("a"))},
		{"a:b/c", 3, at([]int{0}, name("a:b"))},
		{"a:é", 2, at([]int{0}, name("a:"))},
		{"_:a_b", 3, at([]int{0}, blank("a"))},
		{"_:a-b", 3, at([]int{0}, blank("a"))},
		{"?a_b", 2, at([]int{0}, variable("a"))},
		{"?a-b", 2, at([]int{0}, variable("a"))},
		{"?aé", 2, at([]int{0}, variable("a"))},
		{"@en_us", 3, at([]int{0}, lang("en"))},
		{"@ené", 3, at([]int{0}, lang("en"))},
		{"@enA-a", 4, at([]int{0, 3}, lang("en"), word("A"))},
		{"^^^", 2, at([]int{0}, mark("^^"))},
		{"=!", 1, at([]int{0}, mark("="))},
		{"!=!", 2, at([]int{0}, mark("!="))},
		{":--", 2, at([]int{0}, mark(":-"))},
		{"<a>>", 3, at([]int{0}, iri("a"))},
		{`"a""`, 3, at([]int{0}, str("a"))},
		{"a:b <c> ! ? ", 8, at([]int{0, 4}, name("a:b"), iri("c"))},
	} {
		wantWrong(t, x.s, x.place, x.l...)
	}
}

// TestShortEscapes: each byte behind a backslash, in quotes and in an IRI.
func TestShortEscapes(t *testing.T) {
	means := map[byte]string{'t': "\t", 'b': "\b", 'n': "\n", 'r': "\r", 'f': "\f", '"': "\"", '\'': "'", '\\': "\\"}
	for c := range byte(128) {
		s := `"x\` + string(rune(c)) + `y"`
		if m, ok := means[c]; ok {
			wantAll(t, s, str("x"+m+"y"))
		} else {
			wantWrong(t, s, 0)
		}
		wantWrong(t, "<x\\"+string(rune(c))+"y>", 0)
	}
	wantAll(t, `"\t\b\n\r\f\"\'\\"`, str("\t\b\n\r\f\"'\\"))
	wantAll(t, `"\\""\\n"`, at([]int{0, 4}, str("\\"), str("\\n"))...)
	wantWrong(t, `"\\" "\"`, 5, str("\\"))
	wantWrong(t, "\"\\é\"", 0)
	wantWrong(t, "<\\é>", 0)
}

// TestLongEscapes: \u and \U, in quotes and in an IRI.
func TestLongEscapes(t *testing.T) {
	for _, x := range []struct{ escape, means string }{
		{`\u0041`, "A"}, {`\u00e9`, "é"}, {`\u00E9`, "é"}, {`\u20ac`, "€"}, {`\u20aC`, "€"}, {`\uD7FF`, "\ud7ff"}, {`\ue000`, "\ue000"}, {`\uFFFF`, "\uffff"}, {`\uabcd`, "\uabcd"}, {`\uABCD`, "\uabcd"}, {`\uef01`, "\uef01"},
		{`\U00000041`, "A"}, {`\U0001F600`, "😀"}, {`\U0001f600`, "😀"}, {`\U0010FFFF`, "\U0010ffff"}, {`\U0010ffff`, "\U0010ffff"}, {`\U000000e9`, "é"}, {`\U00010000`, "\U00010000"},
		{`\u00410`, "A0"}, {`\u0041\u0042`, "AB"}, {`\U000000410`, "A0"}, {`\u00e9é`, "éé"}, {`\u0041g`, "Ag"},
	} {
		wantAll(t, `"`+x.escape+`"`, str(x.means))
		wantAll(t, `"x`+x.escape+`y"`, str("x"+x.means+"y"))
		wantAll(t, "<"+x.escape+">", iri(x.means))
		wantAll(t, "<x"+x.escape+"y>", iri("x"+x.means+"y"))
	}
	// Runes that quotes may hold, and an IRI may not.
	for _, x := range []struct{ escape, means string }{
		{`\u0000`, "\x00"}, {`\u000a`, "\n"}, {`\u000D`, "\r"}, {`\u0020`, " "}, {`\U0000003c`, "<"}, {`\u003E`, ">"}, {`\u0022`, `"`}, {`\u007b`, "{"}, {`\u007D`, "}"}, {`\u007c`, "|"}, {`\u005e`, "^"}, {`\u0060`, "`"}, {`\u005C`, `\`}, {`\U0000005c`, `\`}, {`\u005cn`, `\n`},
	} {
		wantAll(t, `"`+x.escape+`"`, str(x.means))
		wantAll(t, `"x`+x.escape+`y"`, str("x"+x.means+"y"))
		wantWrong(t, "<"+x.escape+">", 0)
		wantWrong(t, "<x"+x.escape+"y>", 0)
	}
	for _, s := range []string{
		`\u`, `\u0`, `\u00`, `\u004`, `\U`, `\U0000004`, `\U0041`, `\u004g`, `\u00G1`, `\u 041`, `\u+041`, `\u-041`, `\u0x41`, `\u4_1a`, `\U0000_0041`, `\U0x000041`, `\u004é`, `\u{41}`, `\u００`, `\u004` + "\n" + `1`,
		`\uD800`, `\ud800`, `\uDFFF`, `\udbff`, `\uDC00`, `\uD83D\uDE00`, `\U0000D800`, `\U0000dfff`, `\U00110000`, `\U80000000`, `\UFFFFFFFF`, `\UFFFF0041`, `\U7fffffff`,
	} {
		wantWrong(t, `"`+s+`"`, 0)
		wantWrong(t, `"a`+s+`z"`, 0)
		wantWrong(t, "<"+s+">", 0)
		wantWrong(t, "<a"+s+"z>", 0)
		wantWrong(t, `<a> "`+s, 4, iri("a"))
		wantWrong(t, `"a" <`+s, 4, str("a"))
	}
	// The bound of an IRI is that of what it denotes.
	wantAll(t, "<"+strings.Repeat(`\u0061`, 1000)+">", iri(strings.Repeat("a", 1000)))
	wantWrong(t, "<"+strings.Repeat(`\u0061`, 1001)+">", 0)
	wantAll(t, "<"+strings.Repeat(`\U000000e9`, 500)+">", iri(strings.Repeat("é", 500)))
	wantWrong(t, "<"+strings.Repeat(`\U000000e9`, 500)+"a>", 0)
}

// TestIllFormed: the first byte that is not well-formed is wrong, wherever it is, and whatever else is.
func TestIllFormed(t *testing.T) {
	for _, bad := range []string{"\xff", "\x80", "\xc3", "\xc0\x80", "\xe2\x82", "\xe2\x82 ", "\xed\xa0\x80", "\xf4\x90\x80\x80", "\xf0\x9f\x98"} {
		for _, after := range []string{"", " b", "\"", "\n"} {
			s := bad + after
			wantWrong(t, s, 0)
			wantWrong(t, "a"+s, 1, word("a"))
			wantWrong(t, "a b:c  "+s, 7, at([]int{0, 2}, word("a"), name("b:c"))...)
			wantWrong(t, "é"+s, 2)
			wantWrong(t, "a é \""+s, 6, word("a"))
			wantWrong(t, "! a "+s, 4)
			wantWrong(t, "a # é "+s, 7, word("a"))
			wantWrong(t, "a <b"+s+">", 4, word("a"))
			wantWrong(t, "a \"b"+s+"\"", 4, word("a"))
			wantWrong(t, strings.Repeat("w", 40)+s, 40)
			wantWrong(t, "a:"+s, 2, name("a:"))
		}
	}
}

// TestMaxSource: texts of the greatest length, and of one byte more.
func TestMaxSource(t *testing.T) {
	full := strings.Repeat(" ", api.MaxSource)
	wantAll(t, full)
	wantAll(t, full[1:]+"a", at([]int{api.MaxSource - 1}, word("a"))...)
	wantAll(t, "#"+strings.Repeat("é", (api.MaxSource-1)/2)+"\n")
	wantWrong(t, full[1:]+"!", api.MaxSource-1)
	wantWrong(t, full[1:]+"\xff", api.MaxSource-1)
	wantAll(t, `"`+full[2:]+`"`, str(full[2:]))
	if l, p, e := lex.All(strings.Repeat(".", api.MaxSource)); len(l) != api.MaxSource || p != 0 || e != api.OK || l[api.MaxSource-1] != at([]int{api.MaxSource - 1}, mark("."))[0] {
		t.Error("marks", len(l), p, e)
	}
	for _, s := range []string{full + " ", full + "a", "! " + full, "\xff" + full, full + "\xff", full + "\"", strings.Repeat("(", api.MaxSource+1), full + full} {
		if l, p, e := lex.All(s); len(l) != 0 || p != 0 || e != api.ErrLong {
			t.Errorf("All of %d bytes: %s, %d, %v", len(s), show(l...), p, e)
		}
	}
}

// TestRunsLong: Runs has no bound.
func TestRunsLong(t *testing.T) {
	s := strings.Repeat(" ", api.MaxSource)
	if l := collect(s + "a" + s + "b"); !slices.Equal(l, at([]int{len(s), 2*len(s) + 1}, word("a"), word("b"))) {
		t.Error(show(l...))
	}
}

// TestRunsStopped: an iteration is stopped after each number of symbols, and begun anew.
func TestRunsStopped(t *testing.T) {
	for _, s := range []string{`<a>:-?x != "b"@en .`, "a b c !", "a b c \xff d", "", "!"} {
		runs, whole := lex.Runs(s), collect(s)
		for n := range len(whole) + 2 {
			var l []api.Symbol
			for x := range runs {
				if len(l) == n {
					break
				}
				l = append(l, x)
			}
			if !slices.Equal(l, whole[:min(n, len(whole))]) {
				t.Errorf("%q, %d: %s", s, n, show(l...))
			}
		}
		if l := slices.Collect(runs); !slices.Equal(l, whole) {
			t.Errorf("%q again: %s", s, show(l...))
		}
		for x := range runs {
			if l := slices.Collect(runs); !slices.Equal(l, whole) || x != whole[0] {
				t.Errorf("%q within: %s", s, show(l...))
			}
			break
		}
	}
}

// TestRunsPanic: a panic of the caller's is the caller's.
func TestRunsPanic(t *testing.T) {
	defer func() {
		if p := recover(); p != "mine" {
			t.Error(p)
		}
	}()
	for range lex.Runs("a b") {
		panic("mine")
	}
	t.Error("no panic")
}

// TestNew: lists that were answered are the caller's.
func TestNew(t *testing.T) {
	s := "a <b> c"
	a, _, _ := lex.All(s)
	want := slices.Clone(a)
	b, _, _ := lex.All(s)
	clear(b)
	if !slices.Equal(a, want) {
		t.Error(show(a...))
	}
	if c, _, _ := lex.All(s); !slices.Equal(c, want) {
		t.Error(show(c...))
	}
}

// prefixes are those of the tests of Read.
var prefixes = map[string]string{
	"x": "http://x/", "X": "http://capital/", "": "urn:empty:", "none": "", "bad": "a b", "ill": "\xff", "xsd": "http://www.w3.org/2001/XMLSchema#", "long": strings.Repeat("p", 999),
}

// read returns the symbols of s.
func read(t *testing.T, s string) []api.Symbol {
	t.Helper()
	l, p, e := lex.All(s)
	if e != api.OK {
		t.Fatalf("All(%.60q): %d, %v", s, p, e)
	}
	return l
}

func TestRead(t *testing.T) {
	is := func(kind api.Kind, text, extra string) api.Term {
		return api.Term{Kind: kind, Text: text, Extra: extra}
	}
	for _, x := range []struct {
		s string
		t api.Term
		n int
	}{
		{"<a>", is(api.IRI, "a", ""), 1},
		{`<\u0061>`, is(api.IRI, "a", ""), 1},
		{"_:b", is(api.Blank, "b", ""), 1},
		{"x:b", is(api.IRI, "http://x/b", ""), 1},
		{"x:", is(api.IRI, "http://x/", ""), 1},
		{"x:_-9", is(api.IRI, "http://x/_-9", ""), 1},
		{"X:b", is(api.IRI, "http://capital/b", ""), 1},
		{":b", is(api.IRI, "urn:empty:b", ""), 1},
		{":", is(api.IRI, "urn:empty:", ""), 1},
		{"none:b", is(api.IRI, "b", ""), 1},
		{"xsd:string", is(api.IRI, api.XSDString, ""), 1},
		{"long:a", is(api.IRI, strings.Repeat("p", 999)+"a", ""), 1},
		{`"a"`, is(api.Plain, "a", ""), 1},
		{`""`, is(api.Plain, "", ""), 1},
		{`"a"@en`, is(api.Lang, "a", "en"), 2},
		{`"a" #
			@en-us`, is(api.Lang, "a", "en-us"), 2},
		{`""@x`, is(api.Lang, "", "x"), 2},
		{`"1"^^<t>`, is(api.Typed, "1", "t"), 3},
		{`"1" ^^ <t>`, is(api.Typed, "1", "t"), 3},
		{`"1"^^x:t`, is(api.Typed, "1", "http://x/t"), 3},
		{`"1"^^:t`, is(api.Typed, "1", "urn:empty:t"), 3},
		{`"1"^^xsd:int`, is(api.Typed, "1", "http://www.w3.org/2001/XMLSchema#int"), 3},
		{`"1"^^<http://www.w3.org/2001/XMLSchema#string>`, is(api.Plain, "1", ""), 3},
		{`"1"^^xsd:string`, is(api.Plain, "1", ""), 3},
		{`"1"^^xsd:String`, is(api.Typed, "1", "http://www.w3.org/2001/XMLSchema#String"), 3},
		{`"` + strings.Repeat("s", 4000) + `"@en`, is(api.Lang, strings.Repeat("s", 4000), "en"), 2},
		// What is behind the longest one.
		{"<a>@en", is(api.IRI, "a", ""), 1},
		{"<a>^^<t>", is(api.IRI, "a", ""), 1},
		{"_:b@en", is(api.Blank, "b", ""), 1},
		{"x:b <c> <d>", is(api.IRI, "http://x/b", ""), 1},
		{`"a" "b"`, is(api.Plain, "a", ""), 1},
		{`"a" @en @de`, is(api.Lang, "a", "en"), 2},
		{`"a" @en ^^<t>`, is(api.Lang, "a", "en"), 2},
		{`"a"^^<t>@en`, is(api.Typed, "a", "t"), 3},
		{`"a"^^<t>^^<u>`, is(api.Typed, "a", "t"), 3},
		{`"a" . @en`, is(api.Plain, "a", ""), 1},
		{`"a" <t>`, is(api.Plain, "a", ""), 1},
		// A string before ^^ without an IRI behind it.
		{`"a"^^`, is(api.Plain, "a", ""), 1},
		{`"a"^^^^<t>`, is(api.Plain, "a", ""), 1},
		{`"a"^^"t"`, is(api.Plain, "a", ""), 1},
		{`"a"^^_:b`, is(api.Plain, "a", ""), 1},
		{`"a"^^?t`, is(api.Plain, "a", ""), 1},
		{`"a"^^x`, is(api.Plain, "a", ""), 1},
		{`"a"^^y:t`, is(api.Plain, "a", ""), 1},
		{`"a"^^bad:t`, is(api.Plain, "a", ""), 1},
		{`"a"^^ill:t`, is(api.Plain, "a", ""), 1},
		{`"a"^^none:`, is(api.Plain, "a", ""), 1},
		{`"a"^^long:tt`, is(api.Plain, "a", ""), 1},
		{`"a"^^.<t>`, is(api.Plain, "a", ""), 1},
		{`"a"=<t>`, is(api.Plain, "a", ""), 1},
	} {
		l := read(t, x.s)
		if y, n, e := lex.Read(l, prefixes); y != x.t || n != x.n || e != api.OK {
			t.Errorf("Read(%.60q) = %s, %d, %v", x.s, showTerm(y), n, e)
		}
		// Only so many symbols are asked about.
		if y, n, e := lex.Read(l[:x.n:x.n], prefixes); y != x.t || n != x.n || e != api.OK {
			t.Errorf("Read(%.60q), alone = %s, %d, %v", x.s, showTerm(y), n, e)
		}
	}
}

// wantNoTerm checks that l begins with no term.
func wantNoTerm(t *testing.T, l []api.Symbol, prefixes map[string]string) {
	t.Helper()
	if y, n, e := lex.Read(l, prefixes); y != (api.Term{}) || n != 0 || e != api.ErrText {
		t.Errorf("Read(%s) = %s, %d, %v", show(l...), showTerm(y), n, e)
	}
}

func TestReadNothing(t *testing.T) {
	wantNoTerm(t, nil, nil)
	wantNoTerm(t, []api.Symbol{}, prefixes)
	for _, s := range []string{
		"", "#", "@en", "@en \"a\"", "?x", "?x <a>", "a", "x", ". <a>", "^^<t>", "= \"a\"",
		"y:b", "y:", "bad:b", "bad:", "ill:b", "none:", "long:bb", "x1:b", "xx:b", "XSD:int", "None:b",
		`"` + strings.Repeat("s", 4001) + `"`, `"` + strings.Repeat("s", 4001) + `"@en`, `"` + strings.Repeat("s", 4001) + `"^^<t>`, `"` + strings.Repeat("s", 4001) + `"^^xsd:string`, `"` + strings.Repeat("é", 2001) + `"@en`,
	} {
		wantNoTerm(t, read(t, s), prefixes)
	}
	for _, s := range []string{"x:b", ":b", ":", "none:b"} {
		wantNoTerm(t, read(t, s), nil)
		wantNoTerm(t, read(t, s), map[string]string{"y": "a", "x:": "a", "xb": "a"})
	}
}

// TestReadOther: what no text has is no term.
func TestReadOther(t *testing.T) {
	a := api.Term{Kind: api.IRI, Text: "a"}
	for _, x := range []api.Symbol{
		{}, {Term: a}, {Kind: -1, Term: a}, {Kind: 9, Term: a}, {Kind: math.MaxInt, Term: a}, {Kind: api.SymWord, Text: "x", Term: a}, {Kind: api.SymMark, Text: "x", Term: a}, {Kind: api.SymVar, Text: "x", Term: a}, {Kind: api.SymLang, Text: "en", Term: a},
		{Kind: api.SymIRI}, {Kind: api.SymIRI, Text: "a"}, {Kind: api.SymIRI, Term: api.Term{Kind: api.IRI, Text: "a b"}}, {Kind: api.SymIRI, Term: api.Term{Kind: api.IRI, Text: "a", Extra: "b"}}, {Kind: api.SymIRI, Term: api.Term{Kind: api.Plain, Text: "a"}}, {Kind: api.SymIRI, Term: api.Term{Kind: api.Blank, Text: "a"}},
		{Kind: api.SymBlank}, {Kind: api.SymBlank, Text: "b"}, {Kind: api.SymBlank, Term: a}, {Kind: api.SymBlank, Term: api.Term{Kind: api.Blank, Text: "1"}},
		{Kind: api.SymName}, {Kind: api.SymName, Text: "x"}, {Kind: api.SymName, Text: "xb"}, {Kind: api.SymName, Term: a}, {Kind: api.SymName, Text: "x:\xff"}, {Kind: api.SymName, Text: "x: "},
		{Kind: api.SymString, Text: "\xff"}, {Kind: api.SymString, Text: strings.Repeat("s", 4001)},
	} {
		wantNoTerm(t, []api.Symbol{x}, prefixes)
		wantNoTerm(t, []api.Symbol{x, lang("en"), word("a")}, prefixes)
		wantNoTerm(t, []api.Symbol{x, mark("^^"), iri("t")}, prefixes)
	}
	// Behind a string it is taken as if it were not there.
	for _, l := range [][]api.Symbol{
		{str("a"), lang("")}, {str("a"), lang("EN")}, {str("a"), lang("en-")}, {str("a"), mark("^^"), {Kind: api.SymIRI}}, {str("a"), mark("^^"), {Kind: api.SymIRI, Term: api.Term{Kind: api.Blank, Text: "b"}}}, {str("a"), mark("^^"), {Kind: api.SymBlank, Term: a}}, {str("a"), {Kind: api.SymString, Text: "^^"}, iri("t")}, {str("a"), {Kind: api.SymMark, Text: "^"}, iri("t")}, {str("a"), {Kind: api.SymWord, Text: "en"}},
	} {
		if y, n, e := lex.Read(l, prefixes); y != (api.Term{Kind: api.Plain, Text: "a"}) || n != 1 || e != api.OK {
			t.Errorf("Read(%s) = %s, %d, %v", show(l...), showTerm(y), n, e)
		}
	}
}

// TestReadKeeps: what is handed in stays as it is.
func TestReadKeeps(t *testing.T) {
	l := read(t, `"1"^^x:t .`)
	before, known := slices.Clone(l), len(prefixes)
	lex.Read(l, prefixes)
	if !slices.Equal(l, before) || len(prefixes) != known || prefixes["x"] != "http://x/" {
		t.Error(show(l...), prefixes)
	}
}

func TestMark(t *testing.T) {
	for _, m := range marks {
		x := read(t, " "+m)[0]
		for _, other := range append([]string{"", "^", ":", "!", "-", "==", "a", m + " ", " " + m, m + m}, marks...) {
			if lex.Mark(x, other) != (m == other) {
				t.Errorf("Mark(%q, %q)", m, other)
			}
		}
		for k := api.SymKind(-1); k < 10; k++ {
			if lex.Mark(api.Symbol{Kind: k, Text: m}, m) != (k == api.SymMark) {
				t.Errorf("Mark of kind %d, %q", k, m)
			}
		}
	}
	if lex.Mark(str("="), "=") || lex.Mark(api.Symbol{}, "") || lex.Mark(name(":"), ":") {
		t.Error("what is no mark")
	}
}

func TestWord(t *testing.T) {
	same := [][2]string{{"a", "a"}, {"a", "A"}, {"A", "a"}, {"Z", "z"}, {"z", "Z"}, {"not", "NOT"}, {"NoT", "nOt"}, {"a1", "A1"}, {"SELECT", "select"}, {small + "01234", capital + "01234"}, {"k", "K"}, {"s", "S"}}
	for _, x := range same {
		if len(x[0]) <= 32 && !lex.Word(read(t, " "+x[0])[0], x[1]) {
			t.Errorf("Word(%q, %q)", x[0], x[1])
		}
	}
	for _, x := range [][2]string{{"a", "b"}, {"a", ""}, {"a", "aa"}, {"aa", "a"}, {"not", "no"}, {"not", "nota"}, {"not", "not "}, {"a1", "aQ"}, {"aQ", "a1"}, {"a0", "aP"}, {"k", "\u212a"}, {"s", "\u017f"}, {"K", "\u212a"}, {"S", "\u017f"}, {"aa", "a\xe1"}, {"a", "\x01"}, {"z", "\x1a"}, {"z", ":"}} {
		if lex.Word(read(t, x[0])[0], x[1]) {
			t.Errorf("Word(%q, %q)", x[0], x[1])
		}
	}
	for k := api.SymKind(-1); k < 10; k++ {
		if lex.Word(api.Symbol{Kind: k, Text: "not"}, "NOT") != (k == api.SymWord) {
			t.Errorf("Word of kind %d", k)
		}
	}
	for _, x := range []api.Symbol{str("not"), variable("not"), lang("not"), name("not"), mark("not"), {}} {
		if lex.Word(x, "not") {
			t.Error(show(x))
		}
	}
	// Signs that are as far from each other as capital and small letters are, and are no letters.
	for _, x := range [][2]string{{"@", "`"}, {"[", "{"}, {"_", "\x7f"}, {"^", "~"}, {"\xc0", "\xe0"}} {
		if lex.Word(word(x[0]), x[1]) {
			t.Errorf("Word(%q, %q)", x[0], x[1])
		}
	}
}

// terms are valid terms of each kind.
func terms() []api.Term {
	texts := []string{"", "a", " ", `"`, `\`, `\n`, `\"`, "'", "#", "# a\n", "\n", "\r", "\t", "\b", "\f", "\x00", "\x1f", "\x7f", "<a>", "?x", "é€😀\U0010ffff", "@en", "^^<t>", strings.Repeat(`"`, 4000), strings.Repeat("\x00", 4000), strings.Repeat("é", 2000)}
	iris := []string{"a", "http://a/b#c", "é€😀", "\u007f", "\u0085", "_:b", "'", "x:b", "#", strings.Repeat("i", 1000), api.SameAs}
	for r := range rune(256) {
		texts = append(texts, string(r))
		if r > 32 && !strings.ContainsRune("<>\"{}|^`\\", r) {
			iris = append(iris, "a"+string(r))
		}
	}
	var l []api.Term
	for _, s := range iris {
		l = append(l, api.Term{Kind: api.IRI, Text: s}, api.Term{Kind: api.Typed, Text: "a b", Extra: s})
	}
	for _, s := range []string{"b", "B9", small + capital + digit, strings.Repeat("b", 64)} {
		l = append(l, api.Term{Kind: api.Blank, Text: s})
	}
	for _, s := range texts {
		l = append(l, api.Term{Kind: api.Plain, Text: s}, api.Term{Kind: api.Lang, Text: s, Extra: "en-1a"}, api.Term{Kind: api.Lang, Text: s, Extra: strings.Repeat("l", 35)}, api.Term{Kind: api.Typed, Text: s, Extra: "http://t"})
	}
	return l
}

// TestTermTexts: the symbols of the text of a term are read as it, whatever prefixes there are, and whatever comes behind a space.
func TestTermTexts(t *testing.T) {
	for _, x := range terms() {
		s, e := term.Text(x)
		if e != api.OK {
			t.Fatalf("%s: %v", showTerm(x), e)
		}
		l := read(t, s)
		if y, n, e := lex.Read(l, nil); y != x || n != len(l) || e != api.OK {
			t.Errorf("%.60q: %s, %d, %v", s, showTerm(y), n, e)
		}
		for _, after := range []string{" .", " <a>", " \"b\"", " _:b", " a:b", " ?x", " :-", " # a"} {
			if y, n, e := lex.Read(read(t, s+after), prefixes); y != x || n != len(l) || e != api.OK {
				t.Errorf("%.60q: %s, %d, %v", s+after, showTerm(y), n, e)
			}
		}
	}
}

// scraps are what random texts are made of.
var scraps = strings.Split("a|b|Z|9|:|::|:-|-|_|_:|_:b|?|?x|@|@en|@en-us|-1|<|>|<a>|<é>|<a|\"|\"\"|\"a\"|\\\"|\\u0041|\\U0001F600|\\uD800|\\n|\\x|!|!=|=|==|.|,|(|)|{|}|^|^^|'|#|#a\n| |\t|\n|\r|é|€|\x00|\xff|\xe2\x82|"+strings.Repeat("w", 30)+"|"+strings.Repeat("1", 31), "|")

// randomText returns a text of a few scraps.
func randomText(r *rand.Rand) string {
	var b strings.Builder
	for range r.Intn(9) {
		b.WriteString(scraps[r.Intn(len(scraps))])
	}
	return b.String()
}

// looks are the forms of symbols without their bounds, in the order in which they go.
var looks = []struct {
	kind api.SymKind
	form *regexp.Regexp
	most int
}{
	{api.SymMark, regexp.MustCompile(`^(\^\^|:-|!=|[=.,(){}])`), math.MaxInt},
	{api.SymName, regexp.MustCompile(`^(?:[A-Za-z][A-Za-z0-9]*)?:(?:[A-Za-z0-9_][A-Za-z0-9_-]*)?`), math.MaxInt},
	{api.SymWord, regexp.MustCompile(`^[A-Za-z][A-Za-z0-9]*`), 32},
	{api.SymVar, regexp.MustCompile(`^\?[A-Za-z][A-Za-z0-9]*`), 33},
	{api.SymBlank, regexp.MustCompile(`^_:[A-Za-z][A-Za-z0-9]*`), 66},
	{api.SymLang, regexp.MustCompile(`^@[a-z]+(?:-[a-z0-9]+)*`), 36},
	{api.SymIRI, regexp.MustCompile("^<(?:[^\\x00- <>\"{}|^`\\\\]|\\\\u[0-9A-Fa-f]{4}|\\\\U[0-9A-Fa-f]{8})+>"), math.MaxInt},
	{api.SymString, regexp.MustCompile(`^"(?:[^"\\\n\r]|\\[tbnrf"'\\]|\\u[0-9A-Fa-f]{4}|\\U[0-9A-Fa-f]{8})*"`), math.MaxInt},
}

// tooLong reports whether a name has too long a part.
func tooLong(kind api.SymKind, s string) bool {
	w, local, _ := strings.Cut(s, ":")
	return kind == api.SymName && (len(w) > 32 || len(local) > 64)
}

// firstLook returns the kind and the text of the symbol that s begins with; "" if there is none.
func firstLook(s string) (api.SymKind, string) {
	for _, x := range looks {
		m := x.form.FindString(s)
		colon := x.kind == api.SymName && strings.HasPrefix(s[len(m):], "-") && strings.HasSuffix(m, ":")
		if m == "" || colon {
			continue
		}
		more := x.kind == api.SymLang && regexp.MustCompile(`^[a-z0-9-]`).MatchString(s[len(m):])
		if len(m) > x.most || tooLong(x.kind, m) || more || strings.Contains(m, `\uD800`) {
			return 0, ""
		}
		return x.kind, m
	}
	return 0, ""
}

// TestRandom: the symbols of random texts are where the forms of the chapter's table are, and what is wrong is where none of them is.
func TestRandom(t *testing.T) {
	r := rand.New(rand.NewSource(4))
	between := regexp.MustCompile(`^(?:[\t\n\r ]|#[^\n]*)*`)
	for range 200000 {
		s := randomText(r)
		good := len(s)
		for i, c := range s {
			if c == '\ufffd' {
				good = i
				break
			}
		}
		var want []string
		var got []string
		at := 0
		for {
			at += len(between.FindString(s[at:good]))
			k, m := firstLook(s[at:good])
			if m == "" {
				break
			}
			want = append(want, strconv.Itoa(int(k))+" "+strconv.Itoa(at))
			at += len(m)
		}
		for x := range lex.Runs(s) {
			got = append(got, strconv.Itoa(int(x.Kind))+" "+strconv.Itoa(x.Place))
		}
		if !slices.Equal(got, want) {
			t.Fatalf("Runs(%q): %q; want %q", s, got, want)
		}
		wrong := at
		if good < len(s) {
			wrong = good
		}
		if l, p, e := lex.All(s); wrong == len(s) && (e != api.OK || p != 0 || len(l) != len(want)) || wrong < len(s) && (e != api.ErrText || p != wrong || l != nil) {
			t.Fatalf("All(%q) = %s, %d, %v; want %q, %d", s, show(l...), p, e, want, wrong)
		}
	}
}

// TestTwoTexts: two texts with a space between have the symbols of both.
func TestTwoTexts(t *testing.T) {
	r := rand.New(rand.NewSource(44))
	both := 0
	for range 200000 {
		a, b := randomText(r), randomText(r)
		first, _, e := lex.All(a)
		second, _, f := lex.All(b)
		if e != api.OK || f != api.OK || strings.Contains(a, "#") {
			continue
		}
		both++
		want := slices.Clone(first)
		for _, x := range second {
			x.Place += len(a) + 1
			want = append(want, x)
		}
		if l, p, e := lex.All(a + " " + b); !slices.Equal(l, want) || p != 0 || e != api.OK {
			t.Fatalf("%q and %q: %s, %d, %v", a, b, show(l...), p, e)
		}
	}
	if both < 1000 {
		t.Error("too few texts have symbols:", both)
	}
}

// TestAnyBytes: nothing panics, whatever the bytes are.
func TestAnyBytes(t *testing.T) {
	for a := range 256 {
		for b := range 256 {
			for _, s := range []string{string([]byte{byte(a), byte(b)}), "<a" + string([]byte{byte(a), byte(b)}), `"\` + string([]byte{byte(a), byte(b)})} {
				l, p, e := lex.All(s)
				switch n := len(collect(s)); {
				case e == api.OK && (p != 0 || n != len(l)):
					t.Errorf("All(%q) = %s, %d", s, show(l...), p)
				case e == api.ErrText && (l != nil || p < 0 || p >= len(s)):
					t.Errorf("All(%q) = %s, %d", s, show(l...), p)
				case e != api.OK && e != api.ErrText:
					t.Errorf("All(%q): %v", s, e)
				}
			}
		}
	}
}
