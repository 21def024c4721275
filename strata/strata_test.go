package strata_test

import (
	"fmt"
	"math/rand"
	"reflect"
	"slices"
	"strconv"
	"strings"
	"testing"

	"rhizome/api"
	"rhizome/rules"
	"rhizome/strata"
	"rhizome/term"
)

func iri(s string) api.Term                     { return api.Term{Kind: api.IRI, Text: s} }
func constant(t api.Term) api.Slot              { return api.Slot{Term: t} }
func variable(s string) api.Slot                { return api.Slot{Var: s} }
func holds(p api.Pattern) api.Lit               { return api.Lit{Kind: api.Holds, Pattern: p} }
func not(p api.Pattern) api.Lit                 { return api.Lit{Kind: api.Not, Pattern: p} }
func rule(h api.Pattern, l ...api.Lit) api.Rule { return api.Rule{Head: h, Body: l} }

// of returns a pattern without variables that has a predicate.
func of(s api.Slot) api.Pattern {
	return api.Pattern{constant(iri("s")), s, constant(iri("o"))}
}

// read returns the rules of a program.
func read(t *testing.T, text string) []api.Rule {
	t.Helper()
	l, at, e := rules.Parse(text)
	if e != api.OK {
		t.Fatalf("%q is no program at %d", text, at)
	}
	return l
}

// short returns the rules that lines speak of: "p q -r ?" is a rule with p as its head's predicate, patterns that must hold with q and with a variable, and a NOT of r.
func short(lines ...string) []api.Rule {
	var l []api.Rule
	for i, line := range lines {
		words := strings.Fields(line)
		r := rule(of(slotOf(words[0])), holds(api.Pattern{variable("a"), constant(iri("no:" + strconv.Itoa(i))), variable("h")}))
		if words[0] != "?" {
			r.Body = nil
		}
		for _, w := range words[1:] {
			if word, ok := strings.CutPrefix(w, "-"); ok {
				r.Body = append(r.Body, not(of(slotOf(word))))
			} else {
				r.Body = append(r.Body, holds(of(slotOf(w))))
			}
		}
		if words[0] == "?" {
			r.Head[1] = variable("h")
		}
		l = append(l, r)
	}
	return l
}

// slotOf returns a variable, or the IRI of a word.
func slotOf(word string) api.Slot {
	if word == "?" {
		return variable("v")
	}
	return constant(iri(word))
}

// shown is how tests tell of something; of what is long the beginning.
func shown(x any) string {
	s := fmt.Sprintf("%+v", x)
	if l, ok := x.([]api.Rule); ok {
		if text, e := rules.Texts(l); e == api.OK {
			s = text
		}
	}
	return strings.ToValidUTF8(s[:min(len(s), 600)], "?")
}

// words returns lists of terms as words, to hold them against what is asked.
func words(lists [][]api.Term) []string {
	var out []string
	for _, l := range lists {
		var names []string
		for _, x := range l {
			names = append(names, x.Text)
		}
		out = append(out, strings.Join(names, " "))
	}
	return out
}

// equalLists reports whether lists are the same; a list that is nil is an empty one.
func equalLists[T comparable](a, b [][]T) bool {
	return slices.EqualFunc(a, b, func(x, y []T) bool { return slices.Equal(x, y) })
}

// wantLayers checks what Layers answers.
func wantLayers(t *testing.T, want [][]int, error api.Errno, l ...api.Rule) {
	t.Helper()
	if layers, e := strata.Layers(l...); !equalLists(layers, want) || e != error {
		t.Errorf("Layers of %d rules = %v, %v; want %v, %v:\n%s", len(l), layers, e, want, error, shown(l))
	}
}

// wantNumber checks what Number answers.
func wantNumber(t *testing.T, want int, error api.Errno, p api.Term, l ...api.Rule) {
	t.Helper()
	if n, e := strata.Number(p, l...); n != want || e != error {
		t.Errorf("Number(%v) = %d, %v; want %d, %v:\n%s", p, n, e, want, error, shown(l))
	}
}

// wantComponents checks what Components answers, by the texts of the terms.
func wantComponents(t *testing.T, want []string, error api.Errno, l ...api.Rule) {
	t.Helper()
	if lists, e := strata.Components(l...); !slices.Equal(words(lists), want) || e != error {
		t.Errorf("Components of %d rules = %q, %v; want %q, %v:\n%s", len(l), words(lists), e, want, error, shown(l))
	}
}

// wantError checks that all calls answer an error, and nothing beside it.
func wantError(t *testing.T, want api.Errno, l ...api.Rule) {
	t.Helper()
	wantLayers(t, nil, want, l...)
	for _, p := range []api.Term{iri("p"), iri("q"), {}} {
		wantNumber(t, 0, want, p, l...)
	}
	wantComponents(t, nil, want, l...)
}

// TestExamples: those of the documents.
func TestExamples(t *testing.T) {
	wantLayers(t, [][]int{{1}, {0}}, api.OK, short("p -q", "q r")...)
	wantLayers(t, nil, api.ErrStrata, short("p -p")...)
	wantLayers(t, nil, api.ErrStrata, read(t, `(?x <p> ?y) :- (?x <e> ?y), not (?x <p> ?y) .`)...)
	wantLayers(t, [][]int{{0}}, api.OK, read(t, `(?x <q> ?y) :- (?x <p> ?y), not (?y <p> ?x) .`)...)
	wantLayers(t, [][]int{{0}}, api.OK, read(t, `(?x <p> ?z) :- (?x <p> ?y), (?y <p> ?z) .`)...)
}

// TestNoRule: a list without rules has no stratum, no predicate, no component.
func TestNoRule(t *testing.T) {
	wantLayers(t, nil, api.OK)
	wantComponents(t, nil, api.OK)
	for _, p := range []api.Term{{}, iri("p"), {Kind: api.Plain}} {
		wantNumber(t, 0, api.OK, p)
	}
	if l, _ := strata.Layers([]api.Rule{}...); len(l) != 0 {
		t.Error(l)
	}
}

// program is a list of rules as short has it, and what is asked of it: the indices of each stratum, or nil for ErrStrata; the components.
type program struct {
	rules      []string
	layers     [][]int
	components []string
}

// programs are small ones of all sorts.
func programs() []program {
	return []program{
		// One rule.
		{[]string{"p"}, [][]int{{0}}, []string{"p"}},
		{[]string{"p p"}, [][]int{{0}}, []string{"p"}},
		{[]string{"p q"}, [][]int{{0}}, []string{"p"}},
		{[]string{"p -q"}, [][]int{{0}}, []string{"p"}},
		{[]string{"p -p"}, nil, []string{"p"}},
		{[]string{"p p -p"}, nil, []string{"p"}},
		{[]string{"p -p p"}, nil, []string{"p"}},
		{[]string{"p p -q"}, [][]int{{0}}, []string{"p"}},
		{[]string{"p ?"}, [][]int{{0}}, []string{"p"}},
		{[]string{"p ? -q"}, [][]int{{0}}, []string{"p"}},
		{[]string{"p ? -p"}, nil, []string{"p"}},
		{[]string{"p q r -s -u"}, [][]int{{0}}, []string{"p"}},
		{[]string{"? p"}, [][]int{{0}}, nil},
		{[]string{"? ?"}, [][]int{{0}}, nil},
		// No NOT: all at 1, whatever depends on what.
		{[]string{"p q", "q r", "r s", "s"}, [][]int{{0, 1, 2, 3}}, []string{"s", "r", "q", "p"}},
		{[]string{"s", "r s", "q r", "p q"}, [][]int{{0, 1, 2, 3}}, []string{"s", "r", "q", "p"}},
		{[]string{"p q", "q p"}, [][]int{{0, 1}}, []string{"p q"}},
		{[]string{"? p", "p ?", "? q", "q"}, [][]int{{0, 1, 2, 3}}, []string{"q", "p"}},
		{[]string{"? q", "p q", "? p", "q p"}, [][]int{{0, 1, 2, 3}}, []string{"p q"}},
		// A variable as a head's predicate is no predicate, and its body says of none what it depends on.
		{[]string{"? p q r", "p q", "q r", "r"}, [][]int{{0, 1, 2, 3}}, []string{"r", "q", "p"}},
		{[]string{"? ? p", "q", "p"}, [][]int{{0, 1, 2}}, []string{"p", "q"}},
		// No circle, beside a NOT.
		{[]string{"p -q", "q"}, [][]int{{1}, {0}}, []string{"q", "p"}},
		{[]string{"q", "p -q"}, [][]int{{0}, {1}}, []string{"q", "p"}},
		{[]string{"p q", "q", "r -s"}, [][]int{{0, 1, 2}}, []string{"q", "p", "r"}},
		{[]string{"p -q", "q r", "r -s", "s"}, [][]int{{3}, {1, 2}, {0}}, []string{"s", "r", "q", "p"}},
		{[]string{"p -q r", "q", "r -q"}, [][]int{{1}, {0, 2}}, []string{"q", "r", "p"}},
		{[]string{"p q -r", "q", "r -q"}, [][]int{{1}, {2}, {0}}, []string{"q", "r", "p"}},
		// Weak paths keep the number, strict ones raise it; the greatest counts.
		{[]string{"p q r -s", "q -s", "r -u", "u -s", "s"}, [][]int{{4}, {1, 3}, {0, 2}}, []string{"s", "q", "u", "r", "p"}},
		{[]string{"p -a -b -c", "a", "b -a", "c -b"}, [][]int{{1}, {2}, {3}, {0}}, []string{"a", "b", "c", "p"}},
		{[]string{"p -c -b -a", "a", "b -a", "c -b"}, [][]int{{1}, {2}, {3}, {0}}, []string{"a", "b", "c", "p"}},
		// A circle over patterns that must hold alone.
		{[]string{"p q", "q p -r", "r"}, [][]int{{2}, {0, 1}}, []string{"r", "p q"}},
		{[]string{"p q -r", "q p", "r"}, [][]int{{2}, {0, 1}}, []string{"r", "p q"}},
		{[]string{"a b", "b c", "c a", "d -a", "a -e", "e"}, [][]int{{5}, {0, 1, 2, 4}, {3}}, []string{"e", "a b c", "d"}},
		{[]string{"a b", "b a", "c d -b", "d c", "e -d"}, [][]int{{0, 1}, {2, 3}, {4}}, []string{"a b", "c d", "e"}},
		// A circle over a NOT: of two predicates and of more.
		{[]string{"p -q", "q -p"}, nil, []string{"p q"}},
		{[]string{"p -q", "q p"}, nil, []string{"p q"}},
		{[]string{"p q", "q -p"}, nil, []string{"p q"}},
		{[]string{"a b", "b c", "c -a"}, nil, []string{"a b c"}},
		{[]string{"a -b", "b c", "c a"}, nil, []string{"a b c"}},
		{[]string{"a b", "b -c", "c a"}, nil, []string{"a b c"}},
		{[]string{"a -b", "b -c", "c -d", "d -a"}, nil, []string{"a b c d"}},
		{[]string{"x -y", "y", "a b", "b a c", "c d", "d c -b"}, nil, []string{"a b c d", "y", "x"}},
		// A NOT within a component, though no circle is short.
		{[]string{"a b", "b c", "c a", "a -c"}, nil, []string{"a b c"}},
		// Weakly and strictly, by one rule or by several.
		{[]string{"p q -q", "q"}, [][]int{{1}, {0}}, []string{"q", "p"}},
		{[]string{"p q", "p -q", "q"}, [][]int{{2}, {0, 1}}, []string{"q", "p"}},
		{[]string{"p p", "p -p"}, nil, []string{"p"}},
		{[]string{"p -p", "p p"}, nil, []string{"p"}},
		{[]string{"p q", "q p", "q -p"}, nil, []string{"p q"}},
		// Several rules with the same head's predicate: all at its number.
		{[]string{"p", "p q", "p -r", "q", "r", "p s"}, [][]int{{3, 4}, {0, 1, 2, 5}}, []string{"q", "r", "p"}},
		{[]string{"q", "p -q", "q r", "p s", "q s"}, [][]int{{0, 2, 4}, {1, 3}}, []string{"q", "p"}},
		// Terms that are no predicate.
		{[]string{"p -a", "q -a b", "r -q -a"}, [][]int{{0, 1}, {2}}, []string{"p", "q", "r"}},
		{[]string{"p a", "q -p"}, [][]int{{0}, {1}}, []string{"p", "q"}},
		{[]string{"p s", "q o", "r -s", "u -o"}, [][]int{{0, 1, 2, 3}}, []string{"p", "q", "r", "u"}},
		// A variable as the predicate of a pattern that must hold.
		{[]string{"p ?", "q", "r -a"}, [][]int{{0, 1, 2}}, []string{"q", "r", "p"}},
		{[]string{"p ?", "q", "r -q"}, [][]int{{1}, {0, 2}}, []string{"q", "r", "p"}},
		{[]string{"p ? -q", "q"}, [][]int{{1}, {0}}, []string{"q", "p"}},
		{[]string{"p -q ?", "q", "r -q", "s -r"}, [][]int{{1}, {2}, {0, 3}}, []string{"q", "r", "s", "p"}},
		{[]string{"p ?", "q -p"}, nil, []string{"p q"}},
		{[]string{"q -p", "p ?"}, nil, []string{"p q"}},
		{[]string{"p ?", "p -q", "q -r", "r p"}, nil, []string{"p q r"}},
		{[]string{"p ?", "q ?", "r -a", "s r"}, [][]int{{0, 1, 2, 3}}, []string{"r", "s", "p q"}},
		{[]string{"p ?", "q ? -r", "r -a", "s -r"}, [][]int{{2}, {0, 1, 3}}, []string{"r", "s", "p q"}},
		{[]string{"p ?", "q ?", "r -p"}, nil, []string{"p q r"}},
		{[]string{"p ?", "q ? -p"}, nil, []string{"p q"}},
		{[]string{"p ? q", "q p", "r"}, [][]int{{0, 1, 2}}, []string{"r", "p q"}},
		// What could come next: the one whose first term is the least.
		{[]string{"d", "c", "b", "a"}, [][]int{{0, 1, 2, 3}}, []string{"a", "b", "c", "d"}},
		{[]string{"a z", "z", "b", "c"}, [][]int{{0, 1, 2, 3}}, []string{"b", "c", "z", "a"}},
		{[]string{"a c", "b", "c b", "d"}, [][]int{{0, 1, 2, 3}}, []string{"b", "c", "a", "d"}},
		{[]string{"a z", "z a", "b y", "y b", "c"}, [][]int{{0, 1, 2, 3, 4}}, []string{"a z", "b y", "c"}},
		{[]string{"b z", "z b", "c y a", "y c", "a d", "d"}, [][]int{{0, 1, 2, 3, 4, 5}}, []string{"b z", "d", "a", "c y"}},
		{[]string{"a -d", "b -d", "c", "d -c"}, [][]int{{2}, {3}, {0, 1}}, []string{"c", "d", "a", "b"}},
	}
}

// TestPrograms: the small programs, their rules in the order as they stand, and in other ones.
func TestPrograms(t *testing.T) {
	for _, p := range programs() {
		l := short(p.rules...)
		orders := [][]int{upTo(len(l)), upTo(len(l))}
		slices.Reverse(orders[1])
		for i := range 5 {
			orders = append(orders, rand.New(rand.NewSource(int64(i))).Perm(len(l)))
		}
		for _, order := range orders {
			wantProgram(t, p, l, order)
		}
	}
}

// upTo returns the numbers below n.
func upTo(n int) []int {
	l := make([]int, n)
	for i := range l {
		l[i] = i
	}
	return l
}

// wantProgram checks all calls for a program whose rules stand in an order: the strata of the rules, and their number, are the same.
func wantProgram(t *testing.T, p program, l []api.Rule, order []int) {
	t.Helper()
	moved := make([]api.Rule, len(l))
	to := make([]int, len(l))
	for i, from := range order {
		moved[i] = l[from]
		to[from] = i
	}
	wantComponents(t, p.components, api.OK, moved...)
	if p.layers == nil {
		wantLayers(t, nil, api.ErrStrata, moved...)
		wantNumber(t, 0, api.ErrStrata, iri("p"), moved...)
		wantNumber(t, 0, api.ErrStrata, api.Term{}, moved...)
		return
	}
	var layers [][]int
	for i, from := range p.layers {
		var layer []int
		for _, f := range from {
			layer = append(layer, to[f])
			if s := l[f].Head[1]; s.Var == "" {
				wantNumber(t, i+1, api.OK, s.Term, moved...)
			}
		}
		slices.Sort(layer)
		layers = append(layers, layer)
	}
	wantLayers(t, layers, api.OK, moved...)
	for _, name := range []string{"s", "o", "none", "no:0", "h", "v", ""} {
		if !slices.ContainsFunc(l, func(r api.Rule) bool { return r.Head[1] == constant(iri(name)) }) {
			wantNumber(t, 0, api.OK, iri(name), moved...)
		}
	}
	wantNumber(t, 0, api.OK, api.Term{}, moved...)
}

// TestConditions: conditions say nothing of what is depended on, whatever terms they have; nor do subjects and objects.
func TestConditions(t *testing.T) {
	l := read(t, `(?x <p> ?y) :- (?x <q> ?y), <p> != <q>, ?x = <p>, not (?x <a> <p>) .
		(<p> <q> <p>) :- (<p> <e> <p>), not (<p> <e> <q>) .`)
	wantLayers(t, [][]int{{0, 1}}, api.OK, l...)
	wantComponents(t, []string{"q", "p"}, api.OK, l...)
	l = read(t, `(<q> <p> <q>) :- not (<q> <a> <q>), <q> = <q> . (<p> <q> <p>) :- (<p> <b> <p>), not (<p> <c> <p>) .`)
	wantLayers(t, [][]int{{0, 1}}, api.OK, l...)
	wantComponents(t, []string{"p", "q"}, api.OK, l...)
	// A variable as a subject or an object depends on nothing.
	l = read(t, `(?x <p> ?y) :- (?x <e> ?y), ?x != ?y . (?y <q> ?x) :- (?x <e> ?y), not (?y <p> ?x) .`)
	wantLayers(t, [][]int{{0}, {1}}, api.OK, l...)
	wantComponents(t, []string{"p", "q"}, api.OK, l...)
}

// TestKinds: predicates of each Kind, in the order of terms; the same text does not make them the same.
func TestKinds(t *testing.T) {
	kinds := []api.Term{
		iri("x"), {Kind: api.Blank, Text: "x"}, {Kind: api.Plain, Text: "x"}, {Kind: api.Lang, Text: "x", Extra: "de"}, {Kind: api.Lang, Text: "x", Extra: "en"},
		{Kind: api.Typed, Text: "x", Extra: "http://a"}, {Kind: api.Typed, Text: "x", Extra: "http://b"},
	}
	others := []api.Term{{Kind: api.IRI, Text: "X"}, {Kind: api.Plain}, {Kind: api.Lang, Text: "x", Extra: "fr"}, {Kind: api.Typed, Text: "x"}, {Kind: 6, Text: "x"}, {Kind: -1}, {Text: "x"}, {Kind: api.IRI, Text: "\xff"}}
	var apart, chain, ring, nots []api.Rule
	for i, x := range kinds {
		next := holds(of(constant(kinds[(i+1)%len(kinds)])))
		before := not(of(constant(kinds[max(i, 1)-1])))
		apart = append(apart, rule(of(constant(x))))
		ring = append(ring, rule(of(constant(x)), next))
		if i == 0 {
			nots = append(nots, rule(of(constant(x))))
		} else {
			nots = append(nots, rule(of(constant(x)), before))
		}
		if i == len(kinds)-1 {
			chain = append(chain, rule(of(constant(x))))
		} else {
			chain = append(chain, rule(of(constant(x)), next))
		}
	}
	slices.Reverse(apart)
	for _, c := range []struct {
		l      []api.Rule
		want   [][]api.Term
		number func(i int) int
	}{
		{apart, single(kinds), func(int) int { return 1 }},
		{chain, single(reversed(kinds)), func(int) int { return 1 }},
		{ring, [][]api.Term{kinds}, func(int) int { return 1 }},
		{nots, single(kinds), func(i int) int { return i + 1 }},
	} {
		if lists, e := strata.Components(c.l...); !equalLists(lists, c.want) || e != api.OK {
			t.Errorf("Components = %v, %v; want %v", lists, e, c.want)
		}
		for i, x := range kinds {
			wantNumber(t, c.number(i), api.OK, x, c.l...)
		}
		for _, x := range others {
			wantNumber(t, 0, api.OK, x, c.l...)
		}
	}
}

// single returns a list for each term.
func single(l []api.Term) [][]api.Term {
	var lists [][]api.Term
	for _, x := range l {
		lists = append(lists, []api.Term{x})
	}
	return lists
}

// reversed returns l from its end on.
func reversed(l []api.Term) []api.Term {
	l = slices.Clone(l)
	slices.Reverse(l)
	return l
}

// TestInvalid: each error of layer 9, for programs that could be stratified and for those that could not.
func TestInvalid(t *testing.T) {
	bad := rule(of(api.Slot{}))
	long := rule(of(constant(iri("p"))), slices.Repeat([]api.Lit{holds(of(constant(iri("q"))))}, api.MaxBody+1)...)
	unsafe := read(t, `(?x <p> ?y) :- (?x <q> ?z) .`)[0]
	open := read(t, `(?x ?y ?x) :- (?x ?y ?x) .`)[0]
	negated := read(t, `(<a> <p> <a>) :- (?x ?y ?z), not (?x ?y ?x) .`)[0]
	good, circle := short("p -q", "q")[0], short("p -p")[0]
	for _, c := range []struct {
		want api.Errno
		l    []api.Rule
	}{
		{api.ErrArg, []api.Rule{bad}},
		{api.ErrArg, []api.Rule{{}}},
		{api.ErrArg, []api.Rule{good, long}},
		{api.ErrArg, []api.Rule{circle, bad}},
		{api.ErrArg, []api.Rule{circle, circle, bad, unsafe}},
		{api.ErrUnsafe, []api.Rule{unsafe}},
		{api.ErrUnsafe, []api.Rule{circle, unsafe, bad}},
		{api.ErrUnsafe, []api.Rule{open, good}},
		{api.ErrUnsafe, []api.Rule{circle, open}},
		{api.ErrUnsafe, []api.Rule{circle, circle, open}},
		{api.ErrUnsafe, []api.Rule{negated}},
		{api.ErrUnsafe, []api.Rule{circle, negated}},
		{api.ErrExists, []api.Rule{good, good}},
		{api.ErrExists, []api.Rule{circle, circle}},
		{api.ErrExists, []api.Rule{open, rule(abc()), open}},
		{api.ErrExists, append(many(api.MaxRules), circle, circle)},
		{api.ErrFull, many(api.MaxRules + 1)},
		{api.ErrFull, append(many(api.MaxRules), circle)},
	} {
		wantError(t, c.want, c.l...)
	}
	// What is not valid is told of in front of what can't be stratified; Components never speaks of that.
	wantLayers(t, nil, api.ErrStrata, good, circle)
	wantNumber(t, 0, api.ErrStrata, iri("p"), good, circle)
	wantComponents(t, []string{"p"}, api.OK, good, circle)
}

// abc returns a pattern of constants.
func abc() api.Pattern { return of(constant(iri("p"))) }

// numbered returns the IRI of a number; they are in the order of their numbers.
func numbered(i int) api.Term { return iri(fmt.Sprintf("n%05d", i)) }

// many returns n rules, each with a predicate of its own.
func many(n int) []api.Rule {
	var l []api.Rule
	for i := range n {
		l = append(l, rule(of(constant(numbered(i)))))
	}
	return l
}

// TestChains: long ones of NOTs, with as many strata as predicates, and of patterns that must hold, with one; each of them begun at either end.
func TestChains(t *testing.T) {
	for _, n := range []int{2, 3, 10, api.MaxRules} {
		strict, weak := many(n), many(n)
		for i := 1; i < n; i++ {
			strict[i].Body = []api.Lit{not(of(constant(numbered(i - 1))))}
			weak[i].Body = []api.Lit{holds(of(constant(numbered(i - 1))))}
		}
		var each, back [][]int
		for i := range n {
			each = append(each, []int{i})
			back = append(back, []int{n - 1 - i})
		}
		wantLayers(t, each, api.OK, strict...)
		wantLayers(t, [][]int{upTo(n)}, api.OK, weak...)
		wantNumber(t, n, api.OK, numbered(n-1), strict...)
		wantNumber(t, 1, api.OK, numbered(n-1), weak...)
		wantNumber(t, 0, api.OK, numbered(n), strict...)
		slices.Reverse(strict)
		wantLayers(t, back, api.OK, strict...)
		for _, l := range [][]api.Rule{strict, weak} {
			lists, e := strata.Components(l...)
			if e != api.OK || len(lists) != n || !slices.IsSortedFunc(lists, func(a, b []api.Term) int { return term.Compare(a[0], b[0]) }) {
				t.Errorf("Components of a chain of %d = %d lists, %v", n, len(lists), e)
			}
		}
		// The last one of a weak chain is closed by the first one: one component; of a strict one too, but it has no strata.
		strict[n-1].Body = []api.Lit{holds(of(constant(numbered(n - 1))))}
		weak[0].Body = []api.Lit{holds(of(constant(numbered(n - 1))))}
		wantLayers(t, nil, api.ErrStrata, strict...)
		wantLayers(t, [][]int{upTo(n)}, api.OK, weak...)
		for _, l := range [][]api.Rule{strict, weak} {
			lists, e := strata.Components(l...)
			if e != api.OK || len(lists) != 1 || len(lists[0]) != n || !slices.IsSortedFunc(lists[0], term.Compare) {
				t.Errorf("Components of a ring of %d = %d lists, %v", n, len(lists), e)
			}
		}
	}
}

// TestMost: as many rules, with as many parts, as may be, all of which depend on all, by variables and by their names.
func TestMost(t *testing.T) {
	wide, named := many(api.MaxRules), many(api.MaxRules)
	for i := range wide {
		for k := range api.MaxBody - 1 {
			wide[i].Body = append(wide[i].Body, holds(of(variable("v"))))
			named[i].Body = append(named[i].Body, holds(of(constant(numbered((i+k*k+1)%api.MaxRules)))))
		}
		wide[i].Body = append(wide[i].Body, not(of(constant(iri("none")))))
		named[i].Body = append(named[i].Body, not(of(constant(iri("none")))))
	}
	for _, l := range [][]api.Rule{wide, named} {
		wantLayers(t, [][]int{upTo(api.MaxRules)}, api.OK, l...)
		if lists, e := strata.Components(l...); e != api.OK || len(lists) != 1 || len(lists[0]) != api.MaxRules {
			t.Errorf("Components = %d lists, %v", len(lists), e)
		}
		l[500].Body[api.MaxBody-1] = not(of(constant(numbered(700))))
		wantLayers(t, nil, api.ErrStrata, l...)
	}
	// As many rules as may be, of one predicate.
	one := many(api.MaxRules)
	for i := range one {
		one[i].Head = api.Pattern{constant(numbered(i)), constant(iri("p")), constant(iri("o"))}
		one[i].Body = []api.Lit{not(of(constant(numbered(i))))}
	}
	wantLayers(t, [][]int{upTo(api.MaxRules)}, api.OK, one...)
	wantNumber(t, 1, api.OK, iri("p"), one...)
	wantComponents(t, []string{"p"}, api.OK, one...)
}

// TestMemory: arguments stay as they are, and results share nothing with them, nor with each other.
func TestMemory(t *testing.T) {
	l := short("p q -r", "q p", "r", "s -r", "u s", "p ?")
	before := make([]api.Rule, len(l))
	for i, r := range l {
		before[i] = rules.Copy(r)
	}
	layers, _ := strata.Layers(l...)
	lists, _ := strata.Components(l...)
	strata.Number(iri("p"), l...)
	if !reflect.DeepEqual(l, before) {
		t.Errorf("the rules are changed: %s", shown(l))
	}
	for i := range layers {
		_ = append(layers[i], -1)
		for k := range layers[i] {
			layers[i][k] = -1
		}
		for j := i + 1; j < len(layers); j++ {
			if slices.Contains(layers[j], -1) {
				t.Error("two layers share memory")
			}
		}
	}
	for i := range lists {
		_ = append(lists[i], api.Term{})
		for k := range lists[i] {
			lists[i][k] = api.Term{}
		}
		for j := i + 1; j < len(lists); j++ {
			if slices.Contains(lists[j], api.Term{}) {
				t.Error("two components share memory")
			}
		}
	}
	if !reflect.DeepEqual(l, before) {
		t.Error("a result shares memory with the rules")
	}
	wantLayers(t, [][]int{{2}, {0, 1, 3, 4, 5}}, api.OK, l...)
	wantComponents(t, []string{"r", "s", "u", "p q"}, api.OK, l...)
}

// oracle knows what each predicate of a program depends on, as the chapter says it.
type oracle struct {
	terms        []api.Term
	weak, strict map[[2]api.Term]bool
}

// newOracle returns what the predicates of l depend on; only a program without a NOT has heads whose predicates are variables.
func newOracle(l []api.Rule) oracle {
	o := oracle{weak: map[[2]api.Term]bool{}, strict: map[[2]api.Term]bool{}}
	for _, r := range l {
		if s := r.Head[1]; s.Var == "" && !slices.Contains(o.terms, s.Term) {
			o.terms = append(o.terms, s.Term)
		}
	}
	slices.SortFunc(o.terms, term.Compare)
	for _, r := range l {
		if r.Head[1].Var != "" {
			continue
		}
		p := r.Head[1].Term
		for _, x := range r.Body {
			switch q := x.Pattern[1]; {
			case x.Kind == api.Holds && q.Var != "":
				for _, t := range o.terms {
					o.weak[[2]api.Term{p, t}] = true
				}
			case x.Kind == api.Holds:
				o.weak[[2]api.Term{p, q.Term}] = true
			case x.Kind == api.Not:
				o.strict[[2]api.Term{p, q.Term}] = true
			}
		}
	}
	return o
}

// numbers returns the least numbers: each is raised from 1 on until all are as asked; above the number of predicates there are none.
func (o oracle) numbers() (map[api.Term]int, bool) {
	of := map[api.Term]int{}
	for _, t := range o.terms {
		of[t] = 1
	}
	for again := true; again; {
		again = false
		for _, p := range o.terms {
			for _, q := range o.terms {
				least := 0
				if o.weak[[2]api.Term{p, q}] {
					least = of[q]
				}
				if o.strict[[2]api.Term{p, q}] {
					least = of[q] + 1
				}
				if of[p] < least {
					of[p], again = least, true
				}
				if of[p] > len(o.terms) {
					return nil, false
				}
			}
		}
	}
	return of, true
}

// components returns the components, in their order: what depends on what, also indirectly, is found by trying each predicate as one between.
func (o oracle) components() [][]api.Term {
	reach := map[[2]api.Term]bool{}
	for _, p := range o.terms {
		for _, q := range o.terms {
			reach[[2]api.Term{p, q}] = p == q || o.weak[[2]api.Term{p, q}] || o.strict[[2]api.Term{p, q}]
		}
	}
	for _, k := range o.terms {
		for _, p := range o.terms {
			for _, q := range o.terms {
				if reach[[2]api.Term{p, k}] && reach[[2]api.Term{k, q}] {
					reach[[2]api.Term{p, q}] = true
				}
			}
		}
	}
	var lists [][]api.Term
	done := map[api.Term]bool{}
	for len(done) < len(o.terms) {
	search:
		for _, p := range o.terms { // by increasing terms: the first one that may come is of the component whose first term is the least
			var list []api.Term
			for _, q := range o.terms {
				both := reach[[2]api.Term{p, q}] && reach[[2]api.Term{q, p}]
				if both {
					list = append(list, q)
				}
				if done[p] || reach[[2]api.Term{p, q}] && !both && !done[q] {
					continue search
				}
			}
			lists = append(lists, list)
			for _, q := range list {
				done[q] = true
			}
			break
		}
	}
	return lists
}

// wantOracle checks all calls against the oracle.
func wantOracle(t *testing.T, l []api.Rule) {
	t.Helper()
	o := newOracle(l)
	if lists, e := strata.Components(l...); e != api.OK || !equalLists(lists, o.components()) {
		t.Errorf("Components = %q, %v; want %q:\n%s", words(lists), e, words(o.components()), shown(l))
	}
	of, ok := o.numbers()
	if !ok {
		wantLayers(t, nil, api.ErrStrata, l...)
		wantNumber(t, 0, api.ErrStrata, l[0].Head[1].Term, l...)
		return
	}
	greatest := 0
	for _, r := range l {
		greatest = max(greatest, 1, of[r.Head[1].Term])
	}
	layers := make([][]int, greatest)
	for i, r := range l {
		n := max(1, of[r.Head[1].Term])
		layers[n-1] = append(layers[n-1], i)
	}
	wantLayers(t, layers, api.OK, l...)
	for _, x := range append(o.terms, iri("none"), api.Term{}) {
		wantNumber(t, of[x], api.OK, x, l...)
	}
}

// TestRandom: random programs, with NOTs and without, against the oracle.
func TestRandom(t *testing.T) {
	random := rand.New(rand.NewSource(1))
	stratified, not := 0, 0
	for range 4000 {
		l := randomProgram(random)
		if _, e := strata.Layers(l...); e == api.ErrExists {
			continue
		} else if e == api.ErrStrata {
			not++
		} else {
			stratified++
		}
		wantOracle(t, l)
	}
	if stratified < 500 || not < 500 {
		t.Errorf("%d programs with strata, %d without: too few", stratified, not)
	}
}

// randomProgram returns a program of a few predicates.
func randomProgram(random *rand.Rand) []api.Rule {
	names := 1 + random.Intn(9)
	nots := random.Intn(3) // none, few, many
	word := func() string { return string(rune('a' + random.Intn(names+1))) }
	var lines []string
	for range 1 + random.Intn(10) {
		line := string(rune('a' + random.Intn(names)))
		if nots == 0 && random.Intn(8) == 0 {
			line = "?"
		}
		for range random.Intn(4) {
			switch n := random.Intn(16); {
			case n == 0:
				line += " ?"
			case nots > 0 && n < 1+2*nots:
				line += " -" + word()
			default:
				line += " " + word()
			}
		}
		lines = append(lines, line)
	}
	return short(lines...)
}

func BenchmarkLayers(b *testing.B) {
	l := many(api.MaxRules)
	for i := range l {
		for k := range 30 {
			if k < i {
				l[i].Body = append(l[i].Body, not(of(constant(numbered(i-1-k)))))
			}
		}
	}
	for b.Loop() {
		strata.Layers(l...)
	}
}
