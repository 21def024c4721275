package check_test

import (
	"fmt"
	"math/rand"
	"slices"
	"strconv"
	"strings"
	"testing"

	"rhizome/api"
	"rhizome/check"
	"rhizome/rules"
)

func iri(s string) api.Slot                     { return api.Slot{Term: api.Term{Kind: api.IRI, Text: s}} }
func variable(s string) api.Slot                { return api.Slot{Var: s} }
func holds(p api.Pattern) api.Lit               { return api.Lit{Kind: api.Holds, Pattern: p} }
func not(p api.Pattern) api.Lit                 { return api.Lit{Kind: api.Not, Pattern: p} }
func same(a, b api.Slot) api.Lit                { return api.Lit{Kind: api.Same, A: a, B: b} }
func unlike(a, b api.Slot) api.Lit              { return api.Lit{Kind: api.Unlike, A: a, B: b} }
func rule(h api.Pattern, l ...api.Lit) api.Rule { return api.Rule{Head: h, Body: l} }

// Slots and patterns that many tests speak of.
var (
	x, y    = variable("x"), variable("y")
	a, b, c = iri("a"), iri("b"), iri("c")
	abc     = api.Pattern{a, b, c}
	xby     = api.Pattern{x, b, y}
)

// Modes.
var (
	equality = api.Mode{Equality: true}
	negation = api.Mode{}
	none     = api.Mode{}
)

// read returns the rules of a program.
func read(t *testing.T, text string) []api.Rule {
	t.Helper()
	l, at, e := rules.Parse(text)
	if e != api.OK {
		t.Fatalf("%q is no program at %d", text, at)
	}
	return l
}

// shown is how tests tell of something; of what is long the beginning.
func shown(x any) string {
	s := fmt.Sprintf("%+v", x)
	return strings.ToValidUTF8(s[:min(len(s), 400)], "?")
}

// wantRule checks the error of a rule, and of the program that has it alone, if that can be no other one.
func wantRule(t *testing.T, want api.Errno, r api.Rule) {
	t.Helper()
	if e := check.Rule(r); e != want {
		t.Errorf("Rule(%s) = %v; want %v", shown(r), e, want)
	}
	if want != api.OK {
		wantProgram(t, want, none, r)
	}
}

// wantProgram checks what Program answers.
func wantProgram(t *testing.T, want api.Errno, mode api.Mode, l ...api.Rule) {
	t.Helper()
	if m, e := check.Program(l...); m != mode || e != want {
		t.Errorf("Program of %d rules, %s = %v, %v; want %v, %v", len(l), shown(l), m, e, mode, want)
	}
}

// wantVars checks the variables of a rule.
func wantVars(t *testing.T, r api.Rule, want ...string) {
	t.Helper()
	if names := check.Vars(r); !slices.Equal(names, want) {
		t.Errorf("Vars(%s) = %q; want %q", shown(r), names, want)
	}
}

// at returns a pattern with s at one place, and constants at the others.
func at(place int, s api.Slot) api.Pattern {
	p := abc
	p[place] = s
	return p
}

// patterns returns the patterns with s at one place each.
func patterns(s api.Slot) []api.Pattern {
	return []api.Pattern{at(0, s), at(1, s), at(2, s)}
}

// conditions returns the conditions of both Kinds with s at one place each.
func conditions(s api.Slot) []api.Lit {
	return []api.Lit{same(s, a), same(a, s), unlike(s, a), unlike(a, s)}
}

// TestRule: the rules of the documents, and others.
func TestRule(t *testing.T) {
	for _, l := range []struct {
		want api.Errno
		text string
	}{
		{api.ErrUnsafe, `(?x <p> ?y) :- (?x <q> ?z) .`},
		{api.OK, `(?x <p> ?z) :- (?x <p> ?y), (?y <p> ?z) .`},
		{api.OK, `(?x <q> ?y) :- (?x <p> ?y), ?x != ?y .`},
		{api.OK, `(?x <q> ?y) :- (?x <p> ?y), not (?y <p> ?x) .`},
		{api.OK, `(?x <p> ?y) :- (?x <e> ?y), not (?x <p> ?y) .`},
		{api.OK, `(?s <p> ?o) :- (?o <q> ?s), not (?s <r> "1"), ?s != ?o .`},
		{api.ErrUnsafe, `(?s <p> ?t) :- (?o <q> ?s), not (?s <r> "1"), ?s != ?o .`},
		{api.ErrUnsafe, `(?s <p> ?o) :- (?o <q> ?s), not (?s <r> ?t), ?s != ?o .`},
		{api.ErrUnsafe, `(?s <p> ?o) :- (?o <q> ?s), not (?s <r> "1"), ?s != ?t .`},
		{api.ErrUnsafe, `(?s <p> ?o) :- not (?o <q> ?s), (?s <r> "1"), ?s != ?o .`},
		{api.OK, `(?s <p> ?o) :- ?s != ?o, not (?s <r> "1"), (?o <q> ?s) .`},
		// In two patterns that must hold, and in one of them.
		{api.OK, `(?s <p> ?o) :- (?o <q> ?o), (?s <r> ?s), ?s = ?o .`},
		{api.ErrUnsafe, `(?s <p> ?o) :- (?o <q> ?o), not (?s <r> ?s), ?s = ?o .`},
		{api.ErrUnsafe, `(?s <p> ?o) :- (?o <q> ?o), ?s = ?o .`},
		// A term is no variable, whatever its text is.
		{api.OK, `(?s ?s ?s) :- (<x> ?s <x>) .`},
		{api.ErrUnsafe, `(?s <p> <q>) :- (<x> <s> "?s"), (_:s <?s> "s"@s), ?s = ?s .`},
		// Capital and small letters are not the same; nor is a part of a name the name.
		{api.ErrUnsafe, `(?x <p> ?X) :- (?x <q> ?x) .`},
		{api.ErrUnsafe, `(?x <p> ?x1) :- (?x <q> ?x) .`},
		{api.ErrUnsafe, `(?x1 <p> ?x) :- (?x1 <q> ?y) .`},
		{api.OK, `(?X <p> ?x1) :- (?X ?x1 ?x) .`},
		// No variable that has to occur.
		{api.OK, `(<a> <b> <c>) .`},
		{api.OK, `("a" "b"@en "c"^^<d>) .`},
		{api.OK, `(<a> <b> <c>) :- (?x ?y ?z) .`},
		{api.OK, `(<a> <b> <c>) :- not (<a> <b> <c>) .`},
		{api.OK, `(<a> <b> <c>) :- <a> = <b> .`},
		{api.OK, `(<a> <b> <c>) :- <a> != <b>, not (<a> _:b "1") .`},
		// No part, so that there may be no variable.
		{api.ErrUnsafe, `(?x <b> <c>) .`},
		{api.ErrUnsafe, `(<a> ?x <c>) .`},
		{api.ErrUnsafe, `(<a> <b> ?x) .`},
		{api.ErrUnsafe, `(?x ?y ?z) .`},
		// Parts, but none of them a pattern that must hold.
		{api.ErrUnsafe, `(?x <b> <c>) :- not (?x <b> <c>) .`},
		{api.ErrUnsafe, `(?x <b> <c>) :- ?x = <a> .`},
		{api.ErrUnsafe, `(?x <b> <c>) :- not (?x <b> ?x), ?x = ?x, ?x != <a> .`},
	} {
		wantRule(t, l.want, read(t, l.text)[0])
	}
}

// TestRuleVariables: a variable at each place where it has to occur in a pattern that must hold as well, and where else it occurs.
func TestRuleVariables(t *testing.T) {
	var elsewhere []api.Rule
	for _, p := range patterns(x) {
		elsewhere = append(elsewhere, rule(p), rule(abc, not(p)))
	}
	for _, l := range conditions(x) {
		elsewhere = append(elsewhere, rule(abc, l))
	}
	for _, r := range elsewhere {
		wantRule(t, api.ErrUnsafe, r)
		// In a pattern that must hold, at each place, in front of it and behind it; other parts stand between.
		for i, p := range patterns(x) {
			for _, between := range [][]api.Lit{nil, {holds(abc)}, {same(a, b), not(abc)}, {holds(at(1, y)), unlike(a, y)}} {
				wantRule(t, api.OK, rule(r.Head, slices.Concat([]api.Lit{holds(p)}, between, r.Body)...))
				wantRule(t, api.OK, rule(r.Head, slices.Concat(r.Body, between, []api.Lit{holds(p)})...))
			}
			// Another variable in its place, or its name as a term, does not count.
			for _, s := range []api.Slot{y, iri("x"), variable("X"), variable("xx")} {
				wantRule(t, api.ErrUnsafe, rule(r.Head, append([]api.Lit{holds(at(i, s))}, r.Body...)...))
				wantRule(t, api.ErrUnsafe, rule(r.Head, append(slices.Clone(r.Body), holds(at(i, s)))...))
			}
		}
		// In others of the places where it has to occur as well.
		for _, q := range elsewhere {
			wantRule(t, api.ErrUnsafe, rule(r.Head, slices.Concat(q.Body, r.Body, q.Body)...))
			wantRule(t, api.ErrUnsafe, rule(q.Head, slices.Concat(r.Body, q.Body, []api.Lit{holds(at(0, y))})...))
		}
		// One that occurs, beside it.
		wantRule(t, api.ErrUnsafe, rule(r.Head, append([]api.Lit{holds(at(0, y)), not(at(2, y)), same(y, y)}, r.Body...)...))
	}
}

// TestRuleOneOfMany: one variable of many does not occur, at each place.
func TestRuleOneOfMany(t *testing.T) {
	many := func() api.Rule {
		v := func(i int) api.Slot { return variable("v" + strconv.Itoa(i)) }
		return rule(api.Pattern{v(0), v(1), v(2)}, not(api.Pattern{v(3), v(4), v(5)}), holds(api.Pattern{v(0), v(1), v(2)}), same(v(6), v(7)),
			holds(api.Pattern{v(3), v(4), v(5)}), holds(api.Pattern{v(6), v(7), v(8)}), unlike(v(8), v(9)), holds(api.Pattern{v(9), v(9), v(9)}))
	}
	wantRule(t, api.OK, many())
	first := many()
	for i := range places(&first) {
		r := many()
		s := places(&r)[i]
		if *s == (api.Slot{}) {
			continue
		}
		name := s.Var
		*s = variable("w")
		// What a pattern that must hold says of w asks for nothing, but v is gone there.
		want := api.ErrUnsafe
		if i >= 3 && r.Body[(i-3)/5].Kind == api.Holds && name == "v9" {
			want = api.OK
		}
		wantRule(t, want, r)
	}
}

// TestRuleParts: no part, one, as many as there may be, and more.
func TestRuleParts(t *testing.T) {
	if api.MaxBody != 64 {
		t.Fatal(api.MaxBody)
	}
	for _, l := range []api.Lit{holds(abc), not(abc), same(a, b), unlike(a, b), holds(xby)} {
		for n, want := range map[int]api.Errno{0: api.OK, 1: api.OK, 2: api.OK, 63: api.OK, 64: api.OK, 65: api.ErrArg, 66: api.ErrArg, 1000: api.ErrArg} {
			wantRule(t, want, rule(abc, slices.Repeat([]api.Lit{l}, n)...))
		}
	}
	// The pattern in which the variables occur, at each place of 64 and of 65.
	for i := range 64 {
		body := slices.Insert(slices.Repeat([]api.Lit{not(xby)}, 63), i, holds(xby))
		wantRule(t, api.OK, rule(xby, body...))
		wantRule(t, api.ErrArg, rule(xby, append(body, not(xby))...))
		body[i] = not(xby)
		wantRule(t, api.ErrUnsafe, rule(xby, body...))
	}
}

// invalid returns slots that are not valid.
func invalid() []api.Slot {
	return []api.Slot{
		{}, {Var: "x", Term: a.Term}, {Var: "x", Term: api.Term{Extra: "e"}}, variable("1"), variable("x y"), variable("?x"), variable("é"), variable("\xff"), variable(strings.Repeat("v", 33)),
		iri(""), iri("a b"), iri("\xff"), iri(strings.Repeat("i", api.MaxIRI+1)), {Term: api.Term{Text: "a"}}, {Term: api.Term{Kind: 6, Text: "a"}}, {Term: api.Term{Kind: -1, Text: "a"}},
		{Term: api.Term{Kind: api.IRI, Text: "a", Extra: "b"}}, {Term: api.Term{Kind: api.Blank, Text: "1"}}, {Term: api.Term{Kind: api.Plain, Text: "a", Extra: "b"}},
		{Term: api.Term{Kind: api.Plain, Text: strings.Repeat("p", api.MaxText+1)}}, {Term: api.Term{Kind: api.Lang, Text: "a", Extra: "EN"}}, {Term: api.Term{Kind: api.Typed, Text: "a", Extra: api.XSDString}},
	}
}

// unwritable returns rules that cannot be written, for each reason, but are safe if that is left aside.
func unwritable() []api.Rule {
	all := holds(api.Pattern{x, y, variable("z")})
	var l []api.Rule
	for _, s := range invalid() {
		for i, p := range patterns(s) {
			bound := holds(at(i, s))
			l = append(l, rule(p, bound), rule(abc, bound), rule(abc, bound, not(p)))
		}
		for _, x := range conditions(s) {
			l = append(l, rule(abc, x, holds(at(0, s))))
		}
	}
	for _, kind := range []api.LitKind{-1, 0, 5, 6, 1 << 40} {
		l = append(l, rule(abc, all, api.Lit{Kind: kind}), rule(abc, all, api.Lit{Kind: kind, Pattern: xby}), rule(abc, all, api.Lit{Kind: kind, A: x, B: y}))
	}
	for _, s := range []api.Slot{x, a} {
		for _, kind := range []api.LitKind{api.Holds, api.Not} {
			l = append(l, rule(abc, all, api.Lit{Kind: kind, Pattern: abc, A: s}), rule(abc, all, api.Lit{Kind: kind, Pattern: abc, B: s}))
		}
		for _, kind := range []api.LitKind{api.Same, api.Unlike} {
			for i := range 3 {
				var p api.Pattern
				p[i] = s
				l = append(l, rule(abc, all, api.Lit{Kind: kind, Pattern: p, A: x, B: y}))
			}
			l = append(l, rule(abc, all, api.Lit{Kind: kind, Pattern: xby, A: x, B: y}))
		}
	}
	return append(l, api.Rule{}, rule(abc, slices.Repeat([]api.Lit{all}, 65)...))
}

// TestRuleUnwritable: what cannot be written, which is told before what is not safe.
func TestRuleUnwritable(t *testing.T) {
	for _, r := range unwritable() {
		wantRule(t, api.ErrArg, r)
		w := variable("w")
		for _, more := range []api.Lit{not(at(0, w)), same(w, w), unlike(a, w), not(xby)} {
			wantRule(t, api.ErrArg, rule(r.Head, append([]api.Lit{more}, r.Body...)...))
			wantRule(t, api.ErrArg, rule(r.Head, append(slices.Clone(r.Body), more)...))
		}
		if len(r.Body) > 0 {
			wantRule(t, api.ErrArg, rule(at(2, w), r.Body...))
		}
	}
}

// TestProgram: programs without a NOT and with one, and what is wrong of them.
func TestProgram(t *testing.T) {
	for _, l := range []struct {
		want api.Errno
		mode api.Mode
		text string
	}{
		{api.OK, equality, ``},
		{api.OK, equality, `(<a> <b> <c>) .`},
		{api.OK, equality, `(?x <p> ?z) :- (?x <p> ?y), (?y <p> ?z) .`},
		{api.OK, equality, `(?x <q> ?y) :- (?x <p> ?y), ?x != ?y . (?x <q> ?x) :- (?x <p> ?y), ?x = ?y .`},
		{api.OK, negation, `(?x <q> ?y) :- (?x <p> ?y), not (?y <p> ?x) .`},
		{api.OK, negation, `(<a> <b> <c>) :- not (<a> <b> <c>) .`},
		{api.OK, negation, `(<a> <b> <c>) . (?x <q> ?y) :- (?x <p> ?y), not (?y <p> ?x) .`},
		{api.OK, negation, `(?x <q> ?y) :- (?x <p> ?y), not (?y <p> ?x) . (<a> <b> <c>) .`},
		// Whether the rules can be stratified is asked in another layer.
		{api.OK, negation, `(?x <p> ?y) :- (?x <e> ?y), not (?x <p> ?y) .`},
		// A predicate of a pattern that must hold may be a variable; a subject, and an object, too.
		{api.OK, negation, `(?x <q> ?y) :- (?x ?p ?y), not (?p <p> ?x) .`},
		{api.OK, negation, `(?p <q> ?p) :- (?x ?p ?y), not (?p <p> ?p), ?p != ?x, <a> = ?p .`},
		{api.ErrUnsafe, none, `(?x ?p ?y) :- (?x ?p ?y), not (?x <p> ?y) .`},
		{api.ErrUnsafe, none, `(?x <p> ?y) :- (?x ?p ?y), not (?x ?p ?y) .`},
		{api.ErrUnsafe, none, `(?x <p> ?y) :- not (<a> <p> <b>), (?x ?p ?y), not (?x ?p ?y) .`},
		{api.OK, equality, `(?x ?p ?y) :- (?y ?p ?x), ?x != ?p .`},
		{api.OK, equality, `(?x ?p ?y) :- (?y ?p ?x) . (<a> ?p <b>) :- (<b> ?p <a>) .`},
		// In another rule than the one with the NOT, in front of it and behind it.
		{api.ErrUnsafe, none, `(?x ?p ?y) :- (?y ?p ?x) . (<a> <b> <c>) :- not (<a> <p> <b>) .`},
		{api.ErrUnsafe, none, `(<a> <b> <c>) :- not (<a> <p> <b>) . (?x ?p ?y) :- (?y ?p ?x) .`},
		{api.ErrUnsafe, none, `(<a> <b> <c>) :- not (<a> <p> <b>) . (<a> <b> <d>) :- (?x ?p ?y), not (<a> ?p <b>) .`},
		{api.ErrUnsafe, none, `(<a> <b> <d>) :- (?x ?p ?y), not (<a> ?p <b>) . (<a> <b> <c>) :- not (<a> <p> <b>) .`},
		// Two that are the same: their texts may be others.
		{api.ErrExists, none, `(<a> <b> <c>) . (<a> <b> <c>) .`},
		{api.ErrExists, none, `prefix p: <a> . (?x p: ?y) :- (?x <b> ?y) . (?x <a> ?y) :- # the same
			(?x p:b ?y) . (?x <a> ?y) :- (?x <ab> ?y) .`},
		{api.OK, equality, `prefix p: <a> . (?x p: ?y) :- (?x <b> ?y) . (?x <a> ?y) :- (?x p:b ?y) .`},
		// What differs in its names alone, or in the order of its parts, is not the same.
		{api.OK, equality, `(?x <p> ?z) :- (?x <q> ?z) . (?x <p> ?y) :- (?x <q> ?y) .`},
		{api.OK, equality, `(?x <p> ?y) :- (?x <q> ?y), (?x <r> ?y) . (?x <p> ?y) :- (?x <r> ?y), (?x <q> ?y) .`},
		{api.OK, equality, `(?x <p> ?y) :- (?x <q> ?y), ?x = ?y . (?x <p> ?y) :- (?x <q> ?y), ?y = ?x .`},
		{api.OK, equality, `(?x <p> ?y) :- (?x <q> ?y) . (?x <p> ?y) :- (?x <q> ?y), (?x <q> ?y) .`},
		{api.ErrUnsafe, none, `(?x <p> ?y) :- (?x <q> ?z) .`},
	} {
		wantProgram(t, l.want, l.mode, read(t, l.text)...)
	}
	wantProgram(t, api.OK, equality, []api.Rule{}...)
	wantProgram(t, api.OK, equality, nil...)
}

// TestProgramPredicates: variables at each place of heads and of NOTs, in a program with a NOT and without one.
func TestProgramPredicates(t *testing.T) {
	all := holds(api.Pattern{x, x, x})
	other, second := rule(at(2, iri("d")), not(abc)), rule(at(2, iri("e")))
	for i := range 3 {
		head, negated := rule(at(i, x), all), rule(abc, all, not(at(i, x)))
		both := rule(at(i, x), not(abc), all)
		want, mode := api.OK, negation
		if i == 1 {
			want, mode = api.ErrUnsafe, none
		}
		wantProgram(t, api.OK, equality, head)
		wantProgram(t, api.OK, equality, head, second)
		wantProgram(t, api.OK, equality, second, head)
		for _, r := range []api.Rule{negated, both} {
			wantRule(t, api.OK, r)
			wantProgram(t, want, mode, r)
			wantProgram(t, want, mode, r, second)
			wantProgram(t, want, mode, second, r)
		}
		for _, r := range []api.Rule{head, negated, both} {
			wantProgram(t, want, mode, other, r)
			wantProgram(t, want, mode, r, other)
			wantProgram(t, want, mode, second, r, other)
			wantProgram(t, want, mode, other, second, r)
		}
		// In each one of many NOTs.
		for k := range 5 {
			body := slices.Insert(slices.Repeat([]api.Lit{not(abc)}, 4), k, not(at(i, x)))
			wantProgram(t, want, mode, rule(abc, append(body, all)...))
			wantProgram(t, want, mode, rule(abc, append([]api.Lit{all}, body...)...))
		}
		// In conditions, and in patterns that must hold, there may be one anywhere.
		wantProgram(t, api.OK, negation, rule(abc, append(conditions(x), not(abc), holds(at(i, x)), all)...))
	}
}

// everything returns a rule with parts of each Kind, and slots of each.
func everything() api.Rule {
	value := func(kind api.Kind, text, extra string) api.Slot {
		return api.Slot{Term: api.Term{Kind: kind, Text: text, Extra: extra}}
	}
	return rule(api.Pattern{x, value(api.IRI, "p", ""), y},
		holds(api.Pattern{x, y, value(api.Typed, "1", "t")}),
		not(api.Pattern{value(api.Blank, "b", ""), value(api.Plain, "s", ""), y}),
		same(x, value(api.Lang, "l", "en")), unlike(value(api.Lang, "l", "de"), y), holds(api.Pattern{y, x, variable("z")}))
}

// places returns all slots of a rule, also those that are not of the Kinds of its parts.
func places(r *api.Rule) []*api.Slot {
	l := []*api.Slot{&r.Head[0], &r.Head[1], &r.Head[2]}
	for i := range r.Body {
		part := &r.Body[i]
		l = append(l, &part.Pattern[0], &part.Pattern[1], &part.Pattern[2], &part.A, &part.B)
	}
	return l
}

// similar returns rules that can be written, and differ from everything in one place each.
func similar() []api.Rule {
	var l []api.Rule
	change := func(by func(r *api.Rule)) {
		r := everything()
		by(&r)
		if rules.May(r) && !rules.Same(r, everything()) {
			l = append(l, r)
		}
	}
	first := everything()
	for i := range places(&first) {
		change(func(r *api.Rule) { places(r)[i].Var += "z" })
		change(func(r *api.Rule) { places(r)[i].Term.Text += "e" })
		change(func(r *api.Rule) { places(r)[i].Term.Extra += "e" })
		for kind := range api.Kind(6) {
			change(func(r *api.Rule) { places(r)[i].Term.Kind = kind })
		}
	}
	for i, part := range first.Body {
		change(func(r *api.Rule) { r.Body = slices.Delete(r.Body, i, i+1) })
		change(func(r *api.Rule) { r.Body = slices.Insert(r.Body, i, part) })
		for k := range i {
			change(func(r *api.Rule) { r.Body[i], r.Body[k] = r.Body[k], r.Body[i] })
		}
		other := map[api.LitKind]api.LitKind{api.Holds: api.Not, api.Not: api.Holds, api.Same: api.Unlike, api.Unlike: api.Same}
		change(func(r *api.Rule) { r.Body[i].Kind = other[part.Kind] })
	}
	return l
}

// TestProgramTwice: rules that are the same, and rules that differ in one place.
func TestProgramTwice(t *testing.T) {
	between := read(t, `(<a> <b> <c>) . (?x <b> <c>) :- (?x <d> ?x) . (?x <p> ?y) :- (?x ?y ?z), not (?x <p> ?y) .`)
	for _, l := range [][]api.Rule{nil, between[:1], between[:2], between} {
		for _, r := range []api.Rule{everything(), rule(at(2, iri("e"))), rule(at(2, iri("e")), not(at(2, iri("f"))))} {
			for i := range len(l) + 1 {
				once := slices.Insert(slices.Clone(l), i, r)
				wantProgram(t, api.OK, api.Mode{Equality: !check.Negates(once...)}, once...)
				for k := range len(once) + 1 {
					wantProgram(t, api.ErrExists, none, slices.Insert(slices.Clone(once), k, rules.Copy(r))...)
				}
			}
		}
	}
	others := similar()
	if len(others) < 40 {
		t.Fatal(len(others))
	}
	safe := 0
	for _, r := range others {
		want, mode := api.OK, negation
		if check.Rule(r) != api.OK || r.Body[0].Kind == api.Not && r.Body[0].Pattern[1] == y {
			want = api.ErrUnsafe
		} else {
			safe++
		}
		wantProgram(t, want, mode, everything(), r)
		wantProgram(t, want, mode, r, everything())
		if want == api.OK {
			wantProgram(t, api.ErrExists, none, r, everything(), r)
		}
	}
	if safe < 30 {
		t.Error(safe)
	}
}

// TestProgramManyTwice: all rules that differ from one in one place, together, and one of them again.
func TestProgramManyTwice(t *testing.T) {
	var l []api.Rule
	for _, r := range append(similar(), everything()) {
		isTwice := slices.ContainsFunc(l, func(other api.Rule) bool { return rules.Same(r, other) })
		if m, e := check.Program(r); !isTwice && e == api.OK && m == negation {
			l = append(l, r)
		}
	}
	wantProgram(t, api.OK, negation, l...)
	for i, r := range l {
		for _, k := range []int{0, i, i + 1, len(l) / 2, len(l)} {
			wantProgram(t, api.ErrExists, none, slices.Insert(slices.Clone(l), k, r)...)
		}
	}
}

// numbered returns n rules, no two of which are the same, without a NOT.
func numbered(n int) []api.Rule {
	l := make([]api.Rule, n)
	for i := range l {
		p := at(i%3, iri("n"+strconv.Itoa(i/3)))
		l[i] = rule(at(2, x), holds(p), holds(at(2, x)))
	}
	return l
}

// TestProgramFull: as many rules as there may be, and more.
func TestProgramFull(t *testing.T) {
	if api.MaxRules != 1000 {
		t.Fatal(api.MaxRules)
	}
	for n, want := range map[int]api.Errno{999: api.OK, 1000: api.OK, 1001: api.ErrFull, 1002: api.ErrFull, 5000: api.ErrFull} {
		mode := api.Mode{Equality: want == api.OK}
		l := numbered(n)
		wantProgram(t, want, mode, l...)
		// Two that are the same are told before that there are too many.
		for _, i := range []int{0, 1, n / 2, n - 1} {
			for _, k := range []int{0, n / 2, n} {
				wantProgram(t, api.ErrExists, none, slices.Insert(slices.Clone(l), k, l[i])...)
			}
			other := slices.Clone(l)
			other[i] = l[(i+n/3)%n]
			wantProgram(t, api.ErrExists, none, other...)
		}
		// With a NOT there may be as many.
		for _, i := range []int{0, n / 2, n - 1} {
			other := slices.Clone(l)
			other[i] = rule(abc, not(abc))
			wantProgram(t, want, negation, other...)
		}
	}
}

// TestProgramFirst: of rules that are wrong the first one determines which error it is.
func TestProgramFirst(t *testing.T) {
	good, bad := numbered(3), unwritable()
	open := rule(at(0, x))
	for _, r := range []api.Rule{open, rule(abc, not(at(1, x))), rule(at(2, y), holds(at(2, x))), rule(abc, same(a, x))} {
		for i := 0; i < len(bad); i += 7 {
			for _, l := range [][]api.Rule{nil, good[:1], good} {
				wantProgram(t, api.ErrUnsafe, none, slices.Concat(l, []api.Rule{r, bad[i]})...)
				wantProgram(t, api.ErrArg, none, slices.Concat(l, []api.Rule{bad[i], r})...)
				wantProgram(t, api.ErrUnsafe, none, slices.Concat([]api.Rule{r}, l, []api.Rule{bad[i]}, l)...)
				wantProgram(t, api.ErrArg, none, slices.Concat([]api.Rule{bad[i]}, l, []api.Rule{r}, l)...)
			}
		}
	}
	wantProgram(t, api.ErrUnsafe, none, open, open)
	wantProgram(t, api.ErrArg, none, bad[0], bad[0])
}

// TestProgramOrder: of several errors the one that is named first.
func TestProgramOrder(t *testing.T) {
	bad, open := api.Rule{}, rule(at(0, x))
	variablePredicate, negated := rule(at(1, x), holds(at(1, x))), rule(at(2, iri("d")), not(abc))
	named := []api.Rule{negated, variablePredicate}
	twice := []api.Rule{rule(abc), rule(abc)}
	many := numbered(1001)
	// What is wrong, by the order of the errors; what is given is any choice of them, in any order.
	faults := []struct {
		e api.Errno
		l []api.Rule
	}{{api.ErrArg, []api.Rule{bad}}, {api.ErrUnsafe, []api.Rule{open}}, {api.ErrUnsafe, named}, {api.ErrExists, twice}, {api.ErrFull, many}}
	for choice := 1; choice < 1<<len(faults); choice++ {
		var chosen [][]api.Rule
		want := api.OK
		for i, f := range faults {
			if choice&(1<<i) != 0 {
				chosen = append(chosen, f.l)
				if want == api.OK {
					want = f.e
				}
			}
		}
		wantProgram(t, want, none, slices.Concat(chosen...)...)
		slices.Reverse(chosen)
		if choice&3 == 3 {
			// An unsafe rule in front of one that cannot be written is the first one that is wrong.
			want = api.ErrUnsafe
		}
		wantProgram(t, want, none, slices.Concat(chosen...)...)
	}
	// A variable as a predicate is no fault of its rule: a rule that cannot be written is told, though it stands behind.
	wantProgram(t, api.ErrArg, none, variablePredicate, negated, bad)
	wantProgram(t, api.ErrArg, none, rule(at(1, x), holds(at(1, x)), not(abc)), bad)
	// A NOT of a rule that is not safe does not come into it.
	wantProgram(t, api.ErrUnsafe, none, rule(at(0, x), not(abc)))
	// Without the NOT what comes next is told.
	wantProgram(t, api.ErrExists, none, variablePredicate, variablePredicate)
	wantProgram(t, api.ErrUnsafe, none, variablePredicate, variablePredicate, negated)
	wantProgram(t, api.ErrFull, none, append([]api.Rule{variablePredicate}, many...)...)
	wantProgram(t, api.ErrUnsafe, none, append([]api.Rule{variablePredicate, negated}, many...)...)
}

// TestVars: the variables, as they first occur.
func TestVars(t *testing.T) {
	for text, want := range map[string]string{
		`(<a> <b> <c>) .`: "",
		`(<a> <b> <c>) :- not (<a> <b> <c>), <a> = "x", (<?x> "?y" _:z) .`: "",
		`(?x <b> <c>) .`:                         "x",
		`(<a> ?x <c>) .`:                         "x",
		`(<a> <b> ?x) .`:                         "x",
		`(?a ?b ?c) .`:                           "a b c",
		`(?c ?b ?a) .`:                           "c b a",
		`(?c ?c ?c) .`:                           "c",
		`(?b ?a ?b) :- (?a ?b ?c), (?d ?c ?b) .`: "b a c d",
		`(?z <p> ?y) :- (?a ?z ?b), not (?c ?d ?e), ?f = ?g, ?h != ?i .`:              "z y a b c d e f g h i",
		`(?z <p> ?y) :- ?h != ?i, ?g = ?f, not (?e ?d ?c), (?b ?z ?a) .`:              "z y h i g f e d c b a",
		`(<a> <b> <c>) :- ?x = ?x, ?y != ?y, ?x = ?y .`:                               "x y",
		`(<a> <b> <c>) :- <a> = ?x, ?y != "y", not (<x> ?x1 <y>) .`:                   "x y x1",
		`(?x ?X <c>) :- (?xx ?XX ?x) .`:                                               "x X xx XX",
		`(<a> <b> <c>) :- not (?x <b> ?y), (?y <b> ?x), not (?z <b> ?x) .`:            "x y z",
		`(?s <p> ?o) :- (?o <q> ?s), not (?s <r> "1"), ?s != ?o .`:                    "s o",
		`(?x <p> ?y) :- (?x <q> ?z) .`:                                                "x y z",
		`(?not ?prefix ?v123456789012345678901234567890v) :- ?v9 = ?not, ?V9 != "" .`: "not prefix v123456789012345678901234567890v v9 V9",
	} {
		wantVars(t, read(t, text)[0], strings.Fields(want)...)
	}
	wantVars(t, everything(), "x", "y", "z")
	wantVars(t, api.Rule{})
	wantVars(t, api.Rule{Head: abc, Body: []api.Lit{}})
}

// TestVarsKinds: which slots a part has hangs on its Kind alone, also if it cannot be written.
func TestVarsKinds(t *testing.T) {
	all := api.Lit{Pattern: api.Pattern{variable("s"), variable("p"), variable("o")}, A: variable("a"), B: variable("b")}
	for kind := api.LitKind(-2); kind < 9; kind++ {
		all.Kind = kind
		want := []string{"a", "b"}
		if kind == api.Holds || kind == api.Not {
			want = []string{"s", "p", "o"}
		}
		wantVars(t, rule(abc, all), want...)
		wantVars(t, rule(at(1, x), all, all), append([]string{"x"}, want...)...)
		wantVars(t, rule(at(1, variable(want[1])), holds(xby), all), append([]string{want[1], "x", "y"}, slices.Delete(slices.Clone(want), 1, 2)...)...)
	}
	// A name that is not valid, or that stands beside a term, is one of a variable nevertheless.
	odd := api.Slot{Var: "\xff 1", Term: a.Term}
	wantVars(t, rule(at(0, odd), same(odd, variable(""))), "\xff 1")
	// More parts than there may be.
	var want []string
	r := rule(abc)
	for i := range 1000 {
		name := strconv.Itoa(999 - i)
		want = append(want, name)
		r.Body = append(r.Body, same(a, variable(name)))
	}
	wantVars(t, r, want...)
}

// TestVarsNew: what is returned is new each time.
func TestVarsNew(t *testing.T) {
	r := everything()
	first := check.Vars(r)
	for i := range first {
		first[i] = "other"
	}
	_ = append(first[:1], "another")
	wantVars(t, r, "x", "y", "z")
}

// TestNegates: whether there is a NOT, and where.
func TestNegates(t *testing.T) {
	wantNegates := func(want bool, l ...api.Rule) {
		t.Helper()
		if check.Negates(l...) != want {
			t.Errorf("Negates of %d rules, %s is not %t", len(l), shown(l), want)
		}
	}
	wantNegates(false)
	wantNegates(false, []api.Rule{}...)
	wantNegates(false, api.Rule{}, api.Rule{Body: []api.Lit{}})
	var without []api.Lit
	for kind := api.LitKind(-2); kind < 9; kind++ {
		l := api.Lit{Kind: kind, Pattern: xby, A: x, B: y}
		wantNegates(kind == api.Not, rule(abc, l))
		wantNegates(kind == api.Not, api.Rule{}, rule(abc, l, l))
		if kind != api.Not {
			without = append(without, l)
		}
	}
	wantNegates(false, rule(abc, without...), rule(xby), rule(abc, without...))
	// In each part of each rule; also in one that cannot be written.
	for i := range len(without) + 1 {
		for _, n := range []api.Lit{not(xby), not(abc), {Kind: api.Not}} {
			with := rule(abc, slices.Insert(slices.Clone(without), i, n)...)
			for k := range 4 {
				wantNegates(true, slices.Insert(slices.Repeat([]api.Rule{rule(abc, without...)}, 3), k, with)...)
			}
		}
	}
	wantNegates(false, read(t, `(<not> "not" _:not) :- (?not <NOT> ?not), ?not != "not" .`)...)
	wantNegates(true, read(t, `(<a> <b> <c>) . (<a> <b> <c>) :- NOT (<a> <b> <c>) . (<a> <b> <c>) .`)...)
}

// copies returns rules that share nothing with those of l.
func copies(l []api.Rule) []api.Rule {
	same := make([]api.Rule, len(l))
	for i, r := range l {
		same[i] = rule(r.Head, slices.Clone(r.Body)...)
	}
	return same
}

// isEqual reports whether two lists have the same rules.
func isEqual(a, b []api.Rule) bool {
	return slices.EqualFunc(a, b, func(a, b api.Rule) bool { return a.Head == b.Head && slices.Equal(a.Body, b.Body) })
}

// TestArguments: what is given stays as it is, also what is behind its end.
func TestArguments(t *testing.T) {
	descending := numbered(30)
	slices.Reverse(descending)
	twice := append(copies(descending), copies(descending)...)
	for _, l := range [][]api.Rule{descending, twice, similar(), unwritable(), append(numbered(1001), everything())} {
		room := append(slices.Clone(l), rule(xby, not(xby)), everything())
		kept := copies(room)
		check.Program(room[:len(l)]...)
		check.Negates(room[:len(l)]...)
		for _, r := range room[:len(l)] {
			check.Rule(r)
			check.Vars(r)
			check.Rule(rule(r.Head, r.Body[:len(r.Body)/2]...))
		}
		if !isEqual(room, kept) {
			t.Errorf("%s became %s", shown(kept), shown(room))
		}
	}
}

// expectedRule is what Rule returns, by the chapter's words.
func expectedRule(r api.Rule) api.Errno {
	if !rules.May(r) {
		return api.ErrArg
	}
	occurs := func(s api.Slot) bool {
		for _, l := range r.Body {
			if l.Kind == api.Holds && (l.Pattern[0] == s || l.Pattern[1] == s || l.Pattern[2] == s) {
				return true
			}
		}
		return false
	}
	asked := []api.Slot{r.Head[0], r.Head[1], r.Head[2]}
	for _, l := range r.Body {
		if l.Kind != api.Holds {
			// What is not of its Kind is no variable.
			asked = append(asked, l.Pattern[0], l.Pattern[1], l.Pattern[2], l.A, l.B)
		}
	}
	for _, s := range asked {
		if s.Var != "" && !occurs(s) {
			return api.ErrUnsafe
		}
	}
	return api.OK
}

// expected is what Program returns, by the chapter's words.
func expected(l []api.Rule) (api.Mode, api.Errno) {
	for _, r := range l {
		if e := expectedRule(r); e != api.OK {
			return none, e
		}
	}
	nots, named := 0, true
	for _, r := range l {
		named = named && r.Head[1].Var == ""
		for _, x := range r.Body {
			if x.Kind == api.Not {
				nots++
				named = named && x.Pattern[1].Var == ""
			}
		}
	}
	if nots > 0 && !named {
		return none, api.ErrUnsafe
	}
	for i := range l {
		for k := range i {
			if isEqual(l[i:i+1], l[k:k+1]) {
				return none, api.ErrExists
			}
		}
	}
	return api.Mode{Equality: nots == 0}, api.OK
}

// randomRule returns a small rule, which is often safe.
func randomRule(random *rand.Rand) api.Rule {
	few := []api.Slot{x, y, a, b}
	slot := func() api.Slot {
		if random.Intn(100) == 0 {
			return api.Slot{}
		}
		return few[random.Intn(len(few))]
	}
	pattern := func() api.Pattern { return api.Pattern{slot(), slot(), slot()} }
	r := rule(pattern())
	for range random.Intn(4) {
		var l api.Lit
		switch random.Intn(6) {
		case 0:
			l = not(pattern())
		case 1:
			l = same(slot(), slot())
		case 2:
			l = unlike(slot(), slot())
		default:
			l = holds(pattern())
		}
		r.Body = append(r.Body, l)
	}
	return r
}

// TestRandom: many small rules and programs, held against the chapter's words.
func TestRandom(t *testing.T) {
	random := rand.New(rand.NewSource(9))
	ruleCodes, codes, modes := map[api.Errno]int{}, map[api.Errno]int{}, map[api.Mode]int{}
	safe := []api.Rule{rule(abc)}
	for range 100000 {
		r := randomRule(random)
		want := expectedRule(r)
		ruleCodes[want]++
		if e := check.Rule(r); e != want {
			t.Fatalf("Rule(%s) = %v; want %v", shown(r), e, want)
		}
		if want == api.OK {
			safe = append(safe, r)
		}
		var l []api.Rule
		for range random.Intn(5) {
			l = append(l, safe[random.Intn(len(safe))])
		}
		switch random.Intn(20) {
		case 0:
			l = append(l, r)
		case 1:
			l = append(l, r, randomRule(random))
		case 2:
			if len(l) > 0 {
				l = append(l, l[random.Intn(len(l))])
			}
		}
		mode, e := expected(l)
		codes[e]++
		modes[mode]++
		wantProgram(t, e, mode, l...)
	}
	if len(ruleCodes) != 3 || len(codes) != 4 || len(modes) != 2 {
		t.Error(ruleCodes, codes, modes)
	}
	// What is tried has to be of all sorts.
	for _, n := range []int{ruleCodes[api.ErrArg], ruleCodes[api.ErrUnsafe], ruleCodes[api.OK], codes[api.ErrArg], codes[api.ErrUnsafe], codes[api.ErrExists], codes[api.OK], modes[equality], modes[negation]} {
		if n < 500 {
			t.Error(ruleCodes, codes, modes)
		}
	}
}
