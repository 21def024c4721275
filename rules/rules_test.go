package rules_test

import (
	"fmt"
	"math/rand"
	"slices"
	"strings"
	"testing"

	"rhizome/api"
	"rhizome/lex"
	"rhizome/rules"
	"rhizome/term"
)

func iri(s string) api.Term       { return api.Term{Kind: api.IRI, Text: s} }
func blank(s string) api.Term     { return api.Term{Kind: api.Blank, Text: s} }
func plain(s string) api.Term     { return api.Term{Kind: api.Plain, Text: s} }
func lang(s, tag string) api.Term { return api.Term{Kind: api.Lang, Text: s, Extra: tag} }
func typed(s, of string) api.Term { return api.Term{Kind: api.Typed, Text: s, Extra: of} }

func variable(s string) api.Slot           { return api.Slot{Var: s} }
func constant(t api.Term) api.Slot         { return api.Slot{Term: t} }
func pattern(s, p, o api.Slot) api.Pattern { return api.Pattern{s, p, o} }
func holds(p api.Pattern) api.Lit          { return api.Lit{Kind: api.Holds, Pattern: p} }
func not(p api.Pattern) api.Lit            { return api.Lit{Kind: api.Not, Pattern: p} }
func same(a, b api.Slot) api.Lit           { return api.Lit{Kind: api.Same, A: a, B: b} }
func unlike(a, b api.Slot) api.Lit         { return api.Lit{Kind: api.Unlike, A: a, B: b} }

func rule(head api.Pattern, body ...api.Lit) api.Rule { return api.Rule{Head: head, Body: body} }

// Slots and patterns that many tests speak of.
var (
	x, y, z = variable("x"), variable("y"), variable("z")
	a, b, c = constant(iri("a")), constant(iri("b")), constant(iri("c"))
	p, q, r = constant(iri("p")), constant(iri("q")), constant(iri("r"))
	xpy     = pattern(x, p, y)
	yqx     = pattern(y, q, x)
	abc     = pattern(a, b, c)
)

// shown is how tests tell of something; of what is long the beginning.
func shown(x any) string {
	s := fmt.Sprintf("%+v", x)
	return strings.ToValidUTF8(s[:min(len(s), 400)], "?")
}

// equal reports whether a and b are the same rules; it is built apart from Same.
func equal(a, b []api.Rule) bool {
	return slices.EqualFunc(a, b, func(a, b api.Rule) bool {
		return a.Head == b.Head && slices.Equal(a.Body, b.Body)
	})
}

// wantRules checks that s is a program of these rules.
func wantRules(t *testing.T, s string, want ...api.Rule) {
	t.Helper()
	if l, at, e := rules.Parse(s); !equal(l, want) || at != 0 || e != api.OK {
		t.Errorf("Parse(%.200q) = %s, %d, %v; want %s", s, shown(l), at, e, shown(want))
	}
	var only []api.Rule
	code := api.ErrText
	if len(want) == 1 {
		only, code = want, api.OK
	}
	wantOne(t, s, code, append(only, api.Rule{})[0])
}

// wantOne checks what One answers.
func wantOne(t *testing.T, s string, code api.Errno, want api.Rule) {
	t.Helper()
	if l, e := rules.One(s); !equal([]api.Rule{l}, []api.Rule{want}) || e != code {
		t.Errorf("One(%.200q) = %s, %v; want %s, %v", s, shown(l), e, shown(want), code)
	}
}

// wantWrong checks that s is wrong at a position.
func wantWrong(t *testing.T, s string, place int) {
	t.Helper()
	if l, at, e := rules.Parse(s); len(l) != 0 || at != place || e != api.ErrText {
		t.Errorf("Parse(%.200q) = %s, %d, %v; want %d, ErrText", s, shown(l), at, e, place)
	}
	wantOne(t, s, api.ErrText, api.Rule{})
}

// wantText checks that x can be written, has that text, and is read from it.
func wantText(t *testing.T, want string, x api.Rule) {
	t.Helper()
	if !rules.May(x) {
		t.Errorf("May(%s) = false", shown(x))
	}
	if s, e := rules.Text(x); s != want || e != api.OK {
		t.Errorf("Text(%s) = %.200q, %v; want %.200q", shown(x), s, e, want)
	}
	if s, e := rules.Texts([]api.Rule{x}); s != want+"\n" || e != api.OK {
		t.Errorf("Texts(%s) = %.200q, %v; want %.200q", shown(x), s, e, want+"\n")
	}
	wantRules(t, want, x)
}

// wantCode checks that x has no text, and why; alone, and among others at each place.
func wantCode(t *testing.T, want api.Errno, x api.Rule) {
	t.Helper()
	if may := want != api.ErrArg; rules.May(x) != may {
		t.Errorf("May(%s) = %t", shown(x), !may)
	}
	if s, e := rules.Text(x); s != "" || e != want {
		t.Errorf("Text(%s) = %.200q, %v; want %v", shown(x), s, e, want)
	}
	other := rule(xpy, holds(yqx))
	for _, l := range [][]api.Rule{{x}, {x, other, other}, {other, x, other}, {other, other, x}} {
		if s, e := rules.Texts(l); s != "" || e != want {
			t.Errorf("Texts(%s) = %.200q, %v; want %v", shown(l), s, e, want)
		}
	}
}

// wantSlot checks whether s is valid, alone and at each place of a rule.
func wantSlot(t *testing.T, s api.Slot, may bool) {
	t.Helper()
	if rules.MaySlot(s) != may {
		t.Errorf("MaySlot(%s) = %t", shown(s), !may)
	}
	patterns := []api.Pattern{pattern(s, b, c), pattern(a, s, c), pattern(a, b, s)}
	parts := []api.Lit{same(s, y), same(x, s), unlike(s, y), unlike(x, s)}
	for _, one := range patterns {
		parts = append(parts, holds(one), not(one))
		if rules.May(rule(one)) != may || rules.May(rule(one, holds(xpy))) != may {
			t.Errorf("May of a rule with the head %s is not %t", shown(one), may)
		}
	}
	for _, one := range parts {
		wantPart(t, one, may)
	}
}

// wantPart checks whether l may be a part of a rule that can be written, at each place.
func wantPart(t *testing.T, l api.Lit, may bool) {
	t.Helper()
	for _, body := range [][]api.Lit{{l}, {l, holds(xpy)}, {holds(xpy), l}, {not(xpy), l, same(x, y)}} {
		if rules.May(rule(xpy, body...)) != may {
			t.Errorf("May of a rule with the body %s is not %t", shown(body), may)
		}
	}
	if s, e := rules.PartText(l); (e == api.OK) != may || (s != "") != may || !may && e != api.ErrArg {
		t.Errorf("PartText(%s) = %.200q, %v", shown(l), s, e)
	}
}

// Names, and what is none.
func names() []string {
	return []string{"a", "Z", "x1", "y9Z", "not", "prefix", "PREFIX", strings.Repeat("n", 31), strings.Repeat("n", 32), "N" + strings.Repeat("9", 31), "abcdefghijklmnopqrstuvwxyz", "ABCDEFGHIJKLMNOPQRSTUVWXYZ", "a0123456789"}
}

func noNames() []string {
	l := []string{strings.Repeat("n", 33), "N" + strings.Repeat("9", 32), strings.Repeat("n", 64), strings.Repeat("n", 65), strings.Repeat("n", 100000), "1", "1a", "9", "?x", "x y", "x-y", "x_y", "x:", "_:x", "a\n", " a", "é", "aé", "a\x00", "\xff", "a\xff", "а"}
	for r := range 256 {
		isLetter := r >= 'a' && r <= 'z' || r >= 'A' && r <= 'Z'
		if isDigit := r >= '0' && r <= '9'; !isLetter && !isDigit {
			l = append(l, "a"+string([]byte{byte(r)}))
		}
		if !isLetter {
			l = append(l, string([]byte{byte(r)}), string([]byte{byte(r)})+"a")
		}
	}
	return l
}

// invalid are terms that are not valid.
func invalid() []api.Term {
	return []api.Term{{}, {Text: "a"}, {Extra: "a"}, {Kind: 6, Text: "a"}, {Kind: -1, Text: "a"}, iri(""), iri("a b"), iri("a>"), iri("\xff"), iri(strings.Repeat("i", api.MaxIRI+1)), {Kind: api.IRI, Text: "a", Extra: "b"}, blank(""), blank("1"), blank("a_"), blank(strings.Repeat("b", 65)), {Kind: api.Blank, Text: "a", Extra: "b"}, plain("\xff"), plain(strings.Repeat("p", api.MaxText+1)), {Kind: api.Plain, Text: "a", Extra: "b"}, lang("a", ""), lang("a", "EN"), lang("\xff", "en"), typed("a", ""), typed("a", "b c"), typed("a", api.XSDString), typed("\xff", "t")}
}

// some are valid terms of all kinds.
func some() []api.Term {
	return []api.Term{iri("a"), iri(api.SameAs), iri("é€😀"), iri(strings.Repeat("i", api.MaxIRI)), blank("b"), blank(strings.Repeat("b", 64)), plain(""), plain("?x"), plain(") . \n"), plain(strings.Repeat("p", api.MaxText)), lang("", "en"), lang("a", "en-us-1"), lang(strings.Repeat("\x01", api.MaxText), strings.Repeat("l", 35)), typed("", "t"), typed("1", "http://x"), typed(strings.Repeat("\"", api.MaxText), strings.Repeat("é", api.MaxIRI/2))}
}

// TestSlots: variables, terms, and what is neither.
func TestSlots(t *testing.T) {
	for _, s := range names() {
		wantSlot(t, variable(s), true)
		for _, of := range append(some(), invalid()...) {
			wantSlot(t, api.Slot{Var: s, Term: of}, of == api.Term{})
		}
	}
	for _, s := range noNames() {
		wantSlot(t, variable(s), false)
		wantSlot(t, api.Slot{Var: s, Term: iri("a")}, false)
	}
	for _, of := range some() {
		wantSlot(t, constant(of), true)
	}
	for _, of := range invalid() {
		wantSlot(t, constant(of), false)
	}
	wantSlot(t, api.Slot{}, false)
}

// parts are parts of each Kind.
func parts() []api.Lit {
	return []api.Lit{holds(xpy), not(xpy), same(x, y), unlike(x, y), holds(abc), not(abc), same(a, a), unlike(a, b)}
}

// TestBodies: no part, many, and too many.
func TestBodies(t *testing.T) {
	if api.MaxBody != 64 {
		t.Fatal(api.MaxBody)
	}
	if !rules.May(rule(xpy)) || !rules.May(api.Rule{Head: xpy, Body: []api.Lit{}}) || rules.May(api.Rule{}) {
		t.Error("a rule without a body")
	}
	for _, l := range parts() {
		for _, n := range []int{1, 2, 63, 64, 65, 66, 1000} {
			many := rule(xpy, slices.Repeat([]api.Lit{l}, n)...)
			if may := n <= 64; rules.May(many) != may {
				t.Errorf("%d parts %s: %t", n, shown(l), !may)
			}
		}
		// A rule need not be safe.
		wantPart(t, l, true)
	}
	for i := range 64 {
		body := slices.Repeat(parts(), 8)
		if !rules.May(rule(xpy, body...)) {
			t.Fatal("64 parts of each Kind")
		}
		body[i].Kind = 0
		wantCode(t, api.ErrArg, rule(xpy, body...))
	}
	wantCode(t, api.ErrArg, rule(xpy, slices.Repeat(parts(), 9)...))
}

// TestParts: parts of no Kind, and with what is not of their Kind.
func TestParts(t *testing.T) {
	for _, l := range parts() {
		for _, kind := range []api.LitKind{-1, 0, 5, 6, 1 << 40} {
			l.Kind = kind
			wantPart(t, l, false)
		}
	}
	for kind := range api.LitKind(7) {
		wantPart(t, api.Lit{Kind: kind}, false)
		wantPart(t, api.Lit{Kind: kind, Pattern: xpy, A: x, B: y}, false)
		wantPart(t, api.Lit{Kind: kind, Pattern: xpy}, kind == api.Holds || kind == api.Not)
		wantPart(t, api.Lit{Kind: kind, A: x, B: y}, kind == api.Same || kind == api.Unlike)
		wantPart(t, api.Lit{Kind: kind, A: x}, false)
		wantPart(t, api.Lit{Kind: kind, B: y}, false)
		for _, s := range []api.Slot{x, a, variable("1"), constant(iri("")), {Var: "x", Term: iri("a")}, constant(api.Term{Extra: "en"})} {
			wantPart(t, api.Lit{Kind: kind, Pattern: xpy, A: s}, false)
			wantPart(t, api.Lit{Kind: kind, Pattern: xpy, B: s}, false)
			for i := range 3 {
				l := api.Lit{Kind: kind, A: x, B: y}
				l.Pattern[i] = s
				wantPart(t, l, false)
			}
		}
	}
}

// everything is a rule with parts of each Kind.
func everything() api.Rule {
	return rule(pattern(x, constant(lang("p", "en")), constant(typed("1", "t"))),
		holds(pattern(x, constant(iri("p")), constant(plain("s")))), not(pattern(constant(blank("b")), y, constant(lang("l", "de")))), same(x, constant(typed("2", "t"))), unlike(constant(iri("i")), y))
}

// slotChanges are changes of one place of a slot.
func slotChanges() []func(*api.Slot) {
	return []func(*api.Slot){
		func(s *api.Slot) { s.Var += "v" },
		func(s *api.Slot) { s.Term.Kind++ },
		func(s *api.Slot) { s.Term.Text += "t" },
		func(s *api.Slot) { s.Term.Extra += "e" },
	}
}

// places are all slots of a rule, also those that are not of the Kinds of its parts.
func places(x *api.Rule) []*api.Slot {
	l := []*api.Slot{&x.Head[0], &x.Head[1], &x.Head[2]}
	for i := range x.Body {
		part := &x.Body[i]
		l = append(l, &part.Pattern[0], &part.Pattern[1], &part.Pattern[2], &part.A, &part.B)
	}
	return l
}

// wantSame checks Same of a and b, in both orders.
func wantSame(t *testing.T, a, b api.Rule, want bool) {
	t.Helper()
	if rules.Same(a, b) != want || rules.Same(b, a) != want {
		t.Errorf("Same(%s, %s) is not %t", shown(a), shown(b), want)
	}
}

// TestSame: two rules that differ in one place, for each place, and two that don't.
func TestSame(t *testing.T) {
	wantSame(t, everything(), everything(), true)
	wantSame(t, api.Rule{}, api.Rule{}, true)
	wantSame(t, api.Rule{}, everything(), false)
	wantSame(t, api.Rule{Head: xpy}, api.Rule{Head: xpy, Body: []api.Lit{}}, true)
	for i := range places(new(everything())) {
		for _, change := range slotChanges() {
			other, again := everything(), everything()
			change(places(&other)[i])
			wantSame(t, everything(), other, false)
			change(places(&again)[i])
			wantSame(t, other, again, true)
		}
	}
	for i := range everything().Body {
		other := everything()
		other.Body[i].Kind++
		wantSame(t, everything(), other, false)
		wantSame(t, everything(), rule(other.Head, everything().Body[:i]...), false)
		wantSame(t, everything(), rule(other.Head, slices.Delete(everything().Body, i, i+1)...), false)
		wantSame(t, everything(), rule(other.Head, slices.Insert(everything().Body, i, everything().Body[i])...), false)
		if i > 0 {
			other = everything()
			other.Body[0], other.Body[i] = other.Body[i], other.Body[0]
			wantSame(t, everything(), other, false)
		}
	}
	// Also what cannot be written.
	wantSame(t, api.Rule{}, rule(pattern(x, p, api.Slot{})), false)
	wantSame(t, rule(xpy, api.Lit{Kind: 7}), rule(xpy, api.Lit{Kind: 8}), false)
	wantSame(t, rule(xpy, slices.Repeat([]api.Lit{same(x, y)}, 65)...), rule(xpy, slices.Repeat([]api.Lit{same(x, y)}, 66)...), false)
	wantSame(t, rule(xpy, slices.Repeat([]api.Lit{same(x, y)}, 65)...), rule(xpy, slices.Repeat([]api.Lit{same(x, y)}, 65)...), true)
	// Names count, not what they stand for.
	wantSame(t, rule(xpy, holds(xpy)), rule(pattern(x, p, z), holds(pattern(x, p, z))), false)
	wantSame(t, rule(xpy, same(x, y)), rule(xpy, same(y, x)), false)
	wantSame(t, rule(abc), rule(pattern(a, c, b)), false)
}

// TestCopy: a copy is the same, and stays so whatever becomes of the first one.
func TestCopy(t *testing.T) {
	bad := everything()
	bad.Body[1].Kind, bad.Head[0].Var = 9, "1"
	many := rule(xpy, slices.Repeat(parts(), 1000)...)
	for _, first := range []api.Rule{{}, rule(xpy), {Head: xpy, Body: []api.Lit{}}, rule(xpy, holds(xpy)), everything(), bad, many} {
		kept := rule(first.Head, slices.Clone(first.Body)...)
		second := rules.Copy(first)
		if !equal([]api.Rule{second}, []api.Rule{kept}) || !equal([]api.Rule{first}, []api.Rule{kept}) {
			t.Errorf("Copy(%s) = %s", shown(first), shown(second))
		}
		for i := range first.Body {
			first.Body[i] = same(z, z)
		}
		first.Head[1] = z
		if !equal([]api.Rule{second}, []api.Rule{kept}) {
			t.Errorf("a copy of %s became %s", shown(kept), shown(second))
		}
		third := rules.Copy(second)
		for i := range second.Body {
			second.Body[i].A = z
		}
		if _ = append(second.Body[:len(second.Body)/2], unlike(z, z)); !equal([]api.Rule{third}, []api.Rule{kept}) {
			t.Errorf("a copy of a copy of %s became %s", shown(kept), shown(third))
		}
	}
	// What is behind the end of a body is not shared either.
	room := make([]api.Lit, 1, 4)
	room[0] = holds(xpy)
	second := rules.Copy(rule(xpy, room...))
	_ = append(room, not(xpy))
	second.Body = append(second.Body, same(x, y))
	if room = room[:2]; room[1].Kind != api.Not {
		t.Error(shown(room))
	}
}

// TestCompare: the order of the texts; what cannot be written is before everything else.
func TestCompare(t *testing.T) {
	// In order; those of one line are equal.
	ordered := [][]api.Rule{
		{{}, rule(pattern(x, p, api.Slot{})), rule(xpy, api.Lit{Kind: 7}), rule(xpy, slices.Repeat([]api.Lit{holds(xpy)}, 65)...), rule(pattern(variable("1"), p, y))},
		{rule(pattern(constant(plain("")), p, y))},
		{rule(pattern(constant(plain("a\"")), p, y))},
		{rule(pattern(constant(plain("a")), p, y))},
		{rule(pattern(constant(lang("a", "en")), p, y))},
		{rule(pattern(constant(typed("a", "t")), p, y))},
		{rule(pattern(constant(plain("é")), p, y))},
		{rule(pattern(a, b, c))},
		{rule(pattern(a, p, a))},
		{rule(pattern(x, p, variable("Y")))},
		{rule(xpy), {Head: xpy, Body: []api.Lit{}}},
		{rule(xpy, holds(xpy))},
		{rule(xpy, holds(xpy), holds(xpy))},
		{rule(xpy, holds(xpy), not(xpy))},
		{rule(xpy, same(a, b))},
		{rule(xpy, unlike(x, y))},
		{rule(xpy, unlike(x, y), holds(xpy))},
		{rule(xpy, same(x, y))},
		{rule(xpy, same(x, constant(blank("b"))))},
		{rule(xpy, not(xpy))},
		{rule(pattern(x, p, variable("y1")))},
		{rule(pattern(variable("x1"), p, y))},
		{rule(pattern(constant(blank("a")), p, y))},
	}
	textOf := func(l api.Rule) string {
		s, _ := rules.Text(l)
		return s
	}
	slices.SortFunc(ordered, func(a, b []api.Rule) int { return strings.Compare(textOf(a[0]), textOf(b[0])) })
	for i, k := range ordered {
		for j, l := range ordered {
			for _, a := range k {
				for _, b := range l {
					if want := max(-1, min(1, i-j)); rules.Compare(a, b) != want {
						t.Errorf("Compare(%s, %s) is not %d", shown(a), shown(b), want)
					}
				}
			}
		}
	}
	if len(ordered[0]) != 5 {
		t.Error("what cannot be written is not before everything else")
	}
	// By hand, so that not all hangs on Text.
	for _, l := range [][2]api.Rule{{{}, rule(xpy)}, {rule(xpy), rule(xpy, holds(xpy))}, {rule(abc), rule(xpy)}, {rule(pattern(constant(plain("z")), p, p)), rule(abc)}, {rule(xpy, unlike(x, y)), rule(xpy, same(x, y))}, {rule(xpy, holds(xpy)), rule(xpy, not(xpy))}, {rule(pattern(x, variable("Z"), y)), rule(pattern(x, variable("a"), y))}, {rule(pattern(x, y, constant(plain("\x7f")))), rule(pattern(x, y, constant(plain("é"))))}} {
		if rules.Compare(l[0], l[1]) != -1 || rules.Compare(l[1], l[0]) != 1 {
			t.Error(shown(l))
		}
	}
	// Texts that are too long to be handed out are ordered all the same.
	long := sized(api.MaxSource + 100)
	longer := sized(api.MaxSource + 100)
	longer.Body[len(longer.Body)-1].B.Term.Text += "z"
	wantCode(t, api.ErrLong, long)
	wantCode(t, api.ErrLong, longer)
	if rules.Compare(long, longer) >= 0 || rules.Compare(longer, long) <= 0 || rules.Compare(long, sized(api.MaxSource+100)) != 0 {
		t.Error("long ones")
	}
	if rules.Compare(long, api.Rule{}) != 1 || rules.Compare(api.Rule{}, long) != -1 || rules.Compare(long, rule(abc)) != 1 {
		t.Error("a long one and another one")
	}
}

// TestVars: variables in the order in which they first occur.
func TestVars(t *testing.T) {
	v := variable("v")
	for _, one := range []struct {
		l    []api.Lit
		want string
	}{
		{nil, ""},
		{[]api.Lit{}, ""},
		{[]api.Lit{{}}, ""},
		{[]api.Lit{holds(abc), not(abc), same(a, b), unlike(a, b)}, ""},
		{[]api.Lit{holds(pattern(x, y, z))}, "x y z"},
		{[]api.Lit{not(pattern(z, y, x))}, "z y x"},
		{[]api.Lit{same(y, x)}, "y x"},
		{[]api.Lit{unlike(x, y)}, "x y"},
		{[]api.Lit{holds(pattern(x, x, x))}, "x"},
		{[]api.Lit{holds(pattern(y, x, y))}, "y x"},
		{[]api.Lit{same(x, x)}, "x"},
		{[]api.Lit{unlike(a, x)}, "x"},
		{[]api.Lit{same(x, a)}, "x"},
		{[]api.Lit{holds(pattern(a, b, x))}, "x"},
		{[]api.Lit{not(pattern(a, x, c))}, "x"},
		{[]api.Lit{unlike(z, x), holds(xpy), not(pattern(v, p, z)), same(v, y)}, "z x y v"},
		{[]api.Lit{same(v, z), not(yqx), holds(pattern(z, v, x))}, "v z y x"},
		{[]api.Lit{holds(xpy), holds(xpy)}, "x y"},
		// Only what is of their Kind.
		{[]api.Lit{{Kind: api.Holds, Pattern: xpy, A: z, B: v}}, "x y"},
		{[]api.Lit{{Kind: api.Not, Pattern: xpy, A: z, B: v}}, "x y"},
		{[]api.Lit{{Kind: api.Same, Pattern: xpy, A: z, B: v}}, "z v"},
		{[]api.Lit{{Kind: api.Unlike, Pattern: xpy, A: z, B: v}}, "z v"},
		// Capital and small letters differ.
		{[]api.Lit{same(variable("X"), x)}, "X x"},
		{[]api.Lit{same(variable("x1"), variable("x"))}, "x1 x"},
	} {
		if l := rules.Vars(one.l...); strings.Join(l, " ") != one.want {
			t.Errorf("Vars(%s) = %q; want %q", shown(one.l), l, one.want)
		}
	}
	var many []api.Lit
	var want []string
	for i := range 50000 {
		want = append(want, fmt.Sprint("v", i))
		many = append(many, same(variable(want[i]), variable(want[i/2])))
	}
	if l := rules.Vars(many...); !slices.Equal(l, want) {
		t.Error(len(l), "of many")
	}
	l := rules.Vars(many...)
	l[0] = "z"
	if l = rules.Vars(many...); l[0] != "v0" || many[0].A.Var != "v0" {
		t.Error(l[0])
	}
}

// wantPartText checks that l has that text, and that it is read from its symbols.
func wantPartText(t *testing.T, want string, l api.Lit) {
	t.Helper()
	if s, e := rules.PartText(l); s != want || e != api.OK {
		t.Errorf("PartText(%s) = %.200q, %v; want %.200q", shown(l), s, e, want)
	}
	symbols, _, _ := lex.All(want)
	if got, n, e := rules.Part(symbols, nil); got != l || n != len(symbols) || e != api.OK {
		t.Errorf("Part of %.200q = %s, %d, %v", want, shown(got), n, e)
	}
	wantText(t, "(?x <p> ?y) :- "+want+" .", rule(xpy, l))
	wantText(t, "(?x <p> ?y) :- "+want+", ?z = <a>, "+want+" .", rule(xpy, l, same(z, a), l))
}

// TestText: the text of each Kind of part, and of rules without a body and with one.
func TestText(t *testing.T) {
	wantPartText(t, "(?x <p> ?y)", holds(xpy))
	wantPartText(t, "not (?x <p> ?y)", not(xpy))
	wantPartText(t, "?x = ?y", same(x, y))
	wantPartText(t, "?x != ?y", unlike(x, y))
	wantPartText(t, "(<a> <b> <c>)", holds(abc))
	wantPartText(t, "not (<a> <b> <c>)", not(abc))
	wantPartText(t, "<a> = \"b\"", same(a, constant(plain("b"))))
	wantPartText(t, "_:a != \"b\"@en-us", unlike(constant(blank("a")), constant(lang("b", "en-us"))))
	wantPartText(t, "\"1\"^^<t> = <a>", same(constant(typed("1", "t")), a))
	wantPartText(t, "(\"a\\\"\\\\\\n\\u0001\" \"é\"@en _:b)", holds(pattern(constant(plain("a\"\\\n\x01")), constant(lang("é", "en")), constant(blank("b")))))
	wantPartText(t, "not (?not ?prefix \"not (\")", not(pattern(variable("not"), variable("prefix"), constant(plain("not (")))))

	wantText(t, "(?x <p> ?y) .", rule(xpy))
	wantText(t, "(?x <p> ?y) .", api.Rule{Head: xpy, Body: []api.Lit{}})
	wantText(t, "(<a> <b> <c>) .", rule(abc))
	wantText(t, "(\"s\" _:p \"o\"^^<t>) .", rule(pattern(constant(plain("s")), constant(blank("p")), constant(typed("o", "t")))))
	wantText(t, "(?x <p> ?y) :- (?x <p> ?y) .", rule(xpy, holds(xpy)))
	wantText(t, "(?x <x#p> ?y) :- (?y <q> ?x), not (?x <r> \"1\"), ?x != ?y .", rule(pattern(x, constant(iri("x#p")), y), holds(yqx), not(pattern(x, r, constant(plain("1")))), unlike(x, y)))
	wantText(t, "(?x \"p\"@en \"1\"^^<t>) :- (?x <p> \"s\"), not (_:b ?y \"l\"@de), ?x = \"2\"^^<t>, <i> != ?y .", everything())
	body := slices.Repeat(parts(), 8)
	want := strings.Repeat(", (?x <p> ?y), not (?x <p> ?y), ?x = ?y, ?x != ?y, (<a> <b> <c>), not (<a> <b> <c>), <a> = <a>, <a> != <b>", 8)
	wantText(t, "(<a> <b> <c>) :- "+want[2:]+" .", rule(abc, body...))
}

// TestTexts: each rule in a line of its own, in order, each as often as it occurs.
func TestTexts(t *testing.T) {
	one, two := rule(xpy, holds(yqx)), rule(abc)
	for _, l := range []struct {
		l    []api.Rule
		want string
	}{
		{nil, ""},
		{[]api.Rule{}, ""},
		{[]api.Rule{two}, "(<a> <b> <c>) .\n"},
		{[]api.Rule{one, two}, "(?x <p> ?y) :- (?y <q> ?x) .\n(<a> <b> <c>) .\n"},
		{[]api.Rule{two, one, two, two}, "(<a> <b> <c>) .\n(?x <p> ?y) :- (?y <q> ?x) .\n(<a> <b> <c>) .\n(<a> <b> <c>) .\n"},
		{slices.Repeat([]api.Rule{two}, 5000), strings.Repeat("(<a> <b> <c>) .\n", 5000)},
	} {
		if s, e := rules.Texts(l.l); s != l.want || e != api.OK {
			t.Errorf("Texts(%s) = %.200q, %v", shown(l.l), s, e)
		}
		wantRules(t, l.want, l.l...)
	}
}

// TestMayNot: what cannot be written has no text.
func TestMayNot(t *testing.T) {
	for _, s := range []api.Slot{{}, variable("1"), variable(strings.Repeat("n", 33)), constant(iri("")), {Var: "x", Term: iri("a")}} {
		for i := range 3 {
			head := xpy
			head[i] = s
			wantCode(t, api.ErrArg, rule(head))
			wantCode(t, api.ErrArg, rule(xpy, holds(head)))
			wantCode(t, api.ErrArg, rule(xpy, holds(xpy), not(head)))
		}
		wantCode(t, api.ErrArg, rule(xpy, same(s, y), holds(xpy)))
		wantCode(t, api.ErrArg, rule(xpy, unlike(x, s)))
	}
	wantCode(t, api.ErrArg, api.Rule{})
	wantCode(t, api.ErrArg, rule(xpy, slices.Repeat([]api.Lit{same(x, y)}, 65)...))
}

// filler returns a slot whose text has n bytes in quotes, 20000 at most.
func filler(n int) api.Slot {
	// What is escaped has one byte, and six in the text.
	escaped := max(0, n-api.MaxText+4) / 5
	return constant(plain(strings.Repeat("\x01", escaped) + strings.Repeat("s", n-6*escaped)))
}

// sized returns a rule whose text has n bytes, some hundred thousand at least.
func sized(n int) api.Rule {
	const count = 60
	l := rule(xpy)
	for range count {
		l.Body = append(l.Body, same(x, constant(plain(""))))
	}
	text, _ := rules.Text(l)
	n -= len(text)
	for i := range l.Body {
		fill := n / (count - i)
		l.Body[i].B = filler(fill)
		n -= fill
	}
	return l
}

// TestLongText: a text has at most MaxSource bytes.
func TestLongText(t *testing.T) {
	if api.MaxSource != 1<<20 {
		t.Fatal(api.MaxSource)
	}
	most := sized(api.MaxSource)
	s, e := rules.Text(most)
	if len(s) != api.MaxSource || e != api.OK {
		t.Fatal(len(s), e)
	}
	wantRules(t, s, most)
	// The byte at its end counts too.
	wantTexts := func(want api.Errno, n int, l ...api.Rule) {
		t.Helper()
		if s, e := rules.Texts(l); e != want || len(s) != n {
			t.Errorf("Texts of %d rules: %d, %v; want %d, %v", len(l), len(s), e, n, want)
		}
	}
	wantTexts(api.ErrLong, 0, most)
	wantTexts(api.OK, api.MaxSource, sized(api.MaxSource-1))
	wantCode(t, api.ErrLong, sized(api.MaxSource+1))
	wantCode(t, api.ErrLong, sized(api.MaxSource+2))
	wantCode(t, api.ErrLong, sized(api.MaxSource+100000))
	// All rules together.
	small := rule(abc)
	wantTexts(api.OK, api.MaxSource, small, sized(api.MaxSource-17))
	wantTexts(api.OK, api.MaxSource, sized(api.MaxSource-17), small)
	wantTexts(api.ErrLong, 0, small, sized(api.MaxSource-16))
	wantTexts(api.ErrLong, 0, sized(api.MaxSource-16), small)
	wantTexts(api.OK, api.MaxSource, slices.Repeat([]api.Rule{small}, api.MaxSource/16)...)
	wantTexts(api.ErrLong, 0, slices.Repeat([]api.Rule{small}, api.MaxSource/16+1)...)
	// What cannot be written comes first, also behind what is too long.
	bad := rule(pattern(x, p, api.Slot{}))
	wantTexts(api.ErrArg, 0, sized(api.MaxSource+1), bad)
	wantTexts(api.ErrArg, 0, bad, sized(api.MaxSource+1))
	wantTexts(api.ErrArg, 0, append(slices.Repeat([]api.Rule{small}, api.MaxSource/8), bad)...)
	long := sized(api.MaxSource + 1)
	long.Body = append(long.Body, same(x, api.Slot{}))
	wantCode(t, api.ErrArg, long)
	// The greatest part is far from too long.
	great := constant(typed(strings.Repeat("\x01", api.MaxText), strings.Repeat("i", api.MaxIRI)))
	if s, e := rules.PartText(not(pattern(great, great, great))); len(s) != 3*(6*api.MaxText+api.MaxIRI+6)+8 || e != api.OK {
		t.Error(len(s), e)
	}
	wantCode(t, api.ErrLong, rule(pattern(great, great, great), slices.Repeat([]api.Lit{not(pattern(great, great, great))}, 64)...))
}

// TestParse: programs of no, one and many rules, with all that may stand between.
func TestParse(t *testing.T) {
	for _, s := range []string{"", " ", "\t\r\n", "#", "# (<a> <b> <c>) .", "#\n#é\n", "prefix a: <b> .", "prefix : <b> . # c\nPREFIX a:<c>."} {
		wantRules(t, s)
	}
	// The chapter's example.
	o, s := variable("o"), variable("s")
	example := rule(pattern(s, constant(iri("x#p")), o), holds(pattern(o, q, s)), not(pattern(s, r, constant(plain("1")))), unlike(s, o))
	wantRules(t, `prefix a: <x#> . (?s a:p ?o) :- (?o <q> ?s), not (?s <r> "1"), ?s != ?o .`, example)
	wantText(t, `(?s <x#p> ?o) :- (?o <q> ?s), not (?s <r> "1"), ?s != ?o .`, example)

	wantRules(t, "(?x <p> ?y) .", rule(xpy))
	wantRules(t, "(?x<p>?y).", rule(xpy))
	wantRules(t, " ( ?x\t<p>\r\n?y # )\n ) # .\n . # (", rule(xpy))
	wantRules(t, "(?x<p>?y):-(?x<p>?y).", rule(xpy, holds(xpy)))
	wantRules(t, "(?x<p>?y):-not(?x<p>?y),?x=?y,?x!=?y.", rule(xpy, not(xpy), same(x, y), unlike(x, y)))
	wantRules(t, "(?x <p> ?y) :- NOT (?x <p> ?y), Not (?y <q> ?x), nOt(<a> <b> <c>) .", rule(xpy, not(xpy), not(yqx), not(abc)))
	wantRules(t, "(?x <p> ?y)#\n:-#\nnot#(\n(?x <p> ?y)#\n,#\n?x#\n!=#\n?y#\n.#", rule(xpy, not(xpy), unlike(x, y)))
	wantRules(t, "(?x <p> ?y) . (<a> <b> <c>) .", rule(xpy), rule(abc))
	wantRules(t, "(<a><b><c>).(?x<p>?y).(<a><b><c>).", rule(abc), rule(xpy), rule(abc))
	wantRules(t, "(<a> <b> <c>) :- (<a> <b> <c>) .\n(?x <p> ?y) :- (?y <q> ?x) .\n", rule(abc, holds(abc)), rule(xpy, holds(yqx)))
	wantRules(t, "(_:a \"b\" \"c\"@en) :- \"1\"^^<t> = \"2\" ^^ <"+api.XSDString+"> .", rule(pattern(constant(blank("a")), constant(plain("b")), constant(lang("c", "en"))), same(constant(typed("1", "t")), constant(plain("2")))))
	wantRules(t, "(?x <p> ?y) :- \"a\" = \"b\"@en, \"c\" @de != _:d .", rule(xpy, same(constant(plain("a")), constant(lang("b", "en"))), unlike(constant(lang("c", "de")), constant(blank("d")))))
	wantRules(t, `(?not ?prefix "not (") .`, rule(pattern(variable("not"), variable("prefix"), constant(plain("not (")))))
	wantRules(t, `(<\u0061> <b> "\u0063\t") .`, rule(pattern(a, b, constant(plain("c\t")))))
	// A rule need not be safe, and may stand there twice.
	wantRules(t, "(?x ?y ?z) :- ?x = ?y . (?x ?y ?z) :- ?x = ?y .", rule(pattern(x, y, z), same(x, y)), rule(pattern(x, y, z), same(x, y)))
	most := rule(abc, slices.Repeat(parts(), 8)...)
	text, _ := rules.Text(most)
	wantRules(t, text+text, most, most)
}

// TestPrefixes: a word stands for what its last 'prefix' line before says.
func TestPrefixes(t *testing.T) {
	head := func(s string) api.Rule { return rule(pattern(x, constant(iri(s)), y)) }
	wantRules(t, "prefix a: <x> . (?x a: ?y) . (?x a:b ?y) .", head("x"), head("xb"))
	wantRules(t, "prefix : <x#> . (?x : ?y) . (?x :b ?y) .", head("x#"), head("x#b"))
	wantRules(t, "prefix a:<x>.prefix :<y>.prefix b:<z>.(?x a:c ?y).(?x :c ?y).(?x b:c ?y).", head("xc"), head("yc"), head("zc"))
	wantRules(t, "prefix a: <x> . (?x a:b ?y) . prefix a: <y> . (?x a:b ?y) . prefix b: <x> . (?x a:b ?y) . (?x b:b ?y) .", head("xb"), head("yb"), head("yb"), head("xb"))
	wantRules(t, "prefix a: <x> . prefix a: <y> . (?x a:b ?y) .", head("yb"))
	wantRules(t, "(?x <p> ?y) . PREFIX a: <x> . Prefix b: <y> . (?x b:c-_1 ?y) . pReFiX c: <z> .", rule(xpy), head("yc-_1"))
	wantRules(t, "prefix prefix: <x> . prefix not: <y> . (?x prefix:a ?y) . (?x not:a ?y) :- not(?x not:a ?y) .", head("xa"), rule(head("ya").Head, not(head("ya").Head)))
	wantRules(t, "prefix # a:\n a: # <y>\n <x> # .\n . (?x a:b ?y) .", head("xb"))
	wantRules(t, "prefix A: <x> . prefix a: <y> . (?x A:b ?y) . (?x a:b ?y) .", head("xb"), head("yb"))
	wantRules(t, `prefix a: <\u0061\U0001F600> . (?x a:b ?y) .`, head("a😀b"))
	wantRules(t, "prefix a: <x> . (a:s a:p \"1\"^^a:t) :- not (a: a:a \"1\"@en), a:b != \"2\" ^^ a: .", rule(pattern(constant(iri("xs")), constant(iri("xp")), constant(typed("1", "xt"))), not(pattern(constant(iri("x")), constant(iri("xa")), constant(lang("1", "en")))), unlike(constant(iri("xb")), constant(typed("2", "x")))))
	wantRules(t, "prefix xsd: <http://www.w3.org/2001/XMLSchema#> . (?x <p> \"1\"^^xsd:string) . (?x <p> \"1\"^^xsd:int) .", rule(pattern(x, p, constant(plain("1")))), rule(pattern(x, p, constant(typed("1", "http://www.w3.org/2001/XMLSchema#int")))))
	word := strings.Repeat("w", 32)
	wantRules(t, "prefix "+word+": <x> . (?x "+word+":"+strings.Repeat("n", 64)+" ?y) .", head("x"+strings.Repeat("n", 64)))
	great := strings.Repeat("i", api.MaxIRI)
	wantRules(t, "prefix a: <"+great+"> . (?x a: ?y) .", head(great))
	wantWrong(t, "prefix a: <"+great+"> . (?x a:b ?y) .", 1019)
	wantRules(t, "prefix a: <"+great[1:]+"> . (?x a:b ?y) .", head(great[1:]+"b"))

	// A name stands for nothing before its 'prefix' line, nor in another text.
	wantWrong(t, "(?x a:b ?y) .", 4)
	wantWrong(t, "(?x a:b ?y) . prefix a: <x> .", 4)
	wantWrong(t, "prefix a: <x> . (?x :b ?y) .", 20)
	wantWrong(t, "prefix : <x> . (?x a:b ?y) .", 19)
	wantWrong(t, "prefix ab: <x> . (?x a:b ?y) .", 21)
	wantWrong(t, "prefix a: <x> . (?x A:b ?y) .", 20)
	wantWrong(t, "prefix A: <x> . (?x a:b ?y) .", 20)
	wantWrong(t, "prefix a: <x> . (?x <p> ?y) :- (?x a:b ?y), (?x b:a ?y) .", 48)
	wantWrong(t, "(?x <p> ?y) :- a: = ?x . prefix a: <x> .", 15)
	wantWrong(t, "(?x <p> \"1\"^^a:t) .", 11)

	// Something missing behind 'prefix'.
	for _, s := range []string{"", ".", "(", "<x>", "a", "?a", "_:a", "\"a\"", "\"a:\"", "@a", "a:b", ":b", "a:_", ":-", "prefix", "not"} {
		wantPrefixWrong(t, "prefix ", s, " <x> .")
		wantPrefixWrong(t, "(<a> <b> <c>) . PREFIX ", s, " <x> . (?x a:b ?y) .")
	}
	for _, s := range []string{"", ".", "a:", "b", "b:c", "?b", "_:b", "\"b\"", "\"b\"@en", "(", "prefix"} {
		wantPrefixWrong(t, "prefix a: ", s, " .")
		wantPrefixWrong(t, "prefix b: <x> . prefix : ", s, " . (?x <p> ?y) .")
	}
	for _, s := range []string{"", "<y>", "a:", ",", ":-", "=", "!=", "(", ")", "{", "}", "^^", "prefix", "?x", "\"x\""} {
		wantPrefixWrong(t, "prefix a: <x>  ", s, " (?x <p> ?y) .")
		wantPrefixWrong(t, "prefix a: <x>  ", s, " prefix b: <y> .")
	}
	wantWrong(t, "prefix", 6)
	wantWrong(t, "prefix a:", 9)
	wantWrong(t, "prefix a: <x>", 13)
	wantWrong(t, "prefix a: <x> # .", 17)
	wantWrong(t, "prefix a: <x> . . ", 16)
	wantWrong(t, "prefix a: <x> , b: <y> .", 14)
	wantWrong(t, "prefix: <x> .", 0)
	wantWrong(t, "prefixes a: <x> .", 0)
	wantWrong(t, "@prefix a: <x> .", 0)
	wantWrong(t, "base <x> .", 0)
}

// wantPrefixWrong checks that what stands between, or, if that is nothing, the symbol behind it, is wrong.
func wantPrefixWrong(t *testing.T, before, between, behind string) {
	t.Helper()
	place := len(before)
	if between == "" {
		place++
	}
	wantWrong(t, before+between+behind, place)
	if between == "" {
		behind = ""
	}
	wantWrong(t, before+between, len(before))
}

// noSlots are symbols with which no slot begins, if there is no prefix.
func noSlots() []string {
	return []string{".", ",", "=", "!=", ":-", "^^", "(", ")", "{", "}", "a", "not", "NOT", "prefix", "@en", ":", ":a", "a:", "a:b", `"` + strings.Repeat("s", api.MaxText+1) + `"`}
}

// wantSymbolWrong checks that each of these symbols is wrong behind what stands before it, whatever is behind it.
func wantSymbolWrong(t *testing.T, before string, l []string, behind string) {
	t.Helper()
	for _, s := range l {
		wantWrong(t, before+s, len(before))
		wantWrong(t, before+s+behind, len(before))
		wantWrong(t, before+s+" (?x <p> ?y) .", len(before))
		wantWrong(t, "(?x <p> ?y) .\n"+before+s+behind, 14+len(before))
	}
	wantWrong(t, before, len(before))
	wantWrong(t, before+" # \n", len(before)+4)
	wantWrong(t, "# é\nprefix a1: <x> ."+before+"\t# )", 25+len(before))
}

// symbols are symbols of all kinds, but for those that are named.
func symbols(without ...string) []string {
	all := append(noSlots(), "?x", "<a>", "_:a", `"a"`)
	return slices.DeleteFunc(all, func(s string) bool { return slices.Contains(without, s) })
}

// TestWrong: each place where something else is due.
func TestWrong(t *testing.T) {
	for _, s := range symbols("(", "prefix") {
		wantWrong(t, s, 0)
		wantWrong(t, s+" (?x <p> ?y) .", 0)
		wantWrong(t, "(?x <p> ?y) . "+s+" (?x <p> ?y) .", 14)
		wantWrong(t, "prefix a1: <x> . "+s, 17)
	}
	// The slots of a head, its ')', and what is behind it.
	wantSymbolWrong(t, "(", noSlots(), " <p> ?y) .")
	wantSymbolWrong(t, "(?x ", noSlots(), " ?y) .")
	wantSymbolWrong(t, "(?x <p> ", noSlots(), ") .")
	wantSymbolWrong(t, "(?x <p> ?y ", symbols(")"), " .")
	wantSymbolWrong(t, "(?x <p> ?y) ", symbols(":-", "."), " (?x <p> ?y) .")
	// A part.
	parts := slices.DeleteFunc(noSlots(), func(s string) bool { return s == "(" || strings.EqualFold(s, "not") })
	for _, before := range []string{"(?x <p> ?y) :- ", "(?x <p> ?y) :- (?x <p> ?y), ", "(?x <p> ?y) :- ?x = ?y, not (?x <p> ?y), "} {
		wantSymbolWrong(t, before, parts, " .")
		wantSymbolWrong(t, before+"not ", symbols("("), " <p> ?y) .")
		wantSymbolWrong(t, before+"NOT (", noSlots(), " <p> ?y) .")
		wantSymbolWrong(t, before+"not (?x ", noSlots(), " ?y) .")
		wantSymbolWrong(t, before+"not (?x <p> ", noSlots(), ") .")
		wantSymbolWrong(t, before+"not (?x <p> ?y ", symbols(")"), " .")
		wantSymbolWrong(t, before+"(", noSlots(), " <p> ?y) .")
		wantSymbolWrong(t, before+"(?x ", noSlots(), " ?y) .")
		wantSymbolWrong(t, before+"(?x <p> ", noSlots(), ") .")
		wantSymbolWrong(t, before+"(?x <p> ?y ", symbols(")"), " .")
		for _, slot := range []string{"?x ", "<a> ", "_:a "} {
			wantSymbolWrong(t, before+slot, symbols("=", "!="), " ?y .")
			wantSymbolWrong(t, before+slot+"= ", noSlots(), " .")
			wantSymbolWrong(t, before+slot+"!= ", noSlots(), " .")
			wantSymbolWrong(t, before+"?x = "+slot, symbols(",", "."), " .")
			wantSymbolWrong(t, before+"?x != "+slot, symbols(",", "."), " .")
		}
		wantSymbolWrong(t, before+"(?x <p> ?y) ", symbols(",", "."), " .")
		wantSymbolWrong(t, before+"not (?x <p> ?y) ", symbols(",", "."), " .")
	}
}

// TestWrongStrings: what is behind a string, and is no part of the term.
func TestWrongStrings(t *testing.T) {
	wantWrong(t, `(?x <p> "1"^^) .`, 11)
	wantWrong(t, `(?x <p> "1"^^_:a) .`, 11)
	wantWrong(t, `(?x <p> "1"^^"a") .`, 11)
	wantWrong(t, `(?x "1"^^a:b ?y) .`, 7)
	wantWrong(t, `("1"^^?t <p> ?y) .`, 4)
	wantWrong(t, `(?x <p> "1"@en@de) .`, 14)
	wantWrong(t, `(?x <p> ?y) :- "1"^^ = ?x .`, 18)
	wantWrong(t, `(?x <p> ?y) :- ?x = "1"^^a .`, 23)
	wantWrong(t, `(?x <p> ?y) :- ?x = "1"^^<t>@en .`, 28)
	wantWrong(t, `(?x <p> ?y) :- ?x = ?y = ?z .`, 23)
	wantWrong(t, `(?x <p> ?y) :- not not (?x <p> ?y) .`, 19)
	wantWrong(t, `(?x <p> ?y) :- not ?x = ?y .`, 19)
	wantWrong(t, `not (?x <p> ?y) .`, 0)
	wantWrong(t, `?x = ?y .`, 0)
	wantWrong(t, `(?x <p> ?y) :- (?x <p> ?y) :- (?x <p> ?y) .`, 27)
	wantWrong(t, `(?x <p> ?y) , (?x <p> ?y) .`, 12)
	wantWrong(t, `(?x <p> ?y) (?x <p> ?y) .`, 12)
	wantWrong(t, `(?x <p> ?y) .. `, 13)
	wantWrong(t, `(?x <p> ?y ?z) .`, 11)
	wantWrong(t, `((?x) <p> ?y) .`, 1)
	wantWrong(t, `(?x <p> ?y) :- ?x ! = ?y .`, 18)
	wantWrong(t, `(?x <p> ?y) :- ?x : = ?y .`, 18)
}

// TestBytes: a byte where no symbol is, and texts that are not well-formed.
func TestBytes(t *testing.T) {
	for _, s := range []string{"<", "<a", "<a b>", "<>", `"`, `"a`, "\"a\nb\"", `"\q"`, "_:", "_:1", "?", "?1", "@", "@EN", "&", "1", "é", "!", "^", "'a'", "[", ";", "?" + strings.Repeat("n", 33), strings.Repeat("w", 33), "a:" + strings.Repeat("n", 65), strings.Repeat("w", 33) + ":", "\x00", "\x80", "\xff", "\xc3", "\xed\xa0\x80", "\ufeff"} {
		for _, before := range []string{"", "# \n", "prefix ", "prefix a: ", "prefix a: <x> ", "prefix a: <x> . ", "(", "(?x ", "(?x <p> ?y ", "(?x <p> ?y) ", "(?x <p> ?y) :- ", "(?x <p> ?y) :- not ", "(?x <p> ?y) :- ?x ", "(?x <p> ?y) :- ?x = ", "(?x <p> ?y) :- ?x = ?y ", "(?x <p> ?y) .\n"} {
			wantWrong(t, before+s, len(before))
		}
	}
	for _, s := range []string{"# \xff", "(?x <p> ?y) . # \xff", "(?x <p> \"\xff\") .", "(?x <\xff> ?y) .", "(?x <p> ?y) .\xff", "prefix a: <\xff> ."} {
		wantWrong(t, s, strings.Index(s, "\xff"))
	}
	// A text that has no symbols is no program of any, so that it is wrong there first.
	wantWrong(t, "?x & ", 3)
	wantWrong(t, "(?x <p> ?y . (?x <p> \"", 21)
	wantWrong(t, "? \xff", 2)
	wantWrong(t, "& !", 0)
}

// tooMany is the text of a rule of 65 parts, but for its end.
func tooMany() string {
	return "(?x <p> ?y) :- (?x <p> ?y)" + strings.Repeat(", ?x = ?y", 64)
}

// TestTooMany: a rule that cannot be written is wrong at its '('.
func TestTooMany(t *testing.T) {
	long := tooMany()
	for _, before := range []string{"", " # a\n", "prefix a: <x> .\n", "(?x <p> ?y) . ", "(?x <p> ?y) :- ?x = ?y .\n"} {
		wantWrong(t, before+long+" .", len(before))
		wantWrong(t, before+long+" . (?x <p> ?y) .", len(before))
		wantWrong(t, before+long+". "+long+" .", len(before))
		wantWrong(t, before+long+". (?x <p>) .", len(before))
		// What has no end is no rule yet.
		wantWrong(t, before+long, len(before+long))
		wantWrong(t, before+long+" ?x .", len(before+long)+1)
		wantWrong(t, before+long+", ?x .", len(before+long)+5)
	}
	wantWrong(t, "(?x <p>) . "+long+" .", 7)
	// One part less.
	most := long[:strings.LastIndex(long, ",")]
	if l, at, e := rules.Parse(most + " . " + most + "."); len(l) != 2 || len(l[0].Body) != 64 || at != 0 || e != api.OK {
		t.Error(len(l), at, e)
	}
	wantWrong(t, strings.Repeat("(?x <p> ?y) . ", 100)+strings.Replace(long, ",", strings.Repeat(", ?x = ?y", 5000)+",", 1)+".", 1400)
}

// padded returns s with so many bytes behind it as to have n in all.
func padded(s string, n int) string {
	return s + strings.Repeat(" ", n-len(s))
}

// TestLongProgram: a program has at most MaxSource bytes.
func TestLongProgram(t *testing.T) {
	wantRules(t, padded("", api.MaxSource))
	wantRules(t, padded("(<a> <b> <c>) .", api.MaxSource), rule(abc))
	wantRules(t, padded("(<a>", api.MaxSource-10)+"<b> <c>) .", rule(abc))
	wantWrong(t, padded("(<a> <b> <c>)", api.MaxSource), api.MaxSource)
	wantWrong(t, padded("(<a> <b> <c>)", api.MaxSource-1)+",", api.MaxSource-1)
	const small = "(<a><b><c>)."
	many := strings.Repeat(small, api.MaxSource/len(small))
	if l, at, e := rules.Parse(many); len(l) != api.MaxSource/len(small) || at != 0 || e != api.OK {
		t.Error(len(l), at, e)
	}
	for _, s := range []string{padded("", api.MaxSource+1), padded("(<a> <b> <c>) .", api.MaxSource+1), padded("(<a> <b>", api.MaxSource+1), padded("&", api.MaxSource+1), strings.Repeat("\xff", api.MaxSource+1), "#" + strings.Repeat("#", api.MaxSource), many + small, padded("", 3*api.MaxSource)} {
		if l, at, e := rules.Parse(s); len(l) != 0 || at != 0 || e != api.ErrLong {
			t.Errorf("Parse(%.40q), %d bytes = %s, %d, %v; want 0, ErrLong", s, len(s), shown(l), at, e)
		}
		wantOne(t, s, api.ErrText, api.Rule{})
	}
}

// TestOne: programs of one rule alone.
func TestOne(t *testing.T) {
	for _, s := range []string{"(<a> <b> <c>) .", "# (?x <p> ?y) .\n(<a><b><c>).", "prefix : <a> . (: <b> <c>) . prefix a: <b> ."} {
		wantOne(t, s, api.OK, rule(abc))
	}
	for _, s := range []string{"", "#", "prefix a: <x> .", "(<a> <b> <c>)", "(<a> <b> <c>) . (<a> <b> <c>) .", "(<a> <b> <c>) . (?x <p> ?y) .", "(<a> <b> <c>) . (", "(<a> <b> <c>) . .", "(<a> <b> <c>) . &", "<a> <b> <c> .", tooMany() + "."} {
		wantOne(t, s, api.ErrText, api.Rule{})
	}
}

// TestPart: parts of each Kind, with more symbols behind, and what is none.
func TestPart(t *testing.T) {
	prefixes := map[string]string{"a": "x#", "": "y", "bad": "a b"}
	for s, want := range map[string]api.Lit{
		"(?x <p> ?y)":             holds(xpy),
		"not (?x <p> ?y)":         not(xpy),
		"NOT(<a><b><c>)":          not(abc),
		"?x = ?y":                 same(x, y),
		"?x != ?y":                unlike(x, y),
		"<a> = _:b":               same(a, constant(blank("b"))),
		"a:b != :":                unlike(constant(iri("x#b")), constant(iri("y"))),
		"(:c a: a:-d)":            {},
		"(:c a: a:_d)":            holds(pattern(constant(iri("yc")), constant(iri("x#")), constant(iri("x#_d")))),
		"\"1\" = \"2\"@en":        same(constant(plain("1")), constant(lang("2", "en"))),
		"\"1\"^^a:t != \"2\"^^:":  unlike(constant(typed("1", "x#t")), constant(typed("2", "y"))),
		"not (\"1\" \"1\"@en ?x)": not(pattern(constant(plain("1")), constant(lang("1", "en")), x)),
	} {
		for _, behind := range []string{"", " .", ", ?x = ?y", " }", " ?x", " <a>", " not", " a", " &", " (", " =", " :-"} {
			all := slices.Collect(lex.Runs(s + behind))
			n := len(slices.Collect(lex.Runs(s)))
			code := api.OK
			if want == (api.Lit{}) {
				n, code = 0, api.ErrText
			}
			if l, got, e := rules.Part(all, prefixes); l != want || got != n || e != code {
				t.Errorf("Part of %q = %s, %d, %v; want %s, %d", s+behind, shown(l), got, e, shown(want), n)
			}
		}
	}
	// The longest term is taken.
	for s, want := range map[string]int{"?x = \"1\" @en": 4, "?x = \"1\" ^^ a:t": 5, "?x = \"1\" ^^ b:t": 3, "?x = \"1\" ^^": 3, "?x = \"1\" ^^ _:b": 3} {
		if l, n, e := rules.Part(slices.Collect(lex.Runs(s)), prefixes); l.Kind != api.Same || n != want || e != api.OK {
			t.Errorf("Part of %q = %s, %d, %v; want %d", s, shown(l), n, e, want)
		}
	}
	for _, s := range []string{"", ".", ",", ":-", ")", "}", "a", "prefix", "not", "not not (?x <p> ?y)", "not ?x = ?y", "(", "(?x", "(?x <p>", "(?x <p> ?y", "(?x <p> ?y .", "(?x <p> ?y ?z)", "(?x <p>)", "()", "not (", "not (?x <p> ?y", "?x", "?x =", "?x !=", "?x ?y", "= ?y", "?x = =", "?x = )", "?x :- ?y", "?x = not", "<a>", "b:c = ?x", "?x = b:c", "bad:c = ?x", "bad: = ?x", "(?x b:c ?y)", "\"1\"^^b:t = ?x", "@en = ?x", "{?x <p> ?y}"} {
		for _, l := range [][]api.Symbol{slices.Collect(lex.Runs(s)), slices.Collect(lex.Runs(s + " "))} {
			if got, n, e := rules.Part(l, prefixes); got != (api.Lit{}) || n != 0 || e != api.ErrText {
				t.Errorf("Part of %q = %s, %d, %v; want ErrText", s, shown(got), n, e)
			}
		}
	}
	// Without prefixes.
	name := slices.Collect(lex.Runs("a:b = ?x"))
	for _, none := range []map[string]string{nil, {}} {
		if l, n, e := rules.Part(name, none); l != (api.Lit{}) || n != 0 || e != api.ErrText {
			t.Error(shown(l), n, e)
		}
		if l, n, e := rules.Part(slices.Collect(lex.Runs("?x = ?y")), none); l != same(x, y) || n != 3 || e != api.OK {
			t.Error(shown(l), n, e)
		}
	}
}

// TestPartOfAnySymbols: symbols that no text has make no part that cannot be written.
func TestPartOfAnySymbols(t *testing.T) {
	equals := api.Symbol{Kind: api.SymMark, Text: "="}
	right := api.Symbol{Kind: api.SymVar, Text: "x"}
	wrong := []api.Symbol{{}, {Kind: 9, Text: "x"}, {Kind: -1, Text: "="}, {Kind: api.SymMark}, {Kind: api.SymName, Text: "x"}, {Kind: api.SymIRI}, {Kind: api.SymIRI, Term: plain("a")}, {Kind: api.SymIRI, Text: "a"}, {Kind: api.SymBlank, Term: blank("1")}, {Kind: api.SymString, Text: "\xff"}, {Kind: api.SymLang, Text: "en"}, {Kind: api.SymVar, Term: iri("a")}}
	for _, s := range append(noNames(), "") {
		wrong = append(wrong, api.Symbol{Kind: api.SymVar, Text: s})
	}
	for _, s := range wrong {
		for _, l := range [][]api.Symbol{{s}, {s, equals, right}, {right, equals, s}, {right, s, right}} {
			if x, n, e := rules.Part(l, nil); x != (api.Lit{}) || n != 0 || e != api.ErrText {
				t.Errorf("Part(%s) = %s, %d, %v; want ErrText", shown(l), shown(x), n, e)
			}
		}
	}
	// Places say nothing here.
	l := []api.Symbol{{Kind: api.SymVar, Text: "x", Place: -5}, {Kind: api.SymMark, Text: "!=", Place: 7}, {Kind: api.SymVar, Text: "y", Place: -1, Term: iri("a")}}
	if x, n, e := rules.Part(l, nil); x != unlike(variable("x"), y) || n != 3 || e != api.OK {
		t.Error(shown(x), n, e)
	}
	r := rand.New(rand.NewSource(6))
	pool := append(wrong, equals, equals, right, right, right)
	for _, s := range symbols() {
		pool = append(pool, slices.Collect(lex.Runs(s))...)
	}
	for range 100000 {
		var l []api.Symbol
		for range r.Intn(7) {
			l = append(l, pool[r.Intn(len(pool))])
		}
		x, n, e := rules.Part(l, nil)
		if _, f := rules.PartText(x); e == api.OK && (f != api.OK || n < 3 || n > len(l)) || e != api.OK && (e != api.ErrText || n != 0 || x != (api.Lit{})) {
			t.Fatalf("Part(%s) = %s, %d, %v", shown(l), shown(x), n, e)
		}
	}
}

// TestRoundTrip: what has a text is read from it, also with names and terms of their greatest length.
func TestRoundTrip(t *testing.T) {
	var slots []api.Slot
	for _, s := range names() {
		slots = append(slots, variable(s))
	}
	for _, of := range some() {
		slots = append(slots, constant(of))
	}
	for r := range rune(256) {
		slots = append(slots, constant(plain(string(r))), constant(lang(string(r)+"\"", "en")))
	}
	var all []api.Rule
	for _, s := range slots {
		l := rule(pattern(s, p, y), same(s, y), unlike(x, s))
		for _, one := range []api.Pattern{{s, b, c}, {a, s, c}, {a, b, s}} {
			all = append(all, rule(one))
			l.Body = append(l.Body, holds(one), not(one))
		}
		all = append(all, l, rule(pattern(s, s, s)))
	}
	all = append(all, everything(), rule(xpy, slices.Repeat(parts(), 8)...))
	for part := range slices.Chunk(all, 5) {
		s, e := rules.Texts(part)
		if e != api.OK {
			t.Fatal(len(s), e)
		}
		wantRules(t, s, part...)
	}
	for _, one := range all {
		s, e := rules.Text(one)
		if e != api.OK || strings.Contains(s, "\n") {
			t.Fatalf("Text(%s) = %.200q, %v", shown(one), s, e)
		}
		wantText(t, s, one)
	}
}

// randomSlot returns a slot.
func randomSlot(r *rand.Rand) api.Slot {
	if r.Intn(2) == 0 {
		return variable(names()[r.Intn(len(names()))])
	}
	l := []api.Term{iri("a"), iri("x#b"), iri("x#"), iri("y"), blank("b"), plain("1"), plain("a\n\"b"), lang("a", "en"), typed("1", "x#t"), typed("1", "t")}
	return constant(l[r.Intn(len(l))])
}

// randomPattern returns a pattern.
func randomPattern(r *rand.Rand) api.Pattern {
	return pattern(randomSlot(r), randomSlot(r), randomSlot(r))
}

// randomRule returns a rule of a few parts.
func randomRule(r *rand.Rand) api.Rule {
	l := rule(randomPattern(r))
	for range r.Intn(5) {
		one := holds(randomPattern(r))
		switch r.Intn(4) {
		case 0:
			one.Kind = api.Not
		case 1:
			one = same(randomSlot(r), randomSlot(r))
		case 2:
			one = unlike(randomSlot(r), randomSlot(r))
		}
		l.Body = append(l.Body, one)
	}
	return l
}

// layout writes symbols with anything between.
type layout struct {
	r *rand.Rand
	s strings.Builder
}

func (w *layout) put(l ...string) {
	for _, s := range l {
		w.s.WriteString(s)
		gaps := []string{" ", "\t", "\n", "\r\n", "  ", "# . (<a> \"\n", " #é\n#\n\t"}
		w.s.WriteString(gaps[w.r.Intn(len(gaps))])
	}
}

func (w *layout) slot(s api.Slot) {
	if s.Var != "" {
		w.put("?" + s.Var)
		return
	}
	text, _ := term.Text(s.Term)
	local, ok := strings.CutPrefix(s.Term.Text, "x#")
	switch {
	case s.Term.Kind == api.Typed && s.Term.Extra == "x#t" && w.r.Intn(2) == 0:
		w.put(`"`+s.Term.Text+`"`, "^^", "a:t")
	case ok && w.r.Intn(2) == 0:
		w.put("a:" + local)
	default:
		w.put(text)
	}
}

func (w *layout) pattern(p api.Pattern) {
	w.put("(")
	for _, s := range p {
		w.slot(s)
	}
	w.put(")")
}

func (w *layout) rule(l api.Rule) {
	w.pattern(l.Head)
	for i, one := range l.Body {
		w.put([]string{":-", ","}[min(i, 1)])
		switch one.Kind {
		case api.Not:
			w.put([]string{"not", "NOT", "Not", "nOT"}[w.r.Intn(4)])
			w.pattern(one.Pattern)
		case api.Holds:
			w.pattern(one.Pattern)
		default:
			w.slot(one.A)
			w.put([]string{"=", "!="}[one.Kind-api.Same])
			w.slot(one.B)
		}
	}
	w.put(".")
}

// TestRandomRules: rules written in any way are read as what they are.
func TestRandomRules(t *testing.T) {
	r := rand.New(rand.NewSource(66))
	for range 3000 {
		w := &layout{r: r}
		w.put("prefix", "b:", "<x#>", ".", "PREFIX", "a:", "<x#>", ".")
		var all []api.Rule
		for range r.Intn(5) {
			one := randomRule(r)
			all = append(all, one)
			w.rule(one)
			if r.Intn(4) == 0 {
				w.put("Prefix", ":", "<z>", ".")
			}
		}
		wantRules(t, w.s.String(), all...)
		s, e := rules.Texts(all)
		if e != api.OK {
			t.Fatal(s, e)
		}
		wantRules(t, s, all...)
		for i := range all {
			for k := range all {
				one, _ := rules.Text(all[i])
				two, _ := rules.Text(all[k])
				if rules.Compare(all[i], all[k]) != strings.Compare(one, two) || rules.Same(all[i], all[k]) != (one == two) {
					t.Fatalf("%q, %q", one, two)
				}
			}
		}
	}
}

// piece is the text of a symbol, or of a term, and what it may be taken for.
type piece struct{ text, class string }

var pieces = []piece{
	{"(", "("}, {")", ")"}, {",", ","}, {".", "."}, {":-", ":-"}, {"=", "="}, {"!=", "="}, {"not", "not"}, {"NOT", "not"}, {"prefix", "prefix"}, {"PREFIX", "prefix"},
	{"?x", "slot"}, {"?y1", "slot"}, {"_:b", "slot"}, {`"1"`, "slot"}, {`"1"@en`, "slot"}, {`"1" ^^ <t>`, "slot"}, {"<a>", "iri"}, {"<b#>", "iri"}, {"a:", "bare"}, {":", "bare"}, {"a:b", "name"}, {":b", "name"}, {"a", "word"}, {"{", "mark"},
}

// grammar has for each state what may come, and the next state.
var grammar = map[string]map[string]string{
	"item": {"prefix": "name", "(": "head1"},
	"name": {"bare": "iri"}, "iri": {"iri": "line"}, "line": {".": "item"},
	"head1": {"slot": "head2"}, "head2": {"slot": "head3"}, "head3": {"slot": "head4"}, "head4": {")": "head"},
	"head": {":-": "part", ".": "item"},
	"part": {"not": "not", "(": "part1", "slot": "cond"}, "not": {"(": "part1"},
	"part1": {"slot": "part2"}, "part2": {"slot": "part3"}, "part3": {"slot": "part4"}, "part4": {")": "done"},
	"cond": {"=": "cond2"}, "cond2": {"slot": "done"},
	"done": {",": "part", ".": "item"},
}

// automaton goes through the states.
type automaton struct {
	state, line string
	known       map[string]bool
	rules       int
}

// next returns the state behind a piece, and reports whether it may come.
func (a *automaton) next(x piece) (string, bool) {
	next, ok := grammar[a.state][x.class]
	word, _, _ := strings.Cut(x.text, ":")
	isName := x.class == "bare" || x.class == "name"
	if !ok && (x.class == "iri" || isName && a.known[word]) {
		next, ok = grammar[a.state]["slot"]
	}
	return next, ok
}

// step takes a piece, and reports whether it may come.
func (a *automaton) step(x piece) bool {
	next, ok := a.next(x)
	switch {
	case !ok:
		return false
	case a.state == "name":
		a.line, _, _ = strings.Cut(x.text, ":")
	case a.state == "line":
		a.known[a.line] = true
	case next == "item":
		a.rules++
	}
	a.state = next
	return true
}

// choose returns a piece, mostly one that may come.
func (a *automaton) choose(r *rand.Rand) piece {
	x := pieces[r.Intn(len(pieces))]
	if r.Intn(100) == 0 {
		return x
	}
	for _, ok := a.next(x); !ok; _, ok = a.next(x) {
		x = pieces[r.Intn(len(pieces))]
	}
	return x
}

// TestRandomSymbols: symbols in any order are read, or wrong where they cannot go on.
func TestRandomSymbols(t *testing.T) {
	r := rand.New(rand.NewSource(666))
	right := 0
	for range 30000 {
		m := &automaton{state: "item", known: map[string]bool{}}
		s, wrong := "", -1
		end := 1 + r.Intn(60)
		for i := range 120 {
			x := m.choose(r)
			if wrong < 0 && !m.step(x) {
				wrong = len(s)
			}
			s += x.text + " "
			if i >= end && (m.state == "item" || wrong >= 0 || r.Intn(100) == 0) {
				break
			}
		}
		if wrong < 0 && m.state != "item" {
			wrong = len(s)
		}
		if wrong >= 0 {
			wantWrong(t, s, wrong)
			continue
		}
		right++
		l, at, e := rules.Parse(s)
		if len(l) != m.rules || at != 0 || e != api.OK {
			t.Fatalf("Parse(%q) = %s, %d, %v; want %d", s, shown(l), at, e, m.rules)
		}
		again, _ := rules.Texts(l)
		wantRules(t, again, l...)
	}
	if right < 12000 {
		t.Error("too few of them are programs:", right)
	}
}

// TestAnyBytes: nothing panics, whatever the bytes are, and what is wrong is within the text.
func TestAnyBytes(t *testing.T) {
	for a := range 256 {
		for b := range 256 {
			two := string([]byte{byte(a), byte(b)})
			for _, s := range []string{two, "(?x <p> " + two, "(?x <p> \"" + two + "\") .", "(?x <p> ?y) :- " + two + " .", "prefix " + two + " <x> ."} {
				l, at, e := rules.Parse(s)
				x, f := rules.One(s)
				switch {
				case e == api.ErrText && len(l) == 0 && at >= 0 && at <= len(s) && f == api.ErrText && rules.Same(x, api.Rule{}):
				case e == api.OK && at == 0 && (len(l) == 1) == (f == api.OK):
				default:
					t.Errorf("%q: %s, %d, %v; %s, %v", s, shown(l), at, e, shown(x), f)
				}
			}
		}
	}
}

// TestMemory: what is handed in stays as it is, and what is handed out belongs to the caller.
func TestMemory(t *testing.T) {
	l := []api.Rule{everything(), rule(abc), everything()}
	s, _ := rules.Texts(l)
	if !equal(l, []api.Rule{everything(), rule(abc), everything()}) {
		t.Error(shown(l))
	}
	first, _, _ := rules.Parse(s)
	first[0].Body[0] = same(x, y)
	_ = append(first[0].Body, same(x, y))
	first[1] = rule(xpy)
	if !equal(first[2:], []api.Rule{everything()}) {
		t.Error(shown(first[2]))
	}
	wantRules(t, s, l...)
	prefixes := map[string]string{"a": "x"}
	symbols, _, _ := lex.All("a:b = \"1\"^^a:t .")
	before := slices.Clone(symbols)
	for range 2 {
		if x, n, e := rules.Part(symbols, prefixes); x != same(constant(iri("xb")), constant(typed("1", "xt"))) || n != 5 || e != api.OK {
			t.Error(shown(x), n, e)
		}
	}
	if !slices.Equal(symbols, before) || len(prefixes) != 1 || prefixes["a"] != "x" {
		t.Error(shown(symbols), prefixes)
	}
}
