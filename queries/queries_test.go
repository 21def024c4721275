package queries_test

import (
	"fmt"
	"math/rand"
	"slices"
	"strings"
	"testing"

	"rhizome/api"
	"rhizome/queries"
	"rhizome/rules"
	"rhizome/term"
)

func iri(s string) api.Term       { return api.Term{Kind: api.IRI, Text: s} }
func blank(s string) api.Term     { return api.Term{Kind: api.Blank, Text: s} }
func plain(s string) api.Term     { return api.Term{Kind: api.Plain, Text: s} }
func lang(s, tag string) api.Term { return api.Term{Kind: api.Lang, Text: s, Extra: tag} }
func typed(s, of string) api.Term { return api.Term{Kind: api.Typed, Text: s, Extra: of} }

func variable(s string) api.Slot           { return api.Slot{Var: s} }
func constant(t api.Term) api.Slot         { return api.Slot{Term: t} }
func pattern(s, p, o api.Slot) api.Pattern { return api.Pattern{s, p, o} }
func holds(s, p, o api.Slot) api.Lit {
	return api.Lit{Kind: api.Holds, Pattern: pattern(s, p, o)}
}
func not(s, p, o api.Slot) api.Lit { return api.Lit{Kind: api.Not, Pattern: pattern(s, p, o)} }
func same(a, b api.Slot) api.Lit   { return api.Lit{Kind: api.Same, A: a, B: b} }
func unlike(a, b api.Slot) api.Lit { return api.Lit{Kind: api.Unlike, A: a, B: b} }

// ask is a query that requests nothing.
func ask(body ...api.Lit) api.Query { return api.Query{Ask: true, Body: body} }

// choose is a query for the variables whose names stand in names, with spaces between.
func choose(names string, body ...api.Lit) api.Query {
	return api.Query{Vars: strings.Fields(names), Body: body}
}

// once is q, each row once.
func once(q api.Query) api.Query {
	q.Distinct = true
	return q
}

// Slots and parts that many tests speak of.
var (
	x, y, z = variable("x"), variable("y"), variable("z")
	a, b, c = constant(iri("a")), constant(iri("b")), constant(iri("c"))
	p, q    = constant(iri("p")), constant(iri("q"))
	one     = constant(plain("1"))
	xpy     = holds(x, p, y)
	yqz     = holds(y, q, z)
	abc     = holds(a, b, c)
)

// shown is how tests tell of something; of what is long the beginning.
func shown(x any) string {
	s := fmt.Sprintf("%+v", x)
	return strings.ToValidUTF8(s[:min(len(s), 400)], "?")
}

// equal reports whether a and b are the same query; it is built apart from Same.
func equal(a, b api.Query) bool {
	parts := slices.EqualFunc(a.Body, b.Body, func(a, b api.Lit) bool { return a == b })
	return parts && a.Ask == b.Ask && a.Distinct == b.Distinct && slices.Compare(a.Vars, b.Vars) == 0
}

// wantQuery checks that s is a text of want.
func wantQuery(t *testing.T, s string, want api.Query) {
	t.Helper()
	if got, at, e := queries.Parse(s); !equal(got, want) || at != 0 || e != api.OK {
		t.Errorf("Parse(%.200q) = %s, %d, %v; want %s", s, shown(got), at, e, shown(want))
	}
}

// wantWrong checks that s is wrong at a position.
func wantWrong(t *testing.T, s string, place int) {
	t.Helper()
	if got, at, e := queries.Parse(s); !equal(got, api.Query{}) || at != place || e != api.ErrText {
		t.Errorf("Parse(%.200q) = %s, %d, %v; want %d, ErrText", s, shown(got), at, e, place)
	}
}

// wantText checks that q is valid, has that text, and is read from it.
func wantText(t *testing.T, want string, q api.Query) {
	t.Helper()
	if !queries.May(q) {
		t.Errorf("May(%s) = false", shown(q))
	}
	if s, e := queries.Text(q); s != want || e != api.OK {
		t.Errorf("Text(%s) = %.200q, %v; want %.200q", shown(q), s, e, want)
	}
	wantQuery(t, want, q)
}

// wantMay checks whether q is valid, which is also what Text, and Parse of its text, hold for it.
func wantMay(t *testing.T, q api.Query, may bool) {
	t.Helper()
	if queries.May(q) != may {
		t.Errorf("May(%s) = %t", shown(q), !may)
	}
	if s, e := queries.Text(q); (e == api.OK) != may || !may && (s != "" || e != api.ErrArg) {
		t.Errorf("Text(%s) = %.200q, %v", shown(q), s, e)
	}
	s, ok := written(q)
	if !ok || len(s) > api.MaxSource/2 {
		return
	}
	if may {
		wantQuery(t, s, q)
		return
	}
	wantWrong(t, s, 0)
	wantWrong(t, "# ask\n  "+s+" # }", 8)
	wantWrong(t, "prefix x: <x> . prefix : <y> .\t"+s, 31)
}

// written returns a text of q, also of one that is not valid, and whether it has one that is wrong for that alone; it is built apart from Text.
func written(q api.Query) (string, bool) {
	words := []string{"select"}
	if q.Ask {
		words[0] = "ask"
	}
	if q.Distinct {
		words = append(words, "distinct")
	}
	for _, name := range q.Vars {
		// What is no variable is wrong before the query is.
		if !rules.MaySlot(variable(name)) {
			return "", false
		}
		words = append(words, "?"+name)
	}
	for i, l := range q.Body {
		part, e := rules.PartText(l)
		if e != api.OK {
			return "", false
		}
		words = append(words, []string{"{", ","}[min(i, 1)]+part)
	}
	return strings.Join(words, " ") + "}", len(q.Body) > 0 && !(q.Ask && (q.Distinct || len(q.Vars) > 0))
}

// names are names of variables.
func names() []string {
	l := []string{"a", "Z", "x1", "y9Z", "not", "ask", "select", "distinct", "where", "prefix", "ASK", strings.Repeat("n", 31), strings.Repeat("n", 32), "N" + strings.Repeat("9", 31)}
	return append(l, many(20)...)
}

// many are n names.
func many(n int) []string {
	var l []string
	for i := range n {
		l = append(l, fmt.Sprint("v", i))
	}
	return l
}

// noNames are not names of variables.
func noNames() []string {
	l := []string{"", strings.Repeat("n", 33), strings.Repeat("n", 100000), "1", "1a", "?x", "x y", "x-y", "x_y", "x:", "_:x", "a\n", " a", "é", "aé", "a\x00", "\xff", "а"}
	for r := range 256 {
		isLetter := r >= 'a' && r <= 'z' || r >= 'A' && r <= 'Z'
		if isDigit := r >= '0' && r <= '9'; !isLetter && !isDigit {
			l = append(l, "a"+string([]byte{byte(r)}))
		}
		if !isLetter {
			l = append(l, string([]byte{byte(r)})+"a")
		}
	}
	return l
}

// some are valid terms of all kinds.
func some() []api.Term {
	return []api.Term{iri("a"), iri(api.SameAs), iri("é€😀"), iri(strings.Repeat("i", api.MaxIRI)), blank("b"), blank(strings.Repeat("b", 64)), plain(""), plain("?x"), plain("} ask . \n"), plain(strings.Repeat("p", api.MaxText)), lang("", "en"), lang("a", "en-us-1"), lang(strings.Repeat("\x01", api.MaxText), strings.Repeat("l", 35)), typed("", "t"), typed("1", "http://x"), typed(strings.Repeat("\"", api.MaxText), strings.Repeat("é", api.MaxIRI/2))}
}

// invalid are slots that are not valid.
func invalid() []api.Slot {
	l := []api.Slot{{}, {Var: "x", Term: iri("a")}, {Var: "x", Term: api.Term{Extra: "en"}}, variable("1"), variable(strings.Repeat("n", 33))}
	for _, x := range []api.Term{{Text: "a"}, {Kind: 6, Text: "a"}, {Kind: -1}, iri(""), iri("a b"), iri(strings.Repeat("i", api.MaxIRI+1)), blank("1"), plain("\xff"), plain(strings.Repeat("p", api.MaxText+1)), lang("a", "EN"), typed("a", api.XSDString)} {
		l = append(l, constant(x))
	}
	return l
}

// parts are parts that may stand behind xpy.
func parts() []api.Lit {
	return []api.Lit{xpy, abc, holds(x, x, x), same(x, y), same(a, a), same(x, a), unlike(y, x), unlike(a, b), unlike(one, y)}
}

// TestBodies: no part, one, many, and too many.
func TestBodies(t *testing.T) {
	if api.MaxBody != 64 {
		t.Fatal(api.MaxBody)
	}
	for _, body := range [][]api.Lit{nil, {}} {
		wantMay(t, ask(body...), false)
		wantMay(t, choose("x", body...), false)
		wantMay(t, once(choose("x", body...)), false)
	}
	for _, l := range parts() {
		for n := range 67 {
			body := append([]api.Lit{xpy}, slices.Repeat([]api.Lit{l}, n)...)
			wantMay(t, ask(body...), n+1 <= 64)
			wantMay(t, choose("x", body...), n+1 <= 64)
			wantMay(t, once(choose("y x", body...)), n+1 <= 64)
			slices.Reverse(body)
			wantMay(t, choose("y", body...), n+1 <= 64)
		}
		wantMay(t, ask(append([]api.Lit{xpy}, slices.Repeat([]api.Lit{l}, 5000)...)...), false)
	}
	wantMay(t, ask(xpy), true)
	wantMay(t, choose("x", xpy), true)
	// One part that is a condition, on no variables.
	wantMay(t, ask(same(a, a)), true)
	wantMay(t, ask(unlike(a, a)), true)
	wantMay(t, ask(slices.Repeat([]api.Lit{same(a, b)}, 64)...), true)
	wantMay(t, ask(slices.Repeat([]api.Lit{same(a, b)}, 65)...), false)
}

// wantPart checks whether l may be a part of a query, at each place.
func wantPart(t *testing.T, l api.Lit, may bool) {
	t.Helper()
	for _, body := range [][]api.Lit{{l, xpy}, {xpy, l}, {xpy, l, same(x, y)}, {same(x, y), l, xpy}, {xpy, unlike(x, a), abc, l}} {
		wantMay(t, ask(body...), may)
		wantMay(t, choose("x", body...), may)
		wantMay(t, once(choose("y x", body...)), may)
	}
}

// TestParts: parts of each Kind, a Not among them, and what is no part.
func TestParts(t *testing.T) {
	for _, l := range parts() {
		wantPart(t, l, true)
		for _, kind := range []api.LitKind{-1, 0, 5, 6, 1 << 40} {
			l.Kind = kind
			wantPart(t, l, false)
		}
	}
	for _, l := range []api.Lit{not(x, p, y), not(a, b, c), not(x, x, y)} {
		wantPart(t, l, false)
		wantMay(t, ask(l), false)
		for i := range 64 {
			body := slices.Repeat([]api.Lit{xpy}, 64)
			body[i] = l
			wantMay(t, ask(body...), false)
			wantMay(t, choose("x", body...), false)
		}
	}
	for kind := range api.LitKind(7) {
		wantPart(t, api.Lit{Kind: kind}, false)
		wantPart(t, api.Lit{Kind: kind, Pattern: xpy.Pattern, A: x, B: y}, false)
		wantPart(t, api.Lit{Kind: kind, Pattern: xpy.Pattern}, kind == api.Holds)
		wantPart(t, api.Lit{Kind: kind, A: x, B: y}, kind == api.Same || kind == api.Unlike)
		wantPart(t, api.Lit{Kind: kind, A: x}, false)
		wantPart(t, api.Lit{Kind: kind, B: y}, false)
		wantPart(t, api.Lit{Kind: kind, Pattern: xpy.Pattern, A: a}, false)
		wantPart(t, api.Lit{Kind: kind, Pattern: xpy.Pattern, B: a}, false)
	}
}

// TestSlots: slots of all kinds, at each place.
func TestSlots(t *testing.T) {
	check := func(s api.Slot, may bool) {
		t.Helper()
		wantPart(t, holds(s, b, c), may)
		wantPart(t, holds(a, s, c), may)
		wantPart(t, holds(a, b, s), may)
		// A condition may have a variable that a pattern has.
		bound := holds(s, s, s)
		for _, l := range []api.Lit{same(s, x), same(x, s), unlike(s, x), unlike(x, s)} {
			wantMay(t, ask(xpy, l, bound), may)
			wantMay(t, ask(xpy, l), may && s.Var == "")
			wantMay(t, choose("x", bound, xpy, l), may)
		}
	}
	for _, s := range names()[:14] {
		check(variable(s), true)
		check(api.Slot{Var: s, Term: iri("a")}, false)
	}
	for _, s := range noNames() {
		check(variable(s), false)
	}
	for _, s := range some() {
		check(constant(s), true)
	}
	for _, s := range invalid() {
		check(s, false)
	}
}

// TestRequested: what is requested occurs in a pattern, at any place.
func TestRequested(t *testing.T) {
	for _, one := range []struct {
		vars string
		body []api.Lit
		may  bool
	}{
		{"x", []api.Lit{holds(x, b, c)}, true},
		{"x", []api.Lit{holds(a, x, c)}, true},
		{"x", []api.Lit{holds(a, b, x)}, true},
		{"x", []api.Lit{holds(x, x, x)}, true},
		{"x", []api.Lit{abc, holds(y, p, z), holds(y, p, x)}, true},
		{"x", []api.Lit{same(y, y), same(a, a), xpy}, true},
		{"x", []api.Lit{abc}, false},
		{"x", []api.Lit{yqz}, false},
		{"x", []api.Lit{yqz, holds(z, y, constant(plain("x")))}, false},
		{"x", []api.Lit{same(x, x)}, false},
		{"x", []api.Lit{same(x, a)}, false},
		{"x", []api.Lit{abc, unlike(a, x)}, false},
		{"y", []api.Lit{yqz, same(x, y)}, false},
		{"x", []api.Lit{not(x, p, y)}, false},
		{"x", []api.Lit{yqz, not(x, p, y)}, false},
		{"X", []api.Lit{xpy}, false},
		{"X", []api.Lit{holds(variable("X"), p, x)}, true},
		{"x1", []api.Lit{xpy}, false},
		{"x y z", []api.Lit{xpy, yqz}, true},
		{"z y x", []api.Lit{xpy, yqz}, true},
		{"z x", []api.Lit{xpy, yqz}, true},
		{"x y v", []api.Lit{xpy, yqz}, false},
		{"x v z", []api.Lit{xpy, yqz}, false},
		{"v y z", []api.Lit{xpy, yqz}, false},
		{"v", []api.Lit{xpy, yqz}, false},
	} {
		wantMay(t, choose(one.vars, one.body...), one.may)
		wantMay(t, once(choose(one.vars, one.body...)), one.may)
		slices.Reverse(one.body)
		wantMay(t, choose(one.vars, one.body...), one.may)
	}
	// Names that are none, also where a pattern has them.
	for _, s := range noNames() {
		for _, l := range []api.Lit{xpy, abc, holds(variable(s), p, y), holds(x, p, constant(plain(s)))} {
			wantMay(t, api.Query{Vars: []string{s}, Body: []api.Lit{l}}, false)
			wantMay(t, api.Query{Vars: []string{"x", s}, Body: []api.Lit{xpy, l}}, false)
		}
	}
	for _, s := range names() {
		wantMay(t, choose(s, holds(a, variable(s), c)), true)
		wantMay(t, choose(s, abc), false)
	}
}

// TestConditions: what occurs in a condition occurs in a pattern, at any place, whatever is requested.
func TestConditions(t *testing.T) {
	v := variable("v")
	for _, on := range []func(a, b api.Slot) api.Lit{same, unlike} {
		for _, bound := range []api.Slot{x, y, z, a, one} {
			for _, l := range []api.Lit{on(bound, x), on(z, bound), on(bound, bound)} {
				for _, body := range [][]api.Lit{{l, xpy, yqz}, {xpy, l, yqz}, {xpy, yqz, l}, {on(x, z), yqz, l, xpy, l}} {
					wantMay(t, ask(body...), true)
					wantMay(t, choose("x", body...), true)
				}
			}
			for _, l := range []api.Lit{on(bound, v), on(v, bound), on(v, v)} {
				for _, body := range [][]api.Lit{{l, xpy, yqz}, {xpy, l, yqz}, {xpy, yqz, l}, {on(x, z), yqz, l, xpy, on(y, y)}} {
					wantMay(t, ask(body...), false)
					wantMay(t, choose("x", body...), false)
					wantMay(t, choose("x v", body...), false)
					wantMay(t, choose("x", append(body, not(v, p, y))...), false)
					wantMay(t, choose("x", append(body, on(v, v))...), false)
					wantMay(t, choose("x", append(body, holds(v, p, y))...), true)
					wantMay(t, choose("x", append(body, holds(a, v, c))...), true)
					wantMay(t, choose("x v", append(body, holds(a, b, v))...), true)
					wantMay(t, ask(append([]api.Lit{holds(v, v, v)}, body...)...), true)
				}
			}
		}
	}
	wantMay(t, choose("x", xpy, same(x, variable("Y"))), false)
	wantMay(t, ask(same(x, y)), false)
	wantMay(t, ask(same(x, x)), false)
}

// wide is a body with the variables of many(192).
func wide() []api.Lit {
	var body []api.Lit
	for l := range slices.Chunk(many(192), 3) {
		body = append(body, holds(variable(l[0]), variable(l[1]), variable(l[2])))
	}
	return body
}

// TestCounts: no variable, one, many, and too many.
func TestCounts(t *testing.T) {
	if api.MaxVars != 32 {
		t.Fatal(api.MaxVars)
	}
	for n := range 193 {
		q := choose(strings.Join(many(n), " "), wide()...)
		wantMay(t, q, n > 0 && n <= 32)
		wantMay(t, once(q), n > 0 && n <= 32)
	}
	wantMay(t, choose(strings.Join(many(192)[160:], " "), wide()...), true)
	wantMay(t, choose(strings.Join(many(192)[159:], " "), wide()...), false)
	wantMay(t, choose(strings.Repeat("x ", 100000), xpy), false)
	for _, vars := range [][]string{nil, {}} {
		for _, body := range [][]api.Lit{{xpy}, {abc}, {same(a, a)}} {
			wantMay(t, api.Query{Ask: true, Vars: vars, Body: body}, true)
			wantMay(t, api.Query{Vars: vars, Body: body}, false)
			wantMay(t, api.Query{Distinct: true, Vars: vars, Body: body}, false)
		}
	}
	wantMay(t, api.Query{}, false)
	wantMay(t, api.Query{Ask: true}, false)
}

// TestTwice: the same variable at each two places.
func TestTwice(t *testing.T) {
	for _, n := range []int{2, 3, 32} {
		for i := range n {
			for k := range i {
				vars := many(n)
				vars[k] = vars[i]
				q := api.Query{Vars: vars, Body: wide()}
				wantMay(t, q, false)
				wantMay(t, once(q), false)
			}
		}
	}
	wantMay(t, choose("x x x", xpy), false)
	wantMay(t, choose("x y x y", xpy), false)
	wantMay(t, choose("x X", holds(x, p, variable("X"))), true)
}

// TestAsk: Ask requests nothing, and is not Distinct.
func TestAsk(t *testing.T) {
	for _, body := range [][]api.Lit{{xpy}, {xpy, unlike(x, y)}, {yqz, xpy}} {
		wantMay(t, ask(body...), true)
		wantMay(t, once(ask(body...)), false)
		wantMay(t, choose("x", body...), true)
		wantMay(t, once(choose("x", body...)), true)
		wantMay(t, choose("", body...), false)
		wantMay(t, once(choose("", body...)), false)
		for _, vars := range []string{"x", "x y", "y", "v", "x x"} {
			q := choose(vars, body...)
			q.Ask = true
			wantMay(t, q, false)
			wantMay(t, once(q), false)
		}
		wantMay(t, api.Query{Ask: true, Vars: []string{""}, Body: body}, false)
	}
}

// everything is a query with parts of each Kind, a Not among them.
func everything() api.Query {
	return api.Query{Distinct: true, Vars: []string{"x", "y", "z"}, Body: []api.Lit{
		holds(x, constant(iri("p")), constant(lang("s", "en"))), same(x, constant(typed("2", "t"))), unlike(constant(iri("i")), y), not(constant(blank("b")), y, constant(plain("l"))), holds(y, p, z)}}
}

// slotChanges are changes of one place of a slot.
func slotChanges() []func(*api.Slot) {
	return []func(*api.Slot){
		func(s *api.Slot) { s.Var += "v" },
		func(s *api.Slot) { s.Term.Kind++ },
		func(s *api.Slot) { s.Term.Text += "t" },
		func(s *api.Slot) { s.Term.Extra += "e" },
	}
}

// places are all slots of a query, also those that are not of the Kinds of its parts.
func places(q *api.Query) []*api.Slot {
	var l []*api.Slot
	for i := range q.Body {
		part := &q.Body[i]
		l = append(l, &part.Pattern[0], &part.Pattern[1], &part.Pattern[2], &part.A, &part.B)
	}
	return l
}

// wantSame checks Same of a and b, in both orders.
func wantSame(t *testing.T, a, b api.Query, want bool) {
	t.Helper()
	if queries.Same(a, b) != want || queries.Same(b, a) != want {
		t.Errorf("Same(%s, %s) is not %t", shown(a), shown(b), want)
	}
}

// wantChanged checks that a query that differs in one place is another one.
func wantChanged(t *testing.T, change func(*api.Query)) {
	t.Helper()
	one, two := everything(), everything()
	change(&one)
	wantSame(t, everything(), one, false)
	change(&two)
	wantSame(t, one, two, true)
}

// TestSame: two queries that differ in one place, for each place, and two that don't.
func TestSame(t *testing.T) {
	wantSame(t, everything(), everything(), true)
	wantSame(t, api.Query{}, api.Query{}, true)
	wantSame(t, api.Query{}, api.Query{Vars: []string{}, Body: []api.Lit{}}, true)
	wantSame(t, ask(xpy), api.Query{Ask: true, Vars: []string{}, Body: []api.Lit{xpy}}, true)
	wantSame(t, api.Query{}, everything(), false)
	wantChanged(t, func(q *api.Query) { q.Ask = true })
	wantChanged(t, func(q *api.Query) { q.Distinct = false })
	wantChanged(t, func(q *api.Query) { q.Vars = nil })
	wantChanged(t, func(q *api.Query) { q.Body = nil })
	wantSame(t, api.Query{Ask: true}, api.Query{Distinct: true}, false)
	wantSame(t, api.Query{Ask: true}, api.Query{}, false)
	for i := range everything().Vars {
		wantChanged(t, func(q *api.Query) { q.Vars[i] += "v" })
		wantChanged(t, func(q *api.Query) { q.Vars[i] = strings.ToUpper(q.Vars[i]) })
		wantChanged(t, func(q *api.Query) { q.Vars = q.Vars[:i] })
		wantChanged(t, func(q *api.Query) { q.Vars = slices.Delete(q.Vars, i, i+1) })
		wantChanged(t, func(q *api.Query) { q.Vars = slices.Insert(q.Vars, i, "x") })
		if i > 0 {
			wantChanged(t, func(q *api.Query) { q.Vars[0], q.Vars[i] = q.Vars[i], q.Vars[0] })
		}
	}
	for i := range everything().Body {
		wantChanged(t, func(q *api.Query) { q.Body[i].Kind++ })
		wantChanged(t, func(q *api.Query) { q.Body = q.Body[:i] })
		wantChanged(t, func(q *api.Query) { q.Body = slices.Delete(q.Body, i, i+1) })
		wantChanged(t, func(q *api.Query) { q.Body = slices.Insert(q.Body, i, abc) })
		if i > 0 {
			wantChanged(t, func(q *api.Query) { q.Body[0], q.Body[i] = q.Body[i], q.Body[0] })
		}
	}
	for i := range places(new(everything())) {
		for _, change := range slotChanges() {
			wantChanged(t, func(q *api.Query) { change(places(q)[i]) })
		}
	}
	// Names count, not what they stand for; so does the order.
	wantSame(t, choose("x", holds(x, p, a)), choose("y", holds(y, p, a)), false)
	wantSame(t, choose("x y", xpy), choose("y x", xpy), false)
	wantSame(t, ask(xpy, abc), ask(abc, xpy), false)
	wantSame(t, ask(xpy, same(x, y)), ask(xpy, same(y, x)), false)
	// Also many, and what is not valid.
	long := slices.Repeat([]api.Lit{xpy}, 5000)
	wantSame(t, ask(long...), ask(slices.Clone(long)...), true)
	wantSame(t, ask(long...), ask(long[1:]...), false)
	wantSame(t, ask(api.Lit{Kind: 7}), ask(api.Lit{Kind: 8}), false)
}

// clone is a copy that is built apart from Copy.
func clone(q api.Query) api.Query {
	return api.Query{Ask: q.Ask, Distinct: q.Distinct, Vars: slices.Clone(q.Vars), Body: slices.Clone(q.Body)}
}

// TestCopy: a copy is the same, and stays so whatever becomes of the first one.
func TestCopy(t *testing.T) {
	long := choose(strings.Join(many(1000), " "), slices.Repeat(parts(), 1000)...)
	bad := api.Query{Ask: true, Distinct: true, Vars: []string{"", "1"}, Body: []api.Lit{{Kind: 9}, {}}}
	for _, first := range []api.Query{{}, {Vars: []string{}, Body: []api.Lit{}}, ask(xpy), choose("x", xpy), once(choose("x y", xpy)), everything(), bad, long, {Ask: true}, {Distinct: true}} {
		kept := clone(first)
		second := queries.Copy(first)
		if !equal(second, kept) || !equal(first, kept) {
			t.Errorf("Copy(%s) = %s", shown(first), shown(second))
		}
		for i := range first.Vars {
			first.Vars[i] = "changed"
		}
		for i := range first.Body {
			first.Body[i] = same(z, z)
		}
		first.Ask, first.Distinct = !first.Ask, !first.Distinct
		if !equal(second, kept) {
			t.Errorf("a copy of %s became %s", shown(kept), shown(second))
		}
		third := queries.Copy(second)
		for i := range second.Vars {
			second.Vars[i] = "changed"
		}
		for i := range second.Body {
			second.Body[i].Pattern[1] = z
		}
		if !equal(third, kept) {
			t.Errorf("a copy of a copy of %s became %s", shown(kept), shown(third))
		}
	}
	// What is behind the end of a list is not shared either.
	vars, body := append(make([]string, 0, 4), "x"), append(make([]api.Lit, 0, 4), xpy)
	second := queries.Copy(api.Query{Vars: vars, Body: body})
	vars, body = append(vars, "y"), append(body, abc)
	_, _ = append(second.Vars, "z"), append(second.Body, same(x, y))
	if vars[1] != "y" || body[1] != abc {
		t.Error(vars, shown(body))
	}
}

// TestText: the text of ask and select, and of parts of each Kind.
func TestText(t *testing.T) {
	wantText(t, "ask where { (?x <p> ?y) }", ask(xpy))
	wantText(t, "select ?x where { (?x <p> ?y) }", choose("x", xpy))
	wantText(t, "select distinct ?x where { (?x <p> ?y) }", once(choose("x", xpy)))
	wantText(t, "select ?y ?x where { (?x <p> ?y) }", choose("y x", xpy))
	wantText(t, "select distinct ?z ?x ?y where { (?x <p> ?y), (?y <q> ?z) }", once(choose("z x y", xpy, yqz)))
	wantText(t, "ask where { <a> = <b> }", ask(same(a, b)))
	wantText(t, "ask where { <a> != \"1\" }", ask(unlike(a, one)))
	wantText(t, "ask where { (<a> <b> <c>) }", ask(abc))
	wantText(t, "ask where { ?x = ?y, (?x <p> ?y), ?y != _:b, (<a> <b> <c>), \"1\"@en = \"1\"^^<t> }", ask(same(x, y), xpy, unlike(y, constant(blank("b"))), abc, same(constant(lang("1", "en")), constant(typed("1", "t")))))
	wantText(t, `select ?where ?select where { (?where ?select "a\"} \\\n\u0001") }`, choose("where select", holds(variable("where"), variable("select"), constant(plain("a\"} \\\n\x01")))))
	wantText(t, "select ?distinct ?ask where { (?ask ?distinct ?prefix) }", choose("distinct ask", holds(variable("ask"), variable("distinct"), variable("prefix"))))

	l := many(32)
	wantText(t, "select ?"+strings.Join(l, " ?")+" where { (?v0 ?v1 ?v2)"+wideText()+" }", choose(strings.Join(l, " "), wide()...))
	wantText(t, "select distinct ?"+strings.Join(l, " ?")+" where { (?v0 ?v1 ?v2)"+wideText()+" }", once(choose(strings.Join(l, " "), wide()...)))
	wantText(t, "ask where { (?v0 ?v1 ?v2)"+wideText()+" }", ask(wide()...))
	text := ", (?x <p> ?y), (<a> <b> <c>), (?x ?x ?x), ?x = ?y, <a> = <a>, ?x = <a>, ?y != ?x, <a> != <b>, \"1\" != ?y"
	wantText(t, "ask where { "+strings.Repeat(text, 7)[2:]+" }", ask(slices.Repeat(parts(), 7)...))

	// The chapter's example.
	want := "select ?s where { (?s <p> ?o), ?o != \"1\" }"
	s, o := variable("s"), variable("o")
	wantText(t, want, choose("s", holds(s, p, o), unlike(o, one)))
	wantQuery(t, `SELECT ?s { (?s <p> ?o), ?o != "1" }`, choose("s", holds(s, p, o), unlike(o, one)))
	wantWrong(t, "ask where { ?x = ?y }", 0)
}

// wideText is the text of wide behind its first part.
func wideText() string {
	var s string
	for l := range slices.Chunk(many(192)[3:], 3) {
		s += ", (?" + strings.Join(l, " ?") + ")"
	}
	return s
}

// filler returns a slot whose text has n bytes in quotes, 20000 at most.
func filler(n int) api.Slot {
	// What is escaped has one byte, and six in the text.
	escaped := max(0, n-api.MaxText+4) / 5
	return constant(plain(strings.Repeat("\x01", escaped) + strings.Repeat("s", n-6*escaped)))
}

// sized returns q with a body whose text has so many bytes that that of q has n, some hundred thousand at least.
func sized(q api.Query, n int) api.Query {
	const count = 60
	q.Body = []api.Lit{xpy}
	for range count {
		q.Body = append(q.Body, same(x, constant(plain(""))))
	}
	text, _ := queries.Text(q)
	n -= len(text)
	for i := range count {
		fill := n / (count - i)
		q.Body[1+i].B = filler(fill)
		n -= fill
	}
	return q
}

// TestLongText: a text has at most MaxSource bytes.
func TestLongText(t *testing.T) {
	if api.MaxSource != 1<<20 {
		t.Fatal(api.MaxSource)
	}
	wantLong := func(q api.Query) {
		t.Helper()
		if s, e := queries.Text(q); s != "" || e != api.ErrLong || !queries.May(q) {
			t.Errorf("Text(%s) = %d bytes, %v; want ErrLong", shown(q), len(s), e)
		}
	}
	for _, q := range []api.Query{ask(), choose("x"), choose("y x"), once(choose("x"))} {
		most := sized(q, api.MaxSource)
		s, e := queries.Text(most)
		if len(s) != api.MaxSource || e != api.OK {
			t.Fatal(len(s), e)
		}
		wantQuery(t, s, most)
		if s, e := queries.Text(sized(q, api.MaxSource-1)); len(s) != api.MaxSource-1 || e != api.OK {
			t.Error(len(s), e)
		}
		for _, more := range []int{1, 2, 10, 100000} {
			long := sized(q, api.MaxSource+more)
			wantLong(long)
			// What is not valid comes first.
			wantMay(t, ask(append(long.Body, same(x, z))...), false)
			wantMay(t, choose("z", long.Body...), false)
			wantMay(t, choose("x", append([]api.Lit{{}}, long.Body...)...), false)
			wantMay(t, api.Query{Body: long.Body}, false)
		}
	}
	great := constant(typed(strings.Repeat("\x01", api.MaxText), strings.Repeat("i", api.MaxIRI)))
	wantLong(ask(slices.Repeat([]api.Lit{holds(great, great, great)}, 64)...))
	if s, e := queries.Text(ask(holds(great, great, great))); len(s) != 3*(6*api.MaxText+api.MaxIRI+6)+4+14 || e != api.OK {
		t.Error(len(s), e)
	}
}

// TestParse: queries with all that may stand between, with 'where' and without, in capital and small letters.
func TestParse(t *testing.T) {
	for _, s := range []string{
		"ask where { (?x <p> ?y) }", "ask { (?x <p> ?y) }", "ask{(?x<p>?y)}", "ASK WHERE{(?x<p>?y)}", "Ask Where { (?x <p> ?y) }", "aSK wHERE {(?x <p> ?y)}",
		"ask#{\nwhere#\n{#}\n(#\n?x<p>#\n?y)#\n}#", " \t\r\n ask\twhere\r\n{\n( ?x\t<p>\n?y )\r}\n", "prefix a: <x> . ask { (?x <p> ?y) }",
	} {
		wantQuery(t, s, ask(xpy))
	}
	for _, s := range []string{
		"select ?x ?y where { (?x <p> ?y) }", "select ?x ?y { (?x <p> ?y) }", "select?x?y{(?x<p>?y)}", "SELECT ?x ?y WHERE{(?x <p> ?y)}", "Select ?x\n?y wHere {(?x <p> ?y)}", "sELECT#?z\n?x#?z\n?y#{\n{ (?x <p> ?y) }# }",
	} {
		wantQuery(t, s, choose("x y", xpy))
	}
	for _, s := range []string{
		"select distinct ?x where { (?x <p> ?y) }", "select distinct ?x { (?x <p> ?y) }", "SELECT DISTINCT ?x { (?x <p> ?y) }", "Select Distinct?x{(?x<p>?y)}", "select#\ndiSTINCT#\n?x WHERE { (?x <p> ?y) }",
	} {
		wantQuery(t, s, once(choose("x", xpy)))
	}
	wantQuery(t, "ask { ?x = ?y, (?x <p> ?y) }", ask(same(x, y), xpy))
	wantQuery(t, "ask{?x=?y,(?x<p>?y),?x!=?y}", ask(same(x, y), xpy, unlike(x, y)))
	wantQuery(t, "ask { (<a> <b> <c>), (<a> <b> <c>) }", ask(abc, abc))
	wantQuery(t, `select ?y { ("1" "2"@en ?y), "1" ^^ <t> != _:b, "1"^^<`+api.XSDString+`> = "\u0031" }`, choose("y", holds(one, constant(lang("2", "en")), y), unlike(constant(typed("1", "t")), constant(blank("b"))), same(one, one)))
	wantQuery(t, `ask { "a" = "b" @en, "c"@de != "}" }`, ask(same(constant(plain("a")), constant(lang("b", "en"))), unlike(constant(lang("c", "de")), constant(plain("}")))))
	wantQuery(t, "select ?where ?distinct where { (?where ?distinct ?select) }", choose("where distinct", holds(variable("where"), variable("distinct"), variable("select"))))
	wantQuery(t, "select ?X ?x { (?X ?x ?X) }", choose("X x", holds(variable("X"), x, variable("X"))))
	wantQuery(t, "select ?"+strings.Join(many(32), "?")+"{(?v0 ?v1 ?v2)"+wideText()+"}", choose(strings.Join(many(32), " "), wide()...))
	wantQuery(t, "ask{"+strings.Repeat("(<a><b><c>),", 63)+"(<a><b><c>)}", ask(slices.Repeat([]api.Lit{abc}, 64)...))
}

// TestPrefixes: a word stands for what its last 'prefix' line says.
func TestPrefixes(t *testing.T) {
	has := func(l ...string) api.Query {
		var body []api.Lit
		for _, s := range l {
			body = append(body, holds(x, constant(iri(s)), y))
		}
		return ask(body...)
	}
	wantQuery(t, "prefix a: <x> . ask { (?x a: ?y) }", has("x"))
	wantQuery(t, "prefix a: <x> . ask { (?x a:b ?y), (?x a: ?y) }", has("xb", "x"))
	wantQuery(t, "prefix : <x#> . ask { (?x : ?y), (?x :b ?y) }", has("x#", "x#b"))
	wantQuery(t, "prefix a:<x>.prefix :<y>.prefix b:<z>.ask{(?x a:c ?y),(?x :c ?y),(?x b:c ?y)}", has("xc", "yc", "zc"))
	wantQuery(t, "prefix a: <x> . prefix a: <y> . ask { (?x a:b ?y) }", has("yb"))
	wantQuery(t, "prefix : <x> . prefix a: <z> . prefix : <y> . ask { (?x :b ?y), (?x a:b ?y) }", has("yb", "zb"))
	wantQuery(t, "PREFIX a: <x> . Prefix b: <y> . pReFiX c: <z> . ask { (?x b:c-_1 ?y) }", has("yc-_1"))
	wantQuery(t, "prefix prefix: <x> . prefix ask: <y> . prefix where: <z> . ask where { (?x prefix:a ?y), (?x ask:a ?y), (?x where:a ?y) }", has("xa", "ya", "za"))
	wantQuery(t, "prefix # a:\n a: # <y>\n <x> # .\n . ask { (?x a:b ?y) }", has("xb"))
	wantQuery(t, "prefix A: <x> . prefix a: <y> . ask { (?x A:b ?y), (?x a:b ?y) }", has("xb", "yb"))
	wantQuery(t, `prefix a: <\u0061\U0001F600> . ask { (?x a:b ?y) }`, has("a😀b"))
	wantQuery(t, "prefix a: <x> . select ?x where { (?x a:p \"1\"^^a:t), ?x != a:, a:b = \"2\" ^^ a: }", choose("x", holds(x, constant(iri("xp")), constant(typed("1", "xt"))), unlike(x, constant(iri("x"))), same(constant(iri("xb")), constant(typed("2", "x")))))
	wantQuery(t, "prefix xsd: <http://www.w3.org/2001/XMLSchema#> . ask { (<a> <p> \"1\"^^xsd:string) }", ask(holds(a, p, one)))
	word := strings.Repeat("w", 32)
	wantQuery(t, "prefix "+word+": <x> . ask { (?x "+word+":"+strings.Repeat("n", 64)+" ?y) }", has("x"+strings.Repeat("n", 64)))
	great := strings.Repeat("i", api.MaxIRI)
	wantQuery(t, "prefix a: <"+great+"> . ask { (?x a: ?y) }", has(great))
	wantQuery(t, "prefix a: <"+great[1:]+"> . ask { (?x a:b ?y) }", has(great[1:]+"b"))
	wantWrong(t, "prefix a: <"+great+"> . ask { (?x a:b ?y) }", 1021)
	wantQuery(t, strings.Repeat("prefix a: <x> . ", 5000)+"prefix a: <y> . ask { (?x a:b ?y) }", has("yb"))

	// A name stands for nothing without its 'prefix' line, nor in another text.
	wantWrong(t, "ask { (?x a:b ?y) }", 6)
	wantWrong(t, "ask { (?x a:b ?y) } prefix a: <x> .", 6)
	wantWrong(t, "ask { (?x <p> ?y) } prefix a: <x> .", 20)
	wantWrong(t, "prefix a: <x> . ask { (?x :b ?y) }", 22)
	wantWrong(t, "prefix : <x> . ask { (?x a:b ?y) }", 21)
	wantWrong(t, "prefix ab: <x> . ask { (?x <p> ?y), a:b = ?x }", 36)
	wantWrong(t, "prefix a: <x> . ask { (?x <p> ?y), ?x = A:b }", 35)
	wantWrong(t, "prefix A: <x> . ask { (?x a:b ?y) }", 22)
	wantWrong(t, "prefix a: b: . prefix b: <x> . ask { (?x a:b ?y) }", 10)
	wantWrong(t, "ask prefix a: <x> . { (?x a:b ?y) }", 4)
	wantWrong(t, "ask { prefix a: <x> . (?x a:b ?y) }", 6)
	wantWrong(t, "select ?x prefix a: <x> . { (?x a:b ?y) }", 10)
}

// TestPrefixLines: something else where a name, an IRI or a '.' is due, or nothing.
func TestPrefixLines(t *testing.T) {
	const line = "prefix a1: <x> . "
	const query = " ask { (?x <p> ?y) }"
	check := func(before string, l []string, behind string) {
		t.Helper()
		for _, s := range l {
			for _, first := range []string{"", line, "# prefix\n"} {
				wantWrong(t, first+before+s, len(first+before))
				wantWrong(t, first+before+s+behind+query, len(first+before))
				wantWrong(t, first+before+s+query, len(first+before))
			}
		}
		wantWrong(t, before, len(before))
		wantWrong(t, before+"# \n", len(before)+3)
		wantWrong(t, line+before, len(line+before))
	}
	check("prefix ", []string{".", "(", "<x>", "a", "ask", "?a", "_:a", `"a"`, `"a:"`, "@a", "a:b", ":b", "a:_", ":-", "prefix", "not", "{", "}"}, " <x> .")
	check("PREFIX a: ", []string{".", "a:", "b", "b:c", ":", "?b", "_:b", `"b"`, `"b"@en`, "(", "prefix", "ask", "{"}, " .")
	check("prefix : <x> ", []string{"<y>", "a:", ",", ":-", "=", "!=", "(", ")", "{", "}", "^^", "prefix", "?x", `"x"`, `"."`, "ask", "select"}, " .")
	wantWrong(t, "prefix <x> . ask { (?x <p> ?y) }", 7)
	wantWrong(t, "prefix a: . ask { (?x <p> ?y) }", 10)
	wantWrong(t, "prefix a: <x> ask { (?x <p> ?y) }", 14)
	wantWrong(t, "prefix a: <x> .. ask { (?x <p> ?y) }", 15)
	wantWrong(t, "prefix: <x> . ask { (?x <p> ?y) }", 0)
	wantWrong(t, "prefixes a: <x> . ask { (?x <p> ?y) }", 0)
	wantWrong(t, "base <x> . ask { (?x <p> ?y) }", 0)
}

// symbols are symbols of all kinds, but for those that are named.
func symbols(without ...string) []string {
	all := []string{".", ",", "=", "!=", ":-", "^^", "(", ")", "{", "}", "a", "not", "NOT", "prefix", "ask", "ASK", "select", "distinct", "where", "Where", "@en", ":", ":a", "a:", "a:b", "ask:", "where:b", "?x", "?y", "?ask", "<a>", "_:a", `"a"`, `"ask"`, `"where"`, `"{"`, `","`, `"}"`, `"` + strings.Repeat("s", api.MaxText+1) + `"`}
	return slices.DeleteFunc(all, func(s string) bool { return slices.Contains(without, strings.ToLower(s)) })
}

// wantDue checks that each of these symbols is wrong behind what stands before it, whatever is behind it, and so is the end.
func wantDue(t *testing.T, before string, l []string, behind string) {
	t.Helper()
	for _, s := range l {
		for _, first := range []string{"", "prefix a1: <x> . "} {
			wantWrong(t, first+before+s, len(first+before))
			wantWrong(t, first+before+s+" "+behind, len(first+before))
			wantWrong(t, first+before+s+" { (?x <p> ?y) }", len(first+before))
			wantWrong(t, first+before+s+" (?x <p> ?y) }", len(first+before))
		}
	}
	wantWrong(t, before, len(before))
	wantWrong(t, before+" # }\n ", len(before)+6)
	wantWrong(t, "# é\nprefix : <x> . "+before, 20+len(before))
}

// TestWrong: each place before the body where something else is due.
func TestWrong(t *testing.T) {
	const body = "{ (?x <p> ?y) }"
	// 'ask' or 'select'.
	wantDue(t, "", symbols("prefix", "ask", "select"), "?x "+body)
	for _, s := range []string{"askk", "as", "selec", "selects", "asks where", "construct", "describe"} {
		wantDue(t, "", []string{s}, body)
	}
	// 'where' or '{'.
	for _, s := range []string{"ask ", "ASK "} {
		wantDue(t, s, symbols("where", "{"), body)
	}
	// A variable, 'where' or '{'; behind 'select' alone also 'distinct'.
	wantDue(t, "select ", symbols("distinct", "where", "{", "?x", "?y", "?ask"), body)
	for _, s := range []string{"select distinct ", "select ?x ", "select ?x ?y ", "SELECT DISTINCT ?x ", "select " + strings.Repeat("?x ", 1000)} {
		wantDue(t, s, symbols("where", "{", "?x", "?y", "?ask"), body)
	}
	wantWrong(t, "select ?x, ?y { (?x <p> ?y) }", 9)
	wantWrong(t, "select distinct distinct ?x { (?x <p> ?y) }", 16)
	wantWrong(t, "select ?x distinct { (?x <p> ?y) }", 10)
	wantWrong(t, "select * { (?x <p> ?y) }", 7)
	wantWrong(t, "select ask { (?x <p> ?y) }", 7)
	wantWrong(t, "ask select ?x { (?x <p> ?y) }", 4)
	wantWrong(t, "ask ?x { (?x <p> ?y) }", 4)
	wantWrong(t, "ask distinct { (?x <p> ?y) }", 4)
	wantWrong(t, "distinct select ?x { (?x <p> ?y) }", 0)
	// '{'.
	for _, s := range []string{"ask where ", "select where ", "select ?x where ", "select distinct ?x ?y WHERE "} {
		wantDue(t, s, symbols("{"), body)
	}
	wantWrong(t, "ask (?x <p> ?y) }", 4)
	wantWrong(t, "ask where (?x <p> ?y)", 10)
	wantWrong(t, "ask {{ (?x <p> ?y) }}", 5)
}

// noPart are symbols with which no part begins, if there is no prefix.
func noPart() []string {
	return symbols("(", "not", "?x", "?y", "?ask", "<a>", "_:a", `"a"`, `"ask"`, `"where"`, `"{"`, `","`, `"}"`)
}

// TestWrongBody: each place in the body where something else is due, or nothing.
func TestWrongBody(t *testing.T) {
	begins := []string{"ask { ", "ask where { ", "select ?x { ", "select { ", "select distinct ?x ?x where { ", "ask { (?x <p> ?y), ", "ask { ?z = ?z , ", "ask { not (?x <p> ?y), ", "select ?x { (<a> <b> <c>), <a> = <b>, "}
	for _, before := range begins {
		// A part; without it there is neither '}' nor ','.
		wantDue(t, before, noPart(), " }")
		// What is begun as a part, and is none, is wrong where it begins.
		for _, s := range []string{"(", "()", "( }", "(?x", "(?x <p>", "(?x <p>)", "(?x <p> ?y", "(?x <p> ?y }", "(?x <p> ?y, ?x = ?y", "(?x <p> ?y ?z)", "((?x <p> ?y))", "(?x a:b ?y)", "(?x not ?y)", "(not ?x <p> ?y)", "not", "not }", "not ?x = ?y", "not not (?x <p> ?y)", "not (", "not (?x <p>)", "NOT (?x <p> ?y", "?x", "?x }", "?x , ?y", "?x ?y", "?x =", "?x = }", "?x =, ?y = ?x", "?x = =", "?x = not", "?x = (?x <p> ?y)", "?x !=", "?x != }", "?x :- ?y", "?x . ?y", "?x <p> ?y", "<a>", "<a> <b> <c>", "<a> b", "_:a", "_:a )", `"a"`, `"a"@en`, `"a"^^<t>`, `"a" ^^ = ?x`, `"a" ^^ ?x`, `"a" @en @en = ?x`, "?x = a:b", "<a> = a:", `"a" ^^ a:b = ?x`} {
			wantWrong(t, before+s, len(before))
			wantWrong(t, before+s+" }", len(before))
			wantWrong(t, before+s+" , (?x <p> ?y) }", len(before))
			wantWrong(t, "prefix : <x> . "+before+s+" # }", 15+len(before))
		}
		for _, part := range []string{"(?x <p> ?y)", "not (?x <p> ?y)", "?x = ?y", "<a> != ?y", `?x = "a"@en`} {
			// '}' or ','.
			wantDue(t, before+part+" ", symbols(",", "}", "^^", "@en"), "}")
			// The end.
			wantDueAtEnd(t, before+part+" }")
		}
	}
	wantWrong(t, "ask { }", 6)
	wantWrong(t, "ask {}", 5)
	wantWrong(t, "ask {", 5)
	wantWrong(t, "ask where {\n", 12)
	wantWrong(t, "select ?x { } ", 12)
	wantWrong(t, "ask { , (?x <p> ?y) }", 6)
	wantWrong(t, "ask { (?x <p> ?y), }", 19)
	wantWrong(t, "ask { (?x <p> ?y),, ?x = ?y }", 18)
	wantWrong(t, "ask { (?x <p> ?y) . ?x = ?y }", 18)
	wantWrong(t, "ask { (?x <p> ?y) (?x <p> ?y) }", 18)
	wantWrong(t, "ask { (?x <p> ?y) ?x = ?y }", 18)
	wantWrong(t, "ask { ?x = ?y = ?z }", 14)
	wantWrong(t, `ask { ?x = "1" ^^ }`, 15)
	wantWrong(t, `ask { ?x = "1" ^^ a:b }`, 15)
	wantWrong(t, `ask { ?x = "1"@en @en }`, 18)
	wantWrong(t, "ask { (?x <p> ?y) ", 18)
	wantWrong(t, "ask { (?x <p> ?y)", 17)
	wantWrong(t, "ask { (?x <p> ?y) )", 18)
}

// wantDueAtEnd checks that nothing may stand behind a query that is complete, also if it is not valid.
func wantDueAtEnd(t *testing.T, s string) {
	t.Helper()
	for _, more := range append(symbols(), "} ask", "ask { (?x <p> ?y) }", "select ?x { (?x <p> ?y) }", "prefix a: <x> .", s) {
		wantWrong(t, s+more, len(s))
		wantWrong(t, s+" # ask\n"+more+" # ask", len(s)+7)
	}
}

// TestInvalid: a query that is not valid is wrong at its 'ask' or 'select'.
func TestInvalid(t *testing.T) {
	for _, s := range []string{
		"ask { ?x = ?y }", "ask { (?x <p> ?y), ?x = ?z }", "ask { (?x <p> ?y), ?z != ?x }", "ask { not (?x <p> ?y) }", "ask { (?x <p> ?y), not (?x <p> ?y) }", "ASK WHERE { NOT (<a> <b> <c>) }",
		"select { (?x <p> ?y) }", "select where { (?x <p> ?y) }", "SELECT DISTINCT { (?x <p> ?y) }", "select distinct where { (?x <p> ?y) }", "select ?z { (?x <p> ?y) }", "select ?x ?z { (?x <p> ?y) }", "select ?X { (?x <p> ?y) }", "select ?x ?x { (?x <p> ?y) }", "select ?x ?y ?x { (?x <p> ?y) }", "select ?x { (<a> <b> <c>), ?x = ?x }", "select ?x { (?x <p> ?y), ?v = <a> }", "select ?x { (?x <p> ?y), not (?x <p> ?y) }",
		"select ?" + strings.Join(many(33), " ?") + " { (?v0 ?v1 ?v2)" + wideText() + " }", "select" + strings.Repeat(" ?x", 5000) + " { (?x <p> ?y) }", "ask { <a> = <a>" + strings.Repeat(", <a> = <b>", 64) + " }", "ask { (?x <p> ?y)" + strings.Repeat(", ?x = ?y", 5000) + " }", "select ?x { (?x <p> ?y)" + strings.Repeat(", (?x <p> ?y)", 64) + " }",
	} {
		for _, before := range []string{"", "  ", "# ask\n", "prefix a: <x> .", "prefix a: <x> . PREFIX : <y> .\n\n# é\n"} {
			wantWrong(t, before+s, len(before))
			wantWrong(t, before+s+"\n# }", len(before))
		}
		// What is not complete is not a query yet.
		wantWrong(t, s[:len(s)-1], len(s)-1)
		wantWrong(t, s+" }", len(s)+1)
		wantWrong(t, s[:len(s)-1]+", }", len(s)+1)
	}
	wantQuery(t, "ask { <a> = <a>"+strings.Repeat(", <a> = <b>", 63)+" }", ask(append([]api.Lit{same(a, a)}, slices.Repeat([]api.Lit{same(a, b)}, 63)...)...))
}

// TestBytes: a byte where no symbol is, and texts that are not well-formed.
func TestBytes(t *testing.T) {
	for _, s := range []string{"<", "<a", "<a b>", "<>", `"`, `"a`, "\"a\nb\"", `"\q"`, "_:", "_:1", "?", "?1", "@", "@EN", "&", "1", "é", "!", "^", "*", "'a'", "[", ";", "?" + strings.Repeat("n", 33), strings.Repeat("w", 33), "a:" + strings.Repeat("n", 65), strings.Repeat("w", 33) + ":", "\x00", "\x80", "\xff", "\xc3", "\xed\xa0\x80", "\ufeff"} {
		for _, before := range []string{"", "# \n", "prefix ", "prefix a: ", "prefix a: <x> ", "prefix a: <x> . ", "ask ", "ask where ", "ask { ", "ask { (?x ", "ask { (?x <p> ?y) ", "ask { (?x <p> ?y), ", "ask { ?x = ?y } ", "ask { (?x <p> ?y) } ", "select ", "select distinct ", "select ?x ", "select ?x where { "} {
			wantWrong(t, before+s, len(before))
		}
	}
	for _, s := range []string{"# \xff", "ask { (?x <p> ?y) } # \xff", "ask { (?x <p> \"\xff\") }", "ask { (?x <\xff> ?y) }", "ask { (?x <p> ?y) }\xff", "prefix a: <\xff> .", "ask\xff", "select \xff"} {
		wantWrong(t, s, strings.Index(s, "\xff"))
	}
	// A text that has no symbols is no text of any query, so that it is wrong there first.
	wantWrong(t, "?x & ", 3)
	wantWrong(t, "ask { ?x = ?y } &", 16)
	wantWrong(t, "ask ask { \"", 10)
	wantWrong(t, "? \xff", 2)
	wantWrong(t, "& !", 0)
	for _, s := range []string{"", " ", "\t\r\n", "#", "# ask { (?x <p> ?y) }", "prefix a: <b> .", "prefix : <b> . # c\nPREFIX a:<c>.\n"} {
		wantWrong(t, s, len(s))
	}
}

// padded returns s with so many bytes behind it as to have n in all.
func padded(s string, n int) string {
	return s + strings.Repeat(" ", n-len(s))
}

// TestLongSource: a text has at most MaxSource bytes.
func TestLongSource(t *testing.T) {
	wantQuery(t, padded("ask { (?x <p> ?y) }", api.MaxSource), ask(xpy))
	wantQuery(t, padded("ask {", api.MaxSource-13)+"(?x <p> ?y) }", ask(xpy))
	wantWrong(t, padded("ask { (?x <p> ?y)", api.MaxSource), api.MaxSource)
	wantWrong(t, padded("ask { (?x <p> ?y)", api.MaxSource-1)+".", api.MaxSource-1)
	wantWrong(t, padded("", api.MaxSource), api.MaxSource)
	// As many parts, or variables, as there is room for.
	parts := "ask{(?x<p>?y)" + strings.Repeat(",?x=?y", (api.MaxSource-14)/6)
	wantWrong(t, parts+"}", 0)
	wantWrong(t, parts, len(parts))
	vars := "select" + strings.Repeat("?x", (api.MaxSource-20)/2)
	wantWrong(t, vars+"{(?x<p>?y)}", 0)
	wantWrong(t, vars, len(vars))
	for _, s := range []string{padded("", api.MaxSource+1), padded("ask { (?x <p> ?y) }", api.MaxSource+1), padded("ask {", api.MaxSource+1), padded("&", api.MaxSource+1), strings.Repeat("\xff", api.MaxSource+1), strings.Repeat("#", api.MaxSource+1), vars + strings.Repeat("?x", 100), padded("", 3*api.MaxSource)} {
		if got, at, e := queries.Parse(s); !equal(got, api.Query{}) || at != 0 || e != api.ErrLong {
			t.Errorf("Parse(%.40q), %d bytes = %s, %d, %v; want 0, ErrLong", s, len(s), shown(got), at, e)
		}
	}
}

// TestRoundTrip: what has a text is read from it, also with names and terms of their greatest length.
func TestRoundTrip(t *testing.T) {
	var slots []api.Slot
	for _, s := range names() {
		slots = append(slots, variable(s))
	}
	for _, of := range some() {
		slots = append(slots, constant(of))
	}
	for r := range rune(256) {
		slots = append(slots, constant(plain(string(r))), constant(lang(string(r)+"\"", "en")), constant(typed(string(r), "t")))
	}
	check := func(q api.Query) {
		t.Helper()
		s, e := queries.Text(q)
		if e != api.OK || strings.Contains(s, "\n") {
			t.Fatalf("Text(%s) = %.200q, %v", shown(q), s, e)
		}
		wantText(t, s, q)
		got, _, _ := queries.Parse(s)
		if again, e := queries.Text(got); again != s || e != api.OK || !queries.Same(got, q) {
			t.Errorf("%.200q became %.200q, %v", s, again, e)
		}
	}
	for _, s := range slots {
		bound := holds(s, x, y)
		for _, l := range []api.Lit{holds(s, b, c), holds(a, s, c), holds(a, b, s), holds(s, s, s), same(s, y), same(x, s), unlike(s, y), unlike(x, s)} {
			check(ask(bound, l))
			check(choose("x", l, bound))
			check(once(choose("y x", l, bound, l)))
		}
		if s.Var != "" {
			check(api.Query{Vars: []string{s.Var}, Body: []api.Lit{bound}})
		}
	}
	var body []api.Lit
	for _, s := range names()[:32] {
		body = append(body, same(variable(s), one), holds(variable(s), p, one))
	}
	check(choose(strings.Join(names()[:32], " "), body...))
	check(once(choose(strings.Join(many(32), " "), wide()...)))
	check(ask(slices.Repeat(parts(), 7)...))
}

// randomSlot returns a slot.
func randomSlot(r *rand.Rand) api.Slot {
	if r.Intn(2) == 0 {
		return variable(names()[r.Intn(len(names()))])
	}
	l := []api.Term{iri("a"), iri("x#b"), iri("x#"), iri("y"), blank("b"), plain("1"), plain("a\n\"b"), lang("a", "en"), typed("1", "x#t"), typed("1", "t")}
	return constant(l[r.Intn(len(l))])
}

// randomQuery returns a query of a few parts, which is valid.
func randomQuery(r *rand.Rand) api.Query {
	body := []api.Lit{holds(randomSlot(r), variable("p"), randomSlot(r))}
	for range r.Intn(5) {
		body = append(body, holds(randomSlot(r), randomSlot(r), randomSlot(r)))
	}
	vars := rules.Vars(body...)
	matched := func() api.Slot {
		if s := randomSlot(r); s.Var == "" {
			return s
		}
		return variable(vars[r.Intn(len(vars))])
	}
	for range r.Intn(4) {
		l := same(matched(), matched())
		l.Kind += api.LitKind(r.Intn(2))
		body = slices.Insert(body, r.Intn(len(body)+1), l)
	}
	if r.Intn(3) == 0 {
		return ask(body...)
	}
	r.Shuffle(len(vars), func(i, k int) { vars[i], vars[k] = vars[k], vars[i] })
	return api.Query{Distinct: r.Intn(2) == 0, Vars: vars[:1+r.Intn(len(vars))], Body: body}
}

// layout writes symbols with anything between.
type layout struct {
	r *rand.Rand
	s strings.Builder
}

func (w *layout) put(l ...string) {
	for _, s := range l {
		w.s.WriteString(s)
		gaps := []string{" ", "\t", "\n", "\r\n", "  ", "# } (<a> \"\n", " #é\n#\n\t"}
		w.s.WriteString(gaps[w.r.Intn(len(gaps))])
	}
}

// word writes a word in capital and small letters.
func (w *layout) word(s string) {
	b := []byte(s)
	for i := range b {
		if w.r.Intn(2) == 0 {
			b[i] -= 'a' - 'A'
		}
	}
	w.put(string(b))
}

func (w *layout) slot(s api.Slot) {
	if s.Var != "" {
		w.put("?" + s.Var)
		return
	}
	text, _ := term.Text(s.Term)
	local, ok := strings.CutPrefix(s.Term.Text, "x#")
	switch {
	case s.Term.Kind == api.Typed && s.Term.Extra == "x#t" && w.r.Intn(2) == 0:
		w.put(`"`+s.Term.Text+`"`, "^^", "a:t")
	case ok && w.r.Intn(2) == 0:
		w.put("a:" + local)
	default:
		w.put(text)
	}
}

func (w *layout) part(l api.Lit) {
	if l.Kind == api.Holds {
		w.put("(")
		for _, s := range l.Pattern {
			w.slot(s)
		}
		w.put(")")
		return
	}
	w.slot(l.A)
	w.put([]string{"=", "!="}[l.Kind-api.Same])
	w.slot(l.B)
}

func (w *layout) query(q api.Query) {
	for _, line := range []string{"b: <y#>", "a: <y#>", "a: <x#>", ": <z>"}[w.r.Intn(3):] {
		w.word("prefix")
		w.put(strings.Fields(line)...)
		w.put(".")
	}
	if q.Ask {
		w.word("ask")
	} else {
		w.word("select")
	}
	if q.Distinct {
		w.word("distinct")
	}
	for _, name := range q.Vars {
		w.put("?" + name)
	}
	if w.r.Intn(2) == 0 {
		w.word("where")
	}
	for i, l := range q.Body {
		w.put([]string{"{", ","}[min(i, 1)])
		w.part(l)
	}
	w.put("}")
}

// TestRandomQueries: queries written in any way are read as what they are.
func TestRandomQueries(t *testing.T) {
	r := rand.New(rand.NewSource(77))
	for range 5000 {
		q := randomQuery(r)
		w := &layout{r: r}
		w.query(q)
		wantQuery(t, w.s.String(), q)
		s, e := queries.Text(q)
		if e != api.OK {
			t.Fatal(shown(q), e)
		}
		wantText(t, s, q)
	}
}

// piece is the text of a symbol, or of a term, and what it may be taken for.
type piece struct{ text, class string }

var pieces = []piece{
	{"(", "("}, {")", ")"}, {",", ","}, {".", "."}, {"=", "="}, {"!=", "="}, {":-", ":-"}, {"{", "{"}, {"}", "}"},
	{"not", "not"}, {"prefix", "prefix"}, {"PREFIX", "prefix"}, {"ask", "ask"}, {"Ask", "ask"}, {"select", "select"}, {"SELECT", "select"}, {"distinct", "distinct"}, {"where", "where"}, {"WHERE", "where"}, {"a", "word"},
	{"?x", "var"}, {"?y1", "var"}, {"?z", "var"}, {"?x", "var"}, {"_:b", "term"}, {`"1"`, "term"}, {`"1"@en`, "term"}, {`"1" ^^ <t>`, "term"}, {"<a>", "iri"}, {"<b#>", "iri"}, {"a:", "bare"}, {":", "bare"}, {"a:b", "name"}, {":b", "name"},
}

// grammar has for each state what may come, and the next state.
var grammar = map[string]map[string]string{
	"item": {"prefix": "name", "ask": "where", "select": "distinct"},
	"name": {"bare": "iri"}, "iri": {"iri": "line"}, "line": {".": "item"},
	"distinct": {"distinct": "vars", "var": "vars", "where": "open", "{": "part"},
	"vars":     {"var": "vars", "where": "open", "{": "part"},
	"where":    {"where": "open", "{": "part"}, "open": {"{": "part"},
	"part": {"not": "not", "(": "part1", "slot": "cond"}, "not": {"(": "part1"},
	"part1": {"slot": "part2"}, "part2": {"slot": "part3"}, "part3": {"slot": "part4"}, "part4": {")": "done"},
	"cond": {"=": "cond2"}, "cond2": {"slot": "done"},
	"done": {",": "part", "}": "end"}, "end": {},
}

// inPart are the states in which a part is begun.
var inPart = []string{"part1", "part2", "part3", "part4", "not", "cond", "cond2"}

// automaton goes through the states, and counts what a query needs to be valid.
type automaton struct {
	state, line         string
	known               map[string]bool
	form, part          int // where 'ask' or 'select', and the last part, begin
	ask, negated        bool
	vars, conditions    []string
	patterns            map[string]bool
	parts, place, wrong int
}

// next returns the state behind a piece, and reports whether it may come.
func (a *automaton) next(x piece) (string, bool) {
	next, ok := grammar[a.state][x.class]
	word, _, _ := strings.Cut(x.text, ":")
	isName := x.class == "bare" || x.class == "name"
	if !ok && (x.class == "iri" || x.class == "term" || x.class == "var" || isName && a.known[word]) {
		next, ok = grammar[a.state]["slot"]
	}
	return next, ok
}

// step takes a piece that begins at a place, and reports whether it may come.
func (a *automaton) step(x piece, place int) bool {
	next, ok := a.next(x)
	if a.state == "part" {
		a.part = place
	}
	if !ok {
		return false
	}
	isVar := x.class == "var"
	switch a.state {
	case "item":
		a.form, a.ask = place, x.class == "ask"
	case "name":
		a.line, _, _ = strings.Cut(x.text, ":")
	case "line":
		a.known[a.line] = true
	case "part1", "part2", "part3":
		if isVar {
			a.patterns[x.text] = true
		}
	case "distinct", "vars":
		if isVar {
			a.vars = append(a.vars, x.text)
		}
	case "part", "cond2":
		if isVar {
			a.conditions = append(a.conditions, x.text)
		}
	}
	a.negated = a.negated || next == "not"
	if next == "done" {
		a.parts++
	}
	a.state = next
	return true
}

// valid reports whether the query that was taken is valid.
func (a *automaton) valid() bool {
	seen := map[string]bool{}
	for _, s := range a.vars {
		if seen[s] || !a.patterns[s] {
			return false
		}
		seen[s] = true
	}
	for _, s := range a.conditions {
		if !a.patterns[s] {
			return false
		}
	}
	return !a.negated && a.parts <= 64 && a.ask == (len(a.vars) == 0)
}

// choose returns a piece, mostly one that may come.
func (a *automaton) choose(r *rand.Rand) piece {
	x := pieces[r.Intn(len(pieces))]
	if r.Intn(50) == 0 || a.state == "end" {
		return x
	}
	for _, ok := a.next(x); !ok || x.class == "not" && r.Intn(30) > 0; _, ok = a.next(x) {
		x = pieces[r.Intn(len(pieces))]
	}
	return x
}

// stop returns where what is wrong begins, if behind all that was taken, at a place, something else stands.
func (a *automaton) stop(place int) int {
	if slices.Contains(inPart, a.state) {
		return a.part
	}
	return place
}

// TestRandomSymbols: symbols in any order are read, or wrong where they cannot go on.
func TestRandomSymbols(t *testing.T) {
	r := rand.New(rand.NewSource(777))
	right, invalid, parts := 0, 0, 0
	for range 60000 {
		m := &automaton{state: "item", known: map[string]bool{}, patterns: map[string]bool{}}
		s, wrong := "", -1
		for range 100 {
			if m.state == "end" && r.Intn(10) > 0 {
				break
			}
			x := m.choose(r)
			if wrong < 0 && !m.step(x, len(s)) {
				wrong = m.stop(len(s))
				if slices.Contains(inPart, m.state) {
					parts++
				}
			}
			s += x.text + " "
			if wrong >= 0 && r.Intn(3) == 0 {
				break
			}
		}
		if wrong < 0 && m.state != "end" {
			wrong = m.stop(len(s))
		}
		if wrong < 0 && !m.valid() {
			wrong = m.form
			invalid++
		}
		if wrong >= 0 {
			wantWrong(t, s, wrong)
			continue
		}
		right++
		q, at, e := queries.Parse(s)
		if len(q.Body) != m.parts || len(q.Vars) != len(m.vars) || q.Ask != m.ask || at != 0 || e != api.OK {
			t.Fatalf("Parse(%q) = %s, %d, %v", s, shown(q), at, e)
		}
		again, _ := queries.Text(q)
		wantText(t, again, q)
	}
	if right < 6000 || invalid < 6000 || parts < 3000 {
		t.Error("too few of a sort:", right, invalid, parts)
	}
}

// TestAnyBytes: nothing panics, whatever the bytes are, and what is wrong is within the text.
func TestAnyBytes(t *testing.T) {
	for a := range 256 {
		for b := range 256 {
			two := string([]byte{byte(a), byte(b)})
			for _, s := range []string{two, "ask { (?x <p> " + two, "ask { (?x <p> \"" + two + "\") }", "ask { " + two + " }", "prefix " + two + " <x> .", "select " + two + " { (?x <p> ?y) }"} {
				got, at, e := queries.Parse(s)
				switch {
				case e == api.ErrText && equal(got, api.Query{}) && at >= 0 && at <= len(s):
				case e == api.OK && at == 0 && queries.May(got):
				default:
					t.Errorf("%q: %s, %d, %v", s, shown(got), at, e)
				}
			}
		}
	}
}

// TestMemory: what is handed in stays as it is, and what is handed out belongs to the caller.
func TestMemory(t *testing.T) {
	given := once(choose("y x", xpy, yqz, same(x, y)))
	kept := clone(given)
	s, _ := queries.Text(given)
	queries.May(given)
	queries.Same(given, kept)
	if !equal(given, kept) {
		t.Error(shown(given))
	}
	first, _, _ := queries.Parse(s)
	first.Vars[0], first.Body[0] = "changed", same(z, z)
	_, _ = append(first.Vars, "v"), append(first.Body, abc)
	wantQuery(t, s, kept)
	// What has room behind its end is not written there.
	vars, body := append(make([]string, 0, 9), "x", "y"), append(make([]api.Lit, 0, 9), xpy, same(x, y))
	queries.Text(api.Query{Vars: vars, Body: body})
	queries.May(api.Query{Vars: vars[:1], Body: body[:1]})
	queries.Copy(api.Query{Vars: vars[:1], Body: body[:1]})
	if slices.Compare(vars[:9], []string{"x", "y", "", "", "", "", "", "", ""}) != 0 || body[1] != same(x, y) || body[:9][2] != (api.Lit{}) {
		t.Error(vars[:9], shown(body[:9]))
	}
}
