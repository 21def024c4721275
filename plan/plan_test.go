package plan_test

import (
	"cmp"
	"fmt"
	"math"
	"math/rand"
	"slices"
	"strconv"
	"strings"
	"testing"

	"rhizome/api"
	"rhizome/check"
	"rhizome/cost"
	"rhizome/dict"
	"rhizome/plan"
	"rhizome/queries"
	"rhizome/rules"
	"rhizome/table"
)

func iri(s string) api.Slot                     { return api.Slot{Term: api.Term{Kind: api.IRI, Text: s}} }
func variable(s string) api.Slot                { return api.Slot{Var: s} }
func holds(p api.Pattern) api.Lit               { return api.Lit{Kind: api.Holds, Pattern: p} }
func not(p api.Pattern) api.Lit                 { return api.Lit{Kind: api.Not, Pattern: p} }
func same(a, b api.Slot) api.Lit                { return api.Lit{Kind: api.Same, A: a, B: b} }
func unlike(a, b api.Slot) api.Lit              { return api.Lit{Kind: api.Unlike, A: a, B: b} }
func rule(h api.Pattern, l ...api.Lit) api.Rule { return api.Rule{Head: h, Body: l} }

// Slots and patterns that many tests speak of.
var (
	x, y, z = variable("x"), variable("y"), variable("z")
	a, b, c = iri("a"), iri("b"), iri("c")
	abc     = api.Pattern{a, b, c}
	xyz     = api.Pattern{x, y, z}
)

// rightRule returns the rule of a text.
func rightRule(t *testing.T, text string) api.Rule {
	t.Helper()
	r, e := rules.One(text)
	if e != api.OK {
		t.Fatalf("%q is no rule", text)
	}
	return r
}

// rightQuery returns the query of a text.
func rightQuery(t *testing.T, text string) api.Query {
	t.Helper()
	q, at, e := queries.Parse(text)
	if e != api.OK {
		t.Fatalf("%q is no query at %d", text, at)
	}
	return q
}

// place returns the place of a text: '2' is the variable 2, '#2' the term 2.
func place(t *testing.T, text string) api.Place {
	t.Helper()
	s, isTerm := strings.CutPrefix(text, "#")
	n, err := strconv.Atoi(s)
	if err != nil {
		t.Fatalf("%q is no place", text)
	}
	if isTerm {
		return api.Place{Var: -1, ID: uint32(n)}
	}
	return api.Place{Var: n}
}

// planned returns the plan of a text: the head, and each step, behind a ';'. Without a head it is zeros.
func planned(t *testing.T, vars int, text string) api.Plan {
	t.Helper()
	kinds := map[string]api.StepKind{"match": api.StepMatch, "absent": api.StepAbsent, "same": api.StepSame, "unlike": api.StepUnlike}
	p := api.Plan{Vars: vars}
	for i, part := range strings.Split(text, ";") {
		words := strings.Fields(part)
		if i == 0 {
			for k, w := range words {
				p.Head[k] = place(t, w)
			}
			continue
		}
		s := api.Step{Kind: kinds[words[0]]}
		switch words = words[1:]; s.Kind {
		case api.StepMatch, api.StepAbsent:
			s.Row = [3]api.Place{place(t, words[0]), place(t, words[1]), place(t, words[2])}
		case api.StepSame, api.StepUnlike:
			s.A, s.B = place(t, words[0]), place(t, words[1])
		default:
			t.Fatalf("%q is no step", part)
		}
		p.Steps = append(p.Steps, s)
	}
	return p
}

// samePlan reports whether two plans are the same.
func samePlan(p, q api.Plan) bool {
	return p.Head == q.Head && p.Vars == q.Vars && slices.Equal(p.Steps, q.Steps)
}

// terms returns the terms of a dictionary, each by its text; a term that is no IRI begins with its Kind.
func terms(d *dict.Dict) []string {
	var l []string
	for _, t := range d.Terms() {
		if t.Kind == api.IRI {
			l = append(l, t.Text)
			continue
		}
		l = append(l, fmt.Sprint(int(t.Kind))+t.Text+t.Extra)
	}
	return l
}

// with returns a dictionary that has those IRIs.
func with(limit int, names ...string) *dict.Dict {
	d := dict.New(limit)
	for _, name := range names {
		if _, e := d.Intern(iri(name).Term); e != api.OK {
			panic(e)
		}
	}
	return d
}

// shown is how tests tell of something; of what is long the beginning.
func shown(x any) string {
	s := fmt.Sprintf("%+v", x)
	return strings.ToValidUTF8(s[:min(len(s), 600)], "?")
}

// wantRule checks the plan of a rule.
func wantRule(t *testing.T, want api.Plan, d *dict.Dict, r api.Rule, order ...int) {
	t.Helper()
	if p, e := plan.Rule(d, r, order...); e != api.OK || !samePlan(p, want) {
		t.Errorf("Rule(%s, %v) =\n%s, %v; want\n%s", shown(r), shown(order), shown(p), e, shown(want))
	}
}

// wantQuery checks the plan of a query.
func wantQuery(t *testing.T, want api.Plan, d *dict.Dict, q api.Query, order ...int) {
	t.Helper()
	if p, e := plan.Query(d, q, order...); e != api.OK || !samePlan(p, want) {
		t.Errorf("Query(%s, %v) =\n%s, %v; want\n%s", shown(q), shown(order), shown(p), e, shown(want))
	}
}

// wantTerms checks which terms a dictionary has, in which order.
func wantTerms(t *testing.T, d *dict.Dict, want ...string) {
	t.Helper()
	if l := terms(d); !slices.Equal(l, want) {
		t.Errorf("the dictionary has %q; want %q", l, want)
	}
}

// wantRefused checks that a plan is refused, and that a dictionary is as it was.
func wantRefused(t *testing.T, want api.Errno, d *dict.Dict, of func(*dict.Dict) (api.Plan, api.Errno)) {
	t.Helper()
	before, limit := terms(d), d.Limit()
	if p, e := of(d); e != want || !samePlan(p, api.Plan{}) || p.Steps != nil {
		t.Errorf("%s, %v; want %v", shown(p), e, want)
	}
	wantTerms(t, d, before...)
	if d.Limit() != limit {
		t.Errorf("the limit is %d; want %d", d.Limit(), limit)
	}
}

// rulesAndPlans are rules, the orders in which their patterns come, their plans, and the terms of a dictionary that had none before.
var rulesAndPlans = []struct {
	text  string
	order []int
	vars  int
	plan  string
	terms string
}{
	// Without a body.
	{`(<a> <b> <c>) .`, nil, 0, "#1 #2 #3", "a b c"},
	{`(<a> <a> <a>) .`, nil, 0, "#1 #1 #1", "a"},
	{`(<a> <b> <a>) .`, nil, 0, "#1 #2 #1", "a b"},
	{`("a" <a> "a"@en) .`, nil, 0, "#1 #2 #3", "3a a 4aen"},
	{`(_:a <a> "a"^^<t>) .`, []int{0}, 0, "#1 #2 #3", "2a a 5at"},
	// One pattern.
	{`(<a> <b> <c>) :- (<d> <e> <f>) .`, nil, 0, "#1 #2 #3; match #4 #5 #6", "a b c d e f"},
	{`(<a> <b> <c>) :- (<c> <b> <a>) .`, nil, 0, "#1 #2 #3; match #3 #2 #1", "a b c"},
	{`(?x ?y ?z) :- (?x ?y ?z) .`, nil, 3, "0 1 2; match 0 1 2", ""},
	{`(?x ?y ?z) :- (?z ?y ?x) .`, nil, 3, "0 1 2; match 2 1 0", ""},
	{`(?x <q> ?x) :- (?x <p> ?x) .`, nil, 1, "0 #1 0; match 0 #2 0", "q p"},
	{`(?x <q> ?y) :- (?x <p> ?y) .`, []int{0}, 2, "0 #1 1; match 0 #2 1", "q p"},
	// The names of the head's variables come in the body in another order, and behind others.
	{`(?z <p> ?y) :- (?x <p> ?y), (?w ?z ?x) .`, nil, 4, "0 #1 1; match 2 #1 1; match 3 0 2", "p"},
	{`(<a> ?b <a>) :- (?c <a> ?a), (?a <c> ?b) .`, nil, 3, "#1 0 #1; match 1 #1 2; match 2 #2 0", "a c"},
	// Several patterns.
	{`(?x <p> ?z) :- (?x <p> ?y), (?y <p> ?z) .`, nil, 3, "0 #1 1; match 0 #1 2; match 2 #1 1", "p"},
	{`(?x <p> ?z) :- (?x <p> ?y), (?y <p> ?z) .`, []int{1, 0}, 3, "0 #1 1; match 2 #1 1; match 0 #1 2", "p"},
	{`(<a> <b> <c>) :- (?x <d> ?x), (?x <d> ?x) .`, []int{1, 0}, 1, "#1 #2 #3; match 0 #4 0; match 0 #4 0", "a b c d"},
	// The chapter's example.
	{`(?x <p> ?y) :- (?y <q> ?x), ?x != ?y, (?x <r> ?z) .`, nil, 3, "0 #1 1; match 1 #2 0; unlike 0 1; match 0 #3 2", "p q r"},
	{`(?x <p> ?y) :- (?y <q> ?x), ?x != ?y, (?x <r> ?z) .`, []int{1, 0}, 3, "0 #1 1; match 0 #3 2; match 1 #2 0; unlike 0 1", "p q r"},
	// Conditions in front of the patterns of their variables, between them, and behind them.
	{`(?x <p> ?y) :- ?x = ?y, (?x <q> ?z), (?y <r> ?z) .`, nil, 3, "0 #1 1; match 0 #2 2; match 1 #3 2; same 0 1", "p q r"},
	{`(?x <p> ?y) :- (?x <q> ?z), ?y = ?x, (?y <r> ?z) .`, nil, 3, "0 #1 1; match 0 #2 2; match 1 #3 2; same 1 0", "p q r"},
	{`(?x <p> ?y) :- (?x <q> ?z), (?y <r> ?z), ?x != ?z .`, nil, 3, "0 #1 1; match 0 #2 2; unlike 0 2; match 1 #3 2", "p q r"},
	{`(?x <p> ?y) :- (?x <q> ?z), (?y <r> ?z), ?x != ?z .`, []int{1, 0}, 3, "0 #1 1; match 1 #3 2; match 0 #2 2; unlike 0 2", "p q r"},
	// Conditions with one variable twice, and with a variable and a term.
	{`(?x <p> ?y) :- ?y = ?y, (?x <q> ?x), (?y <r> ?y), ?x != ?x .`, nil, 2, "0 #1 1; match 0 #2 0; unlike 0 0; match 1 #3 1; same 1 1", "p q r"},
	{`(?x <p> ?y) :- ?y = <a>, (?x <q> ?x), (?y <r> ?y), <b> != ?x .`, nil, 2, "0 #1 1; match 0 #3 0; unlike #5 0; match 1 #4 1; same 1 #2", "p a q r b"},
	// Without variables.
	{`(<a> <b> <c>) :- <c> != <a> .`, nil, 0, "#1 #2 #3; unlike #3 #1", "a b c"},
	{`(<a> <b> <c>) :- "d" = <a> .`, nil, 0, "#1 #2 #3; same #4 #1", "a b c 3d"},
	{`(<a> <b> <c>) :- not (<a> <b> <c>) .`, nil, 0, "#1 #2 #3; absent #1 #2 #3", "a b c"},
	{`(<a> <b> <c>) :- not (<c> <d> <e>), <e> = <f>, not (<f> <f> <f>), <g> != <g> .`, nil, 0,
		"#1 #2 #3; same #5 #6; unlike #7 #7; absent #3 #4 #5; absent #6 #6 #6", "a b c d e f g"},
	{`(?x <b> <c>) :- (?x <b> <d>), not (<c> <d> <e>), ?x != <a>, <b> = <b> .`, nil, 1,
		"0 #1 #2; same #1 #1; absent #2 #3 #4; match 0 #1 #3; unlike 0 #5", "b c d e a"},
	{`(<a> <b> <c>) :- (<c> <b> <a>), not (<c> <c> <c>), <b> != <c>, (<b> <b> <b>) .`, []int{1, 0}, 0,
		"#1 #2 #3; unlike #2 #3; absent #3 #3 #3; match #2 #2 #2; match #3 #2 #1", "a b c"},
	// NOTs whose variables come with one pattern, with several, with none.
	{`(?x <p> ?y) :- not (?y <q> ?x), (?x <q> ?y), (?y <r> ?z) .`, nil, 3, "0 #1 1; match 0 #2 1; absent 1 #2 0; match 1 #3 2", "p q r"},
	{`(?x <p> ?y) :- not (?y <q> ?z), (?x <q> ?y), (?y <r> ?z) .`, nil, 3, "0 #1 1; match 0 #2 1; match 1 #3 2; absent 1 #2 2", "p q r"},
	{`(?x <p> ?y) :- (?x <q> ?y), (?y <r> ?z), not (?y <q> ?x) .`, []int{1, 0}, 3, "0 #1 1; match 1 #3 2; match 0 #2 1; absent 1 #2 0", "p q r"},
	{`(?x <p> ?y) :- (?x <q> ?y), not (?x ?x ?x), (?y <r> ?z) .`, nil, 3, "0 #1 1; match 0 #2 1; absent 0 0 0; match 1 #3 2", "p q r"},
	{`(?s <p> ?o) :- (?o <q> ?s), not (?s <r> "1"), ?s != ?o .`, nil, 2, "0 #1 1; match 1 #2 0; unlike 0 1; absent 0 #3 #4", "p q r 31"},
	// Several that become ready at one pattern: the conditions first, then the NOTs, each as they come in the rule.
	{`(<a> <b> ?x) :- not (?x <b> <a>), ?x = <c>, not (<a> ?x <b>), <c> != ?x, (?x <b> ?y), ?x != <d>, not (<e> <e> ?x), <d> = ?x .`, nil, 2,
		"#1 #2 0; match 0 #2 1; same 0 #3; unlike #3 0; unlike 0 #4; same #4 0; absent 0 #2 #1; absent #1 0 #2; absent #5 #5 0", "a b c d e"},
	{`(?x <p> ?y) :- not (?x <p> ?y), not (?y <p> ?y), ?x != ?y, ?y = ?y, (?x <q> ?x), (?y <q> ?y), not (?x <p> ?x), ?x = ?x .`, nil, 2,
		"0 #1 1; match 0 #2 0; same 0 0; absent 0 #1 0; match 1 #2 1; unlike 0 1; same 1 1; absent 0 #1 1; absent 1 #1 1", "p q"},
	{`(?x <p> ?y) :- not (?x <p> ?y), not (?y <p> ?y), ?x != ?y, ?y = ?y, (?x <q> ?x), (?y <q> ?y), not (?x <p> ?x), ?x = ?x .`, []int{1, 0}, 2,
		"0 #1 1; match 1 #2 1; same 1 1; absent 1 #1 1; match 0 #2 0; unlike 0 1; same 0 0; absent 0 #1 1; absent 0 #1 0", "p q"},
	// All at the last pattern, which stands first.
	{`(<a> <a> <a>) :- (?x ?y ?z), (?y ?y ?y), (?z ?z ?z), not (?x ?x ?x), ?x = ?y, ?z = ?x, not (?y ?z ?y) .`, []int{2, 1, 0}, 3,
		"#1 #1 #1; match 2 2 2; match 1 1 1; absent 1 2 1; match 0 1 2; same 0 1; same 2 0; absent 0 0 0", "a"},
}

// TestRule: rules of many forms.
func TestRule(t *testing.T) {
	for _, l := range rulesAndPlans {
		d, r := dict.New(100), rightRule(t, l.text)
		want := planned(t, l.vars, l.plan)
		wantRule(t, want, d, r, l.order...)
		wantTerms(t, d, strings.Fields(l.terms)...)
		// Once more: nothing is new then, so that the dictionary may be full.
		d.SetLimit(d.Len())
		wantRule(t, want, d, r, l.order...)
		wantTerms(t, d, strings.Fields(l.terms)...)
	}
}

// threePatterns is a rule of three patterns, with something that becomes ready at each set of them.
const threePatterns = `(<h> <h> <h>) :- not (?y <n> ?z), ?x = ?y, (?x <a> ?x), not (?x <n> <n>), ?z != ?x, (?y <b> ?y), ?y = <n>, (?z <c> ?z), not (?z ?y ?x), <n> = <h>`

// TestRuleOrder: three patterns in each order.
func TestRuleOrder(t *testing.T) {
	r := rightRule(t, threePatterns+" .")
	// h n a b c are the terms 1 to 5; y z x the variables 0 to 2.
	for _, l := range []struct {
		order []int
		steps string
	}{
		{[]int{0, 1, 2}, "match 2 #3 2; absent 2 #2 #2; match 0 #4 0; same 2 0; same 0 #2; match 1 #5 1; unlike 1 2; absent 0 #2 1; absent 1 0 2"},
		{[]int{0, 2, 1}, "match 2 #3 2; absent 2 #2 #2; match 1 #5 1; unlike 1 2; match 0 #4 0; same 2 0; same 0 #2; absent 0 #2 1; absent 1 0 2"},
		{[]int{1, 0, 2}, "match 0 #4 0; same 0 #2; match 2 #3 2; same 2 0; absent 2 #2 #2; match 1 #5 1; unlike 1 2; absent 0 #2 1; absent 1 0 2"},
		{[]int{1, 2, 0}, "match 0 #4 0; same 0 #2; match 1 #5 1; absent 0 #2 1; match 2 #3 2; same 2 0; unlike 1 2; absent 2 #2 #2; absent 1 0 2"},
		{[]int{2, 0, 1}, "match 1 #5 1; match 2 #3 2; unlike 1 2; absent 2 #2 #2; match 0 #4 0; same 2 0; same 0 #2; absent 0 #2 1; absent 1 0 2"},
		{[]int{2, 1, 0}, "match 1 #5 1; match 0 #4 0; same 0 #2; absent 0 #2 1; match 2 #3 2; same 2 0; unlike 1 2; absent 2 #2 #2; absent 1 0 2"},
	} {
		d := dict.New(100)
		wantRule(t, planned(t, 3, "#1 #1 #1; same #2 #1; "+l.steps), d, r, l.order...)
		wantTerms(t, d, "h", "n", "a", "b", "c")
	}
}

// noOrders returns lists that are no orders of n patterns, n above 0.
func noOrders(n int) [][]int {
	var all []int
	for i := range n {
		all = append(all, n-1-i)
	}
	l := [][]int{nil, {}, append(slices.Clone(all), n), append(slices.Clone(all), 0), append(slices.Clone(all), all...), slices.Repeat([]int{0}, n+1), make([]int, 100000)}
	for i := range n {
		l = append(l, slices.Delete(slices.Clone(all), i, i+1))
		for _, k := range []int{-1, -n, n, n + 1, math.MaxInt, math.MinInt, 1 << 32, 1<<32 + 1} {
			l = append(l, slices.Replace(slices.Clone(all), i, i+1, k))
		}
		for k := range n {
			if k != all[i] {
				l = append(l, slices.Replace(slices.Clone(all), i, i+1, k))
			}
		}
	}
	return l
}

// TestNoOrder: lists that are no orders: the patterns come as they are written.
func TestNoOrder(t *testing.T) {
	for _, text := range []string{
		`(?x <h> ?x) :- (?x <a> ?x)`,
		`(?x <h> ?y) :- ?x = ?y, (?x <a> ?z), (?y <b> ?z), not (?z <a> ?z)`, threePatterns,
		threePatterns + `, (?w <d> ?v), ?v = ?v, (?v <e> ?w), ?w != ?v`,
	} {
		r := rightRule(t, text+" .")
		n, all := 0, []int{}
		for _, l := range r.Body {
			if l.Kind == api.Holds {
				all = append(all, n)
				n++
			}
		}
		want := defined(with(100), r.Head, r.Body, check.Vars(r), all)
		for _, order := range append(noOrders(n), all) {
			wantRule(t, want, dict.New(100), r, order...)
		}
		// As the body of a query.
		q := api.Query{Ask: true, Body: slices.DeleteFunc(slices.Clone(r.Body), func(l api.Lit) bool { return l.Kind == api.Not })}
		if !queries.May(q) {
			continue
		}
		want = defined(with(100), xyz, q.Body, rules.Vars(q.Body...), all)
		want.Head = [3]api.Place{}
		for _, order := range append(noOrders(n), all) {
			wantQuery(t, want, dict.New(100), q, order...)
		}
	}
}

// TestNoPattern: without a pattern there is nothing to order, whatever list is given.
func TestNoPattern(t *testing.T) {
	for _, order := range [][]int{nil, {}, {0}, {-1}, {1, 0}, {0, 1, 2}} {
		wantRule(t, planned(t, 0, "#1 #1 #1"), dict.New(100), rightRule(t, `(<h> <h> <h>) .`), order...)
		wantRule(t, planned(t, 0, "#1 #1 #1; same #2 #3; absent #2 #3 #4"), dict.New(100), rightRule(t, `(<h> <h> <h>) :- not (<a> <b> <c>), <a> = <b> .`), order...)
	}
}

// TestInterned: a dictionary that has some of the terms, and others.
func TestInterned(t *testing.T) {
	r := rightRule(t, `(?x <p> <a>) :- ?x != <b>, (?x <q> <a>), not (<c> <p> ?x), <d> = <b>, (<e> ?x <q>) .`)
	d := with(100, "z", "q", "y", "b", "a")
	wantRule(t, planned(t, 1, "0 #6 #5; same #8 #4; match 0 #2 #5; unlike 0 #4; absent #7 #6 0; match #9 0 #2"), d, r)
	wantTerms(t, d, "z", "q", "y", "b", "a", "p", "c", "d", "e")
	// The order of the patterns is none of the terms.
	d = with(100)
	wantRule(t, planned(t, 1, "0 #1 #2; same #6 #3; match #7 0 #4; unlike 0 #3; absent #5 #1 0; match 0 #4 #2"), d, r, 1, 0)
	wantTerms(t, d, "p", "a", "b", "q", "c", "d", "e")
	// A dictionary that is shared by several.
	wantRule(t, planned(t, 2, "0 #5 1; match 1 #1 0; absent 1 #8 #7"), d, rightRule(t, `(?y <c> ?x) :- (?x <p> ?y), not (?x <f> <e>) .`), 0)
}

// stepOf returns the step of a part, its slots by what gives them places.
func stepOf(l api.Lit, place func(api.Slot) api.Place) api.Step {
	s := api.Step{Kind: map[api.LitKind]api.StepKind{api.Holds: api.StepMatch, api.Not: api.StepAbsent, api.Same: api.StepSame, api.Unlike: api.StepUnlike}[l.Kind]}
	if l.Kind == api.Holds || l.Kind == api.Not {
		s.Row[0] = place(l.Pattern[0])
		s.Row[1] = place(l.Pattern[1])
		s.Row[2] = place(l.Pattern[2])
		return s
	}
	s.A = place(l.A)
	s.B = place(l.B)
	return s
}

// defined returns the plan that the chapter defines: each step has a turn, and they are sorted by it. The order is one of the patterns.
func defined(d *dict.Dict, head api.Pattern, body []api.Lit, names []string, order []int) api.Plan {
	type due struct {
		step              api.Step
		turn, kind, index int
	}
	place := func(s api.Slot) api.Place {
		if s.Var != "" {
			return api.Place{Var: slices.Index(names, s.Var)}
		}
		n, _ := d.Intern(s.Term)
		return api.Place{Var: -1, ID: n}
	}
	p := api.Plan{Vars: len(names), Head: stepOf(holds(head), place).Row}
	var patterns []api.Lit
	for _, l := range body {
		if l.Kind == api.Holds {
			patterns = append(patterns, l)
		}
	}
	// The turn at which a variable becomes known.
	turns := map[string]int{}
	for turn := len(order); turn > 0; turn-- {
		for _, name := range rules.Vars(patterns[order[turn-1]]) {
			turns[name] = turn
		}
	}
	var steps []due
	pattern := 0
	for i, l := range body {
		next := due{step: stepOf(l, place), index: i}
		switch l.Kind {
		case api.Holds:
			next.turn = slices.Index(order, pattern) + 1
			pattern++
		case api.Not:
			next.kind = 2
		default:
			next.kind = 1
		}
		if l.Kind != api.Holds {
			for _, name := range rules.Vars(l) {
				next.turn = max(next.turn, turns[name])
			}
		}
		steps = append(steps, next)
	}
	slices.SortFunc(steps, func(a, b due) int {
		return cmp.Or(cmp.Compare(a.turn, b.turn), cmp.Compare(a.kind, b.kind), cmp.Compare(a.index, b.index))
	})
	for _, x := range steps {
		p.Steps = append(p.Steps, x.step)
	}
	return p
}

// queriesAndPlans are as rulesAndPlans, of queries.
var queriesAndPlans = []struct {
	text  string
	order []int
	vars  int
	plan  string
	terms string
}{
	{`select ?x where { (?x <p> ?y) }`, nil, 2, "; match 0 #1 1", "p"},
	// The variables that are requested are ahead of those of the body, also in another order.
	{`select ?y where { (?x <p> ?y) }`, nil, 2, "; match 1 #1 0", "p"},
	{`select ?x ?y where { (?x <p> ?y) }`, nil, 2, "; match 0 #1 1", "p"},
	{`select ?y ?x where { (?x <p> ?y) }`, nil, 2, "; match 1 #1 0", "p"},
	{`select distinct ?z ?y where { (?x ?y ?z), (?w ?v ?y) }`, nil, 5, "; match 2 1 0; match 3 4 1", ""},
	{`select ?z ?y where { (?x ?y ?z), (?w ?v ?y) }`, []int{1, 0}, 5, "; match 3 4 1; match 2 1 0", ""},
	{`select ?d ?b where { ?a != ?c, (?a ?b ?c), ?b = ?e, (?d ?e ?f) }`, nil, 6, "; match 2 1 3; unlike 2 3; match 0 4 5; same 1 4", ""},
	{`select ?d ?b where { ?a != ?c, (?a ?b ?c), ?b = ?e, (?d ?e ?f) }`, []int{1, 0}, 6, "; match 0 4 5; match 2 1 3; unlike 2 3; same 1 4", ""},
	// Whether something holds at all.
	{`ask { (?x <p> ?y) }`, nil, 2, "; match 0 #1 1", "p"},
	{`ask { (<a> <p> <b>) }`, nil, 0, "; match #1 #2 #3", "a p b"},
	{`ask { ?y = ?x, (?x <p> ?y), <a> != <b>, "a" = ?x }`, nil, 2, "; unlike #2 #3; match 1 #1 0; same 0 1; same #4 1", "p a b 3a"},
	{`ask { (<b> <p> <a>), <a> = <a>, (<a> <b> <b>) }`, []int{1, 0}, 0, "; same #3 #3; match #3 #1 #1; match #1 #2 #3", "b p a"},
	{`select ?s { (?s <p> ?o), ?o != "1" }`, nil, 2, "; match 0 #1 1; unlike 1 #2", "p 31"},
}

// TestQuery: queries of many forms.
func TestQuery(t *testing.T) {
	for _, l := range queriesAndPlans {
		d, q := dict.New(100), rightQuery(t, l.text)
		want := planned(t, l.vars, l.plan)
		wantQuery(t, want, d, q, l.order...)
		wantTerms(t, d, strings.Fields(l.terms)...)
		d.SetLimit(d.Len())
		wantQuery(t, want, d, q, l.order...)
		wantTerms(t, d, strings.Fields(l.terms)...)
		// In a dictionary that has other terms each number is greater by as many.
		d = with(100, "other", "terms")
		for i := range want.Steps {
			s := &want.Steps[i]
			for _, p := range []*api.Place{&s.Row[0], &s.Row[1], &s.Row[2], &s.A, &s.B} {
				if p.Var < 0 {
					p.ID += 2
				}
			}
		}
		wantQuery(t, want, d, q, l.order...)
		wantTerms(t, d, append([]string{"other", "terms"}, strings.Fields(l.terms)...)...)
	}
}

// wrongRules returns rules that have no plan: those that cannot be written, and those that are not safe.
func wrongRules() []api.Rule {
	all := holds(xyz)
	l := []api.Rule{
		{}, rule(api.Pattern{a, b}, all), rule(abc, slices.Repeat([]api.Lit{all}, api.MaxBody+1)...), rule(abc, all, api.Lit{}), rule(abc, all, api.Lit{Kind: 5}), rule(abc, api.Lit{Kind: -1}),
		rule(abc, all, api.Lit{Kind: api.Holds, Pattern: abc, A: a}), rule(abc, all, api.Lit{Kind: api.Same, A: a, B: b, Pattern: abc}), rule(abc, same(a, iri(""))), rule(abc, not(api.Pattern{a, b, iri(" ")})),
		rule(abc, all, same(x, variable("1"))), rule(abc, all, same(x, api.Slot{Var: "x", Term: a.Term})),
		rule(xyz), rule(abc, not(xyz)), rule(abc, same(x, a)), rule(abc, unlike(a, x)), rule(abc, holds(api.Pattern{x, y, x}), not(api.Pattern{x, y, z})), rule(api.Pattern{a, b, variable("w")}, all),
		rule(abc, all, same(x, variable("w"))), rule(abc, not(abc), all, unlike(variable("w"), a)),
	}
	return l
}

// wrongQueries returns queries that are not valid.
func wrongQueries() []api.Query {
	all := []api.Lit{holds(xyz), holds(abc)}
	many := make([]string, api.MaxVars+1)
	for i := range many {
		many[i] = "v" + strconv.Itoa(i)
	}
	var manyBody []api.Lit
	for _, name := range many {
		manyBody = append(manyBody, holds(api.Pattern{a, b, variable(name)}))
	}
	return []api.Query{
		{}, {Ask: true}, {Vars: []string{"x"}}, {Body: all}, {Ask: true, Vars: []string{"x"}, Body: all}, {Ask: true, Distinct: true, Body: all}, {Vars: []string{"x", "x"}, Body: all}, {Vars: []string{"w"}, Body: all},
		{Vars: []string{""}, Body: all}, {Vars: many, Body: manyBody}, {Ask: true, Body: []api.Lit{holds(abc), not(abc)}}, {Ask: true, Body: []api.Lit{same(x, x)}}, {Ask: true, Body: append(slices.Clone(all), unlike(variable("w"), a))},
		{Ask: true, Body: slices.Repeat(all, api.MaxBody)}, {Ask: true, Body: []api.Lit{holds(abc), {}}}, {Ask: true, Body: []api.Lit{holds(api.Pattern{a, b, iri("")})}},
	}
}

// TestErrors: of several errors the one that is named first; what is refused interns nothing.
func TestErrors(t *testing.T) {
	good, ask := rightRule(t, `(?x <p> "1") :- (?x <q> _:b), ?x != <r>, not (?x <s> <t>) .`), rightQuery(t, `select ?x where { (?x <p> "1"), ?x = <q> }`)
	empty, full, some := dict.New(100), dict.New(0), with(7, "p", "a", "b")
	none := []*dict.Dict{nil, {}, new(dict.Dict)}
	ruleOf := func(r api.Rule) func(*dict.Dict) (api.Plan, api.Errno) {
		return func(d *dict.Dict) (api.Plan, api.Errno) { return plan.Rule(d, r, 1, 0) }
	}
	queryOf := func(q api.Query) func(*dict.Dict) (api.Plan, api.Errno) {
		return func(d *dict.Dict) (api.Plan, api.Errno) { return plan.Query(d, q, 1, 0) }
	}
	for _, r := range append(wrongRules(), good, rightRule(t, `(?x ?x ?x) :- (?x ?x ?x) .`)) {
		for _, d := range none {
			wantRefused(t, api.ErrNil, d, ruleOf(r))
		}
		if check.Rule(r) == api.OK {
			continue
		}
		for _, d := range []*dict.Dict{empty, full, some} {
			wantRefused(t, api.ErrArg, d, ruleOf(r))
		}
	}
	for _, q := range append(wrongQueries(), ask, rightQuery(t, `ask { (?x ?x ?x) }`)) {
		for _, d := range none {
			wantRefused(t, api.ErrNil, d, queryOf(q))
		}
		if queries.May(q) {
			continue
		}
		for _, d := range []*dict.Dict{empty, full, some} {
			wantRefused(t, api.ErrArg, d, queryOf(q))
		}
	}
	wantRefused(t, api.ErrFull, full, ruleOf(good))
	wantRefused(t, api.ErrFull, full, queryOf(ask))
	// Without a term there need be no room.
	wantRule(t, planned(t, 1, "0 0 0; match 0 0 0"), full, rightRule(t, `(?x ?x ?x) :- (?x ?x ?x) .`))
	wantQuery(t, planned(t, 2, "; match 1 0 1; unlike 0 1"), full, rightQuery(t, `select ?y where { (?x ?y ?x), ?y != ?x }`))
}

// wantFull checks the plan of what has those terms, with a dictionary of each limit up to as many terms as there are: what there was room for was interned.
func wantFull(t *testing.T, of func(*dict.Dict) (api.Plan, api.Errno), before []string, all ...string) {
	t.Helper()
	for limit := len(before); limit <= len(all)+1; limit++ {
		d := with(limit, before...)
		want := api.ErrFull
		if limit >= len(all) {
			want = api.OK
		}
		if p, e := of(d); e != want || e != api.OK && (!samePlan(p, api.Plan{}) || p.Steps != nil) {
			t.Errorf("with a limit of %d: %s, %v; want %v", limit, shown(p), e, want)
		}
		wantTerms(t, d, all[:min(limit, len(all))]...)
		if d.Limit() != limit {
			t.Errorf("the limit is %d; want %d", d.Limit(), limit)
		}
	}
}

// TestFull: a dictionary that is full before each of the terms, and one that is just full with the last one.
func TestFull(t *testing.T) {
	for _, l := range rulesAndPlans {
		r, all := rightRule(t, l.text), strings.Fields(l.terms)
		of := func(d *dict.Dict) (api.Plan, api.Errno) { return plan.Rule(d, r, l.order...) }
		wantFull(t, of, nil, all...)
		wantFull(t, of, []string{"other"}, append([]string{"other"}, all...)...)
	}
	for _, l := range queriesAndPlans {
		q, all := rightQuery(t, l.text), strings.Fields(l.terms)
		of := func(d *dict.Dict) (api.Plan, api.Errno) { return plan.Query(d, q, l.order...) }
		wantFull(t, of, nil, all...)
		wantFull(t, of, []string{"other"}, append([]string{"other"}, all...)...)
	}
	// Within the head, the body, a NOT, a condition; behind each there are terms that are there.
	r := rightRule(t, `(<a> <b> ?x) :- (?x <c> <a>), <d> = <b>, not (<e> <a> <f>), <a> != <g>, (<a> <h> ?x), <a> = <a> .`)
	of := func(d *dict.Dict) (api.Plan, api.Errno) { return plan.Rule(d, r) }
	wantFull(t, of, nil, "a", "b", "c", "d", "e", "f", "g", "h")
	wantFull(t, of, []string{"a", "h", "g"}, "a", "h", "g", "b", "c", "d", "e", "f")
	wantFull(t, of, []string{"h", "g", "f", "e", "d", "c", "b", "a"}, "h", "g", "f", "e", "d", "c", "b", "a")
}

// someTerms returns the terms that random parts have.
func someTerms() []api.Slot {
	l := []api.Slot{a, b, c}
	for _, t := range []api.Term{{Kind: api.Blank, Text: "a"}, {Kind: api.Plain, Text: "a"}, {Kind: api.Plain}, {Kind: api.Lang, Text: "a", Extra: "en"}, {Kind: api.Typed, Text: "a", Extra: "a"}} {
		l = append(l, api.Slot{Term: t})
	}
	return l
}

// randomSlot returns a slot: a variable, one of as many, or a term.
func randomSlot(rnd *rand.Rand, vars int) api.Slot {
	if rnd.Intn(3) > 0 && vars > 0 {
		return variable(string(rune('p' + rnd.Intn(vars))))
	}
	all := someTerms()
	return all[rnd.Intn(len(all))]
}

// randomBody returns parts, among them NOTs if there may be some.
func randomBody(rnd *rand.Rand, parts, vars int, nots bool) []api.Lit {
	var l []api.Lit
	slot := func() api.Slot { return randomSlot(rnd, vars) }
	for range rnd.Intn(parts) {
		switch k := rnd.Intn(6); {
		case k < 3:
			l = append(l, holds(api.Pattern{slot(), slot(), slot()}))
		case k == 3 && nots:
			l = append(l, not(api.Pattern{slot(), slot(), slot()}))
		case k == 4:
			l = append(l, same(slot(), slot()))
		default:
			l = append(l, unlike(slot(), slot()))
		}
	}
	return l
}

// TestRandom: rules and queries drawn at random, held against the chapter's words, and against what P13.3 says.
func TestRandom(t *testing.T) {
	rnd := rand.New(rand.NewSource(13))
	plans := 0
	for plans < 20000 {
		vars := rnd.Intn(7)
		slot := func() api.Slot { return randomSlot(rnd, vars) }
		r := rule(api.Pattern{slot(), slot(), slot()}, randomBody(rnd, 2+rnd.Intn(12), vars, plans%2 == 0)...)
		var order []int
		for _, l := range r.Body {
			if l.Kind == api.Holds {
				order = append(order, len(order))
			}
		}
		rnd.Shuffle(len(order), func(i, k int) { order[i], order[k] = order[k], order[i] })
		before := []string{"b", "x"}[:rnd.Intn(3)]
		if check.Rule(r) == api.OK {
			plans++
			d, other := with(20, before...), with(20, before...)
			wantRule(t, defined(other, r.Head, r.Body, names(r.Head, r.Body), order), d, r, order...)
			wantTerms(t, d, terms(other)...)
			p, _ := plan.Rule(d, r, order...)
			wantProperties(t, p)
		}
		q := api.Query{Ask: rnd.Intn(4) == 0, Body: r.Body}
		if !q.Ask {
			q.Vars = rules.Vars(r.Body...)
			rnd.Shuffle(len(q.Vars), func(i, k int) { q.Vars[i], q.Vars[k] = q.Vars[k], q.Vars[i] })
			q.Vars = q.Vars[:rnd.Intn(len(q.Vars)+1)]
		}
		if queries.May(q) {
			plans++
			d, other := with(20, before...), with(20, before...)
			want := defined(other, xyz, q.Body, plan.Vars(q), order)
			want.Head = [3]api.Place{}
			wantQuery(t, want, d, q, order...)
			wantTerms(t, d, terms(other)...)
			if len(plan.Vars(q)) != len(rules.Vars(q.Body...)) || !slices.Equal(plan.Vars(q)[:len(q.Vars)], q.Vars) {
				t.Errorf("Vars(%s) = %q", shown(q), plan.Vars(q))
			}
		}
	}
}

// names returns the variables of a rule, as they first occur.
func names(head api.Pattern, body []api.Lit) []string {
	return rules.Vars(append([]api.Lit{holds(head)}, body...)...)
}

// wantProperties checks that a condition, a NOT, and the head have only variables of patterns before them; and that variables are numbered without a gap.
func wantProperties(t *testing.T, p api.Plan) {
	t.Helper()
	known := make([]bool, p.Vars)
	isKnown := func(l ...api.Place) bool {
		return !slices.ContainsFunc(l, func(x api.Place) bool { return x.Var >= 0 && !known[x.Var] })
	}
	for _, s := range p.Steps {
		switch s.Kind {
		case api.StepMatch:
			for _, x := range s.Row {
				if x.Var >= 0 {
					known[x.Var] = true
				}
			}
		case api.StepAbsent:
			if !isKnown(s.Row[:]...) {
				t.Errorf("%s in %s", shown(s), shown(p))
			}
		default:
			if !isKnown(s.A, s.B) {
				t.Errorf("%s in %s", shown(s), shown(p))
			}
		}
	}
	if !isKnown(p.Head[:]...) || slices.Contains(known, false) {
		t.Errorf("%s: a variable occurs in no pattern", shown(p))
	}
}

// TestGreatest: rules and queries with as many parts, and variables, as there may be.
func TestGreatest(t *testing.T) {
	v := func(i int) api.Slot { return variable("v" + strconv.Itoa(i)) }
	r := rule(api.Pattern{v(191), v(0), v(100)})
	order := make([]int, api.MaxBody)
	for i := range api.MaxBody {
		r.Body = append(r.Body, holds(api.Pattern{v(3 * i), v(3*i + 1), v(3*i + 2)}))
		order[i] = (i*37 + 5) % api.MaxBody
	}
	wantRule(t, defined(with(0), r.Head, r.Body, check.Vars(r), order), with(0), r, order...)
	q := api.Query{Body: r.Body}
	for i := range api.MaxVars {
		q.Vars = append(q.Vars, v(5*(api.MaxVars-i)).Var)
	}
	want := defined(with(0), xyz, q.Body, plan.Vars(q), order)
	want.Head = [3]api.Place{}
	wantQuery(t, want, with(0), q, order...)
	// One pattern, at each place, and all else of one Kind, or of all.
	for _, others := range [][]api.Lit{{not(xyz)}, {same(x, y)}, {unlike(z, x)}, {not(abc)}, {not(xyz), same(y, z), unlike(x, a), not(abc), same(a, b)}} {
		for at := range api.MaxBody {
			var body []api.Lit
			for i := range api.MaxBody - 1 {
				body = append(body, others[i%len(others)])
			}
			r := rule(xyz, slices.Insert(body, at, holds(xyz))...)
			wantRule(t, defined(with(9), r.Head, r.Body, check.Vars(r), []int{0}), with(9), r)
		}
	}
}

// wantLooks checks the lookups of a plan, and the calls of both functions.
func wantLooks(t *testing.T, p api.Plan, want ...api.Look) {
	t.Helper()
	var rows, wantRows []api.Row
	var positions, wantPositions []int
	count := func(r api.Row) int {
		rows = append(rows, r)
		return 1000*int(r[0]) + 100*int(r[1]) + 10*int(r[2]) + 7
	}
	distinct := func(i int) int {
		positions = append(positions, i)
		return 20 + i
	}
	var none, counts, distincts []api.Look
	for _, l := range want {
		n := int(l.Count)
		wantRows = append(wantRows, api.Row{uint32(n / 1000), uint32(n / 100 % 10), uint32(n / 10 % 10)})
		wantPositions = append(wantPositions, 0, 1, 2)
		none = append(none, api.Look{Vars: l.Vars})
		counts = append(counts, api.Look{Count: l.Count, Vars: l.Vars})
		distincts = append(distincts, api.Look{Vars: l.Vars, Distinct: [3]float64{20, 21, 22}})
	}
	for _, x := range []struct {
		count    func(api.Row) int
		distinct func(int) int
		want     []api.Look
	}{{count, distinct, want}, {nil, nil, none}, {count, nil, counts}, {nil, distinct, distincts}} {
		rows, positions = nil, nil
		if l := plan.Looks(p, x.count, x.distinct); !slices.Equal(l, x.want) {
			t.Errorf("Looks(%s) =\n%s; want\n%s", shown(p), shown(l), shown(x.want))
		}
		if x.count != nil && !slices.Equal(rows, wantRows) || x.count == nil && rows != nil {
			t.Errorf("Looks(%s) counts %v; want %v", shown(p), rows, wantRows)
		}
		if x.distinct != nil && !slices.Equal(positions, wantPositions) || x.distinct == nil && positions != nil {
			t.Errorf("Looks(%s) asks about the positions %v; want %v", shown(p), positions, wantPositions)
		}
	}
}

// look returns what wantLooks wants of a pattern with those numbers and variables.
func look(count float64, vars ...int) api.Look {
	return api.Look{Count: count, Vars: [3]int(vars), Distinct: [3]float64{20, 21, 22}}
}

// TestLooks: the lookups of plans.
func TestLooks(t *testing.T) {
	for _, l := range []struct {
		plan string
		want []api.Look
	}{
		{"0 1 2; match 0 1 2", []api.Look{look(7, 0, 1, 2)}},
		{"; match #1 #2 #3", []api.Look{look(1237, -1, -1, -1)}},
		{"; match #4 0 #3", []api.Look{look(4037, -1, 0, -1)}},
		{"; match 0 #5 0", []api.Look{look(507, 0, -1, 0)}},
		{"; match #1 7 7", []api.Look{look(1007, -1, 7, 7)}},
		{"; match 3 3 #9", []api.Look{look(97, 3, 3, -1)}},
		{"; match 1 1 1", []api.Look{look(7, 1, 1, 1)}},
		// Each in the order of the steps, each as often as it stands there.
		{"0 #1 1; match 1 #2 0; unlike 0 1; match 0 #3 2", []api.Look{look(207, 1, -1, 0), look(307, 0, -1, 2)}},
		{"; match #3 2 1; match 0 #1 1; match #3 2 1", []api.Look{look(3007, -1, 2, 1), look(107, 0, -1, 1), look(3007, -1, 2, 1)}},
		// What is no match.
		{"", nil},
		{"#1 #2 #3", nil},
		{"#1 #2 #3; absent #1 #2 #3; same #1 #2; unlike #1 #2", nil},
		{"0 0 0; absent 0 1 2; match 0 #2 #1; same 0 1; unlike 0 1; absent #1 #2 #3", []api.Look{look(217, 0, -1, -1)}},
	} {
		p := planned(t, 3, l.plan)
		wantLooks(t, p, l.want...)
		// How many variables there are, and what the head is, has no part in it.
		p.Vars, p.Head = -1, [3]api.Place{}
		wantLooks(t, p, l.want...)
	}
	wantLooks(t, api.Plan{})
	wantLooks(t, api.Plan{Steps: []api.Step{}})
	// Steps of kinds that do not exist are no matches.
	for kind := api.StepKind(-2); kind < 9; kind++ {
		p := api.Plan{Steps: []api.Step{{Kind: kind, Row: [3]api.Place{{Var: -1, ID: 2}, {Var: 1}, {Var: 0}}}}}
		if kind == api.StepMatch {
			wantLooks(t, p, look(2007, -1, 1, 0))
		} else {
			wantLooks(t, p)
		}
	}
}

// TestLooksOdd: places, and answers, that no plan of a rule leads to.
func TestLooksOdd(t *testing.T) {
	match := func(l ...api.Place) api.Plan {
		return api.Plan{Steps: []api.Step{{Kind: api.StepMatch, Row: [3]api.Place(l)}}}
	}
	// A number below 0 is none of a variable; the ID of a variable has no meaning.
	wantLooks(t, match(api.Place{Var: -2, ID: 3}, api.Place{Var: 5, ID: 4}, api.Place{Var: math.MinInt, ID: 1}), look(3017, -1, 5, -1))
	wantLooks(t, match(api.Place{Var: -1}, api.Place{Var: math.MaxInt, ID: 9}, api.Place{Var: -1, ID: 2}), look(27, -1, math.MaxInt, -1))
	wantLooks(t, match(api.Place{Var: 0, ID: 9}, api.Place{Var: 1, ID: 8}, api.Place{Var: 0, ID: 7}), look(7, 0, 1, 0))
	p := match(api.Place{Var: -1, ID: math.MaxUint32}, api.Place{}, api.Place{})
	for _, n := range []int{0, 1, -1, 1 << 40, math.MaxInt32, math.MinInt32, 1 << 53, -1 << 62} {
		var r api.Row
		l := plan.Looks(p, func(x api.Row) int { r = x; return n }, func(i int) int { return n + i })
		want := api.Look{Count: float64(n), Vars: [3]int{-1, 0, 0}, Distinct: [3]float64{float64(n), float64(n + 1), float64(n + 2)}}
		if !slices.Equal(l, []api.Look{want}) || r != (api.Row{math.MaxUint32, 0, 0}) {
			t.Errorf("%v, of the row %v; want %v", l, r, want)
		}
	}
}

// TestLooksPanic: a function that panics answers 0, as one that is nil does; the others are called.
func TestLooksPanic(t *testing.T) {
	p := planned(t, 1, "; match #1 0 #2; match #2 0 #1; match 0 #3 0")
	var out []int
	count := func(r api.Row) int { return []int{5, 6, 7}[r[0]] / int(r[2]) }
	distinct := func(i int) int {
		if i == 1 {
			panic("no such position")
		}
		return 8 + i
	}
	want := []api.Look{{Count: 3, Vars: [3]int{-1, 0, -1}}, {Count: 7, Vars: [3]int{-1, 0, -1}}, {Vars: [3]int{0, -1, 0}}}
	for i := range want {
		want[i].Distinct = [3]float64{8, 0, 10}
	}
	if l := plan.Looks(p, count, distinct); !slices.Equal(l, want) {
		t.Errorf("%v; want %v", l, want)
	}
	for i := range want {
		want[i].Count, want[i].Distinct = 0, [3]float64{}
	}
	l := plan.Looks(p, func(api.Row) int { panic(nil) }, func(i int) int { return out[i] })
	if !slices.Equal(l, want) {
		t.Errorf("%v; want %v", l, want)
	}
}

// TestLooksOfTable: with the functions of a table the lookups are those that layer 12 orders.
func TestLooksOfTable(t *testing.T) {
	d, tab := dict.New(100), table.New()
	r := rightRule(t, `(?x <p> ?z) :- (?x <p> ?y), (?y <q> ?z), (?z <r> <a>) .`)
	p, _ := plan.Rule(d, r) // p q r a are 1 to 4
	for i := range uint32(10) {
		tab.Add(api.Row{10 + i%3, 1, 20 + i}, api.BitExplicit)
	}
	for _, row := range []api.Row{{5, 2, 6}, {7, 2, 6}, {6, 3, 4}, {6, 3, 5}} {
		tab.Add(row, api.BitDerived)
	}
	l := plan.Looks(p, tab.Count, tab.Distinct)
	want := []api.Look{{Count: 10, Vars: [3]int{0, -1, 2}}, {Count: 2, Vars: [3]int{2, -1, 1}}, {Count: 1, Vars: [3]int{1, -1, -1}}}
	for i := range want {
		want[i].Distinct = [3]float64{6, 3, 13}
	}
	if !slices.Equal(l, want) {
		t.Errorf("%v; want %v", l, want)
	}
	if order := cost.Order(l...); !slices.Equal(order, []int{2, 1, 0}) {
		t.Error(order)
	}
}

// TestNames: the variables of rules, in the order of their numbers.
func TestNames(t *testing.T) {
	wantNames := func(r api.Rule, want ...string) {
		t.Helper()
		if l := plan.Names(r); !slices.Equal(l, want) {
			t.Errorf("Names(%s) = %q; want %q", shown(r), l, want)
		}
		d := dict.New(100)
		if p, e := plan.Rule(d, r); e == api.OK && p.Vars != len(want) {
			t.Errorf("Rule(%s) has %d variables; want %d", shown(r), p.Vars, len(want))
		}
	}
	for text, want := range map[string]string{
		`(<a> <b> <c>) .`:                                                                 "",
		`(<a> <b> <c>) :- (<a> <?x> "?y") .`:                                              "",
		`(<a> <b> <c>) :- (?x <b> <c>) .`:                                                 "x",
		`(?z <p> ?y) :- (?x <p> ?y), (?w ?z ?x) .`:                                        "z y x w",
		`(?z <p> ?z) :- ?c = ?b, not (?d ?z ?e), (?a ?b ?c), (?d ?e ?z) .`:                "z c b d e a",
		`(?X <p> ?x) :- (?x <p> ?X), (?xx ?x1 ?XX) .`:                                     "X x xx x1 XX",
		`(?a ?b ?c) :- (?d ?e ?f), (?c ?b ?a), ?i != ?h, ?h != ?g, (?g ?h ?i), ?i = ?i .`: "a b c d e f i h g",
		// Such as have no plan.
		`(?z ?y ?x) .`:                         "z y x",
		`(?x <p> ?y) :- (?x <p> ?z) .`:         "x y z",
		`(<a> <b> <c>) :- not (?y ?x ?y) .`:    "y x",
		`(<a> <b> <c>) :- ?y = <x>, ?x = ?z .`: "y x z",
	} {
		wantNames(rightRule(t, text), strings.Fields(want)...)
	}
	wantNames(api.Rule{})
	wantNames(rule(api.Pattern{variable("1"), {}, variable("\xff")}, api.Lit{Kind: 7, Pattern: xyz, A: variable("A"), B: variable("1")}), "1", "\xff", "A")
	var want []string
	r := rule(abc)
	for i := range 3 * api.MaxBody {
		want = append(want, "v"+strconv.Itoa(1000-i))
	}
	for i := range api.MaxBody {
		r.Body = append(r.Body, holds(api.Pattern{variable(want[3*i]), variable(want[3*i+1]), variable(want[3*i+2])}))
	}
	wantNames(r, want...)
	r.Body = append(r.Body, r.Body...)
	wantNames(r, want...)
}

// TestVars: the variables of queries, in the order of their numbers.
func TestVars(t *testing.T) {
	wantVars := func(q api.Query, want ...string) {
		t.Helper()
		if l := plan.Vars(q); !slices.Equal(l, want) {
			t.Errorf("Vars(%s) = %q; want %q", shown(q), l, want)
		}
		d := dict.New(100)
		if p, e := plan.Query(d, q); e == api.OK && p.Vars != len(want) {
			t.Errorf("Query(%s) has %d variables; want %d", shown(q), p.Vars, len(want))
		}
	}
	for text, want := range map[string]string{
		`ask { (<a> <b> <c>) }`:             "",
		`ask { (<a> <?b> "?c") }`:           "",
		`ask { (?x <b> ?y), ?y = ?x }`:      "x y",
		`ask { ?y = ?x, (?x <b> ?y) }`:      "y x",
		`select ?x where { (?x <b> ?y) }`:   "x y",
		`select ?y where { (?x <b> ?y) }`:   "y x",
		`select ?z ?y where { (?x ?y ?z) }`: "z y x",
		`select distinct ?b ?d where { ?e = ?d, (?a ?b ?c), ?a != ?f, (?d ?e ?f) }`: "b d e a c f",
		`select ?X where { (?x ?X ?XX) }`:                                           "X x XX",
	} {
		wantVars(rightQuery(t, text), strings.Fields(want)...)
	}
	// Such as are not valid.
	wantVars(api.Query{})
	wantVars(api.Query{Vars: []string{"y", "w", "y"}, Body: []api.Lit{not(xyz)}}, "y", "w", "x", "z")
	wantVars(api.Query{Ask: true, Vars: []string{"x", "", "x"}, Body: []api.Lit{{Kind: 9, Pattern: xyz, A: variable("a"), B: x}, {}}}, "x", "a")
	var want []string
	var q api.Query
	for i := range 2000 {
		want = append(want, "v"+strconv.Itoa(3000-i))
		q.Vars = append(q.Vars, want[i/2])
	}
	for i := range want {
		q.Body = append(q.Body, same(variable(want[i]), variable(want[i/2])))
	}
	wantVars(q, want...)
}

// TestNew: answers share nothing with what was given, or with each other.
func TestNew(t *testing.T) {
	r, q := rightRule(t, threePatterns+" ."), rightQuery(t, `select ?y where { (?x <p> ?y), ?x != ?y, (?y <p> ?x) }`)
	d := dict.New(100)
	change := func(p api.Plan) {
		for i := range p.Steps {
			p.Steps[i] = api.Step{Kind: 9}
		}
		_ = append(p.Steps[:1], api.Step{Kind: 8})
	}
	first, _ := plan.Rule(d, r, 2, 1, 0)
	second, _ := plan.Rule(d, r, 2, 1, 0)
	change(first)
	wantRule(t, second, d, r, 2, 1, 0)
	first, _ = plan.Query(d, q)
	second, _ = plan.Query(d, q)
	change(first)
	wantQuery(t, second, d, q)
	looks, again := plan.Looks(second, nil, nil), plan.Looks(second, nil, nil)
	for i := range looks {
		looks[i] = api.Look{Count: 9}
	}
	_ = append(looks[:1], api.Look{Count: 8})
	if !slices.Equal(again, plan.Looks(second, nil, nil)) || again[0].Count != 0 {
		t.Error(again)
	}
	for _, of := range []func() []string{func() []string { return plan.Names(r) }, func() []string { return plan.Vars(q) }} {
		l, want := of(), of()
		for i := range l {
			l[i] = "other"
		}
		_ = append(l[:1], "another")
		if !slices.Equal(of(), want) || slices.Contains(want, "other") {
			t.Error(of(), want)
		}
	}
	if !slices.Equal(q.Vars, []string{"y"}) {
		t.Error(q.Vars)
	}
}

// TestArguments: what is given stays as it is, also what is behind its end.
func TestArguments(t *testing.T) {
	r, q := rightRule(t, threePatterns+" ."), rightQuery(t, `select ?z ?x where { ?x = ?z, (?x <a> ?z), <b> != ?y, (?y <a> ?z) }`)
	r.Body = append(r.Body, slices.Repeat([]api.Lit{not(abc)}, 20)...)[:len(r.Body)]
	q.Body = append(q.Body, slices.Repeat([]api.Lit{not(abc)}, 20)...)[:len(q.Body)]
	q.Vars = append(q.Vars, slices.Repeat([]string{"w"}, 20)...)[:len(q.Vars)]
	orders := [][]int{{2, 1, 0, 9, 8}, {1, 0, 9, 8}, {2, 2, 1, 9}, {5, 4, 3, 2, 1}}
	other, ask := rules.Copy(r), queries.Copy(q)
	other.Body, ask.Body, ask.Vars = slices.Clone(r.Body[:cap(r.Body)]), slices.Clone(q.Body[:cap(q.Body)]), slices.Clone(q.Vars[:cap(q.Vars)])
	for _, order := range orders {
		kept := slices.Clone(order)
		for n := range order {
			d := dict.New(100)
			plan.Rule(d, r, order[:n]...)
			p, _ := plan.Query(d, q, order[:n]...)
			steps := slices.Clone(p.Steps)
			plan.Looks(p, nil, nil)
			plan.Names(r)
			plan.Vars(q)
			if !slices.Equal(p.Steps, steps) {
				t.Error("the plan is changed")
			}
		}
		if !slices.Equal(order, kept) {
			t.Errorf("%v; want %v", order, kept)
		}
	}
	if r.Head != other.Head || !slices.Equal(r.Body[:cap(r.Body)], other.Body) {
		t.Error("the rule is changed")
	}
	if !slices.Equal(q.Body[:cap(q.Body)], ask.Body) || !slices.Equal(q.Vars[:cap(q.Vars)], ask.Vars) {
		t.Error("the query is changed")
	}
}

// TestLater: a plan stays as it is when its dictionary changes.
func TestLater(t *testing.T) {
	d, r := dict.New(100), rightRule(t, `(?x <p> ?y) :- (?y <q> ?x), ?x != <r> .`)
	want := planned(t, 2, "0 #1 1; match 1 #2 0; unlike 0 #3")
	p, _ := plan.Rule(d, r)
	d.Cut(0)
	d.Intern(iri("q").Term)
	if !samePlan(p, want) {
		t.Error(shown(p))
	}
	wantRule(t, planned(t, 2, "0 #2 1; match 1 #1 0; unlike 0 #3"), d, r)
}
