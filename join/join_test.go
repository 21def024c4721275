package join_test

import (
	"fmt"
	"iter"
	"math"
	"math/rand"
	"slices"
	"strconv"
	"strings"
	"testing"

	"rhizome/api"
	"rhizome/dict"
	"rhizome/join"
	"rhizome/plan"
	"rhizome/rules"
	"rhizome/table"
)

const (
	explicit = api.BitExplicit
	derived  = api.BitDerived
	marked   = api.BitMarked
	holding  = explicit | derived
	anyBits  = api.Bits(math.MaxUint8)
)

// entry is a row, and its bits.
type entry struct {
	row  api.Row
	bits api.Bits
}

// list is what a table has, for tests that go over all of it.
type list []entry

// table returns the table that has the rows of l.
func (l list) table(t *testing.T) *table.Table {
	t.Helper()
	tab := table.New()
	for n, x := range l {
		if m, came := tab.Add(x.row, anyBits); m != n || !came {
			t.Fatalf("Add(%d) = %d, %v; want %d, true", x.row, m, came, n)
		}
		tab.Clear(n, ^x.bits)
	}
	return tab
}

// sample has rows of few numbers, with all bits.
func sample() list {
	return list{
		{api.Row{1, 2, 3}, explicit},
		{api.Row{3, 2, 1}, derived},
		{api.Row{1, 2, 1}, holding},
		{api.Row{2, 2, 2}, explicit | marked},
		{api.Row{3, 4, 2}, derived | marked},
		{api.Row{1, 4, 1}, marked},
		{api.Row{2, 4, 3}, 0},
		{api.Row{3, 4, 3}, explicit},
		{api.Row{5, 5, 1}, explicit},
		{api.Row{1, 6, 6}, derived},
	}
}

// place returns the place of a text: '2' is the variable 2, '#2' the number 2, '-4#2' the number 2 beside the variable -4.
func place(t *testing.T, text string) api.Place {
	t.Helper()
	v, id, isNumber := strings.Cut(text, "#")
	if v == "" {
		v = "-1"
	}
	p := api.Place{}
	var err error
	if p.Var, err = strconv.Atoi(v); err != nil {
		t.Fatalf("%q is no place", text)
	}
	if isNumber {
		n, err := strconv.ParseUint(id, 10, 32)
		if err != nil {
			t.Fatalf("%q is no place", text)
		}
		p.ID = uint32(n)
	}
	return p
}

// row returns the places of three texts.
func row(t *testing.T, words []string) [3]api.Place {
	t.Helper()
	if len(words) != 3 {
		t.Fatalf("%q are no three places", words)
	}
	return [3]api.Place{place(t, words[0]), place(t, words[1]), place(t, words[2])}
}

// planned returns the plan of a text: its steps, each behind the one before it and a ';'.
func planned(t *testing.T, vars int, text string) api.Plan {
	t.Helper()
	kinds := map[string]api.StepKind{"match": api.StepMatch, "absent": api.StepAbsent, "same": api.StepSame, "unlike": api.StepUnlike}
	p := api.Plan{Vars: vars}
	for part := range strings.SplitSeq(text, ";") {
		words := strings.Fields(part)
		if len(words) == 0 {
			continue
		}
		s := api.Step{Kind: kinds[words[0]]}
		switch words = words[1:]; s.Kind {
		case api.StepMatch, api.StepAbsent:
			s.Row = row(t, words)
		case api.StepSame, api.StepUnlike:
			s.A, s.B = place(t, words[0]), place(t, words[1])
		default:
			t.Fatalf("%q is no step", part)
		}
		p.Steps = append(p.Steps, s)
	}
	return p
}

// isValid reports whether there can be bindings of p, by the words of the chapter.
func isValid(p api.Plan) bool {
	if p.Vars < 0 {
		return false
	}
	known := map[int]bool{}
	for _, s := range p.Steps {
		places := s.Row[:]
		switch s.Kind {
		case api.StepMatch, api.StepAbsent:
		case api.StepSame, api.StepUnlike:
			places = []api.Place{s.A, s.B}
		default:
			return false
		}
		for _, x := range places {
			if x.Var > p.Vars-1 {
				return false
			}
			if x.Var >= 0 && s.Kind != api.StepMatch && !known[x.Var] {
				return false
			}
		}
		for _, x := range places {
			known[x.Var] = true
		}
	}
	return true
}

// valued returns the number of a place by a binding.
func valued(x api.Place, binding []uint32) uint32 {
	if x.Var < 0 {
		return x.ID
	}
	return binding[x.Var]
}

// fits reports whether a row has the numbers that are known of a pattern.
func fits(pattern [3]api.Place, binding []uint32, r api.Row) bool {
	for i, x := range pattern {
		if n := valued(x, binding); n != 0 && n != r[i] {
			return false
		}
	}
	return true
}

// bound puts the numbers of a row into a binding; it reports whether they agree with what it has.
func bound(pattern [3]api.Place, binding []uint32, r api.Row) bool {
	for i, x := range pattern {
		if x.Var < 0 {
			continue
		}
		if n := binding[x.Var]; n != 0 && n != r[i] {
			return false
		}
		binding[x.Var] = r[i]
	}
	return true
}

// viewed returns the view of the match k.
func viewed(l list, k int, views []api.View) api.View {
	if k < len(views) {
		return views[k]
	}
	return api.View{To: len(l), Bits: holding}
}

// inView reports whether a view has the row n of l.
func inView(l list, n int, v api.View) bool {
	return n >= v.From && n < v.To && l[n].bits&v.Bits != 0
}

// holds reports whether a condition, or a NOT, holds with a binding.
func holds(l list, s api.Step, binding []uint32) bool {
	switch s.Kind {
	case api.StepSame:
		return valued(s.A, binding) == valued(s.B, binding)
	case api.StepUnlike:
		return valued(s.A, binding) != valued(s.B, binding)
	}
	return !slices.ContainsFunc(l, func(x entry) bool {
		return x.bits&holding != 0 && fits(s.Row, binding, x.row)
	})
}

// tried returns the bindings of p, found by trying all rows for all matches: what holds is asked when all rows are chosen.
func tried(l list, p api.Plan, views []api.View) [][]uint32 {
	var matches, others []api.Step
	for _, s := range p.Steps {
		if s.Kind == api.StepMatch {
			matches = append(matches, s)
		} else {
			others = append(others, s)
		}
	}
	var found [][]uint32
	if !isValid(p) || len(l) == 0 && len(matches) > 0 {
		return nil
	}
	chosen := make([]int, len(matches))
	for {
		binding := make([]uint32, p.Vars)
		ok := true
		for k, n := range chosen {
			ok = ok && inView(l, n, viewed(l, k, views)) && fits(matches[k].Row, binding, l[n].row) && bound(matches[k].Row, binding, l[n].row)
		}
		for _, s := range others {
			ok = ok && holds(l, s, binding)
		}
		if ok {
			found = append(found, binding)
		}
		k := len(chosen) - 1
		for ; k >= 0 && chosen[k] == len(l)-1; k-- {
			chosen[k] = 0
		}
		if k < 0 {
			return found
		}
		chosen[k]++
	}
}

// execution goes step by step: it counts rows.
type execution struct {
	l        list
	p        api.Plan
	views    []api.View
	examined int
	after    []int // how many rows were examined when each binding was found
}

// executed returns how many rows p examines, and how many when each of its bindings is found.
func executed(l list, p api.Plan, views []api.View) (int, []int) {
	x := &execution{l: l, p: p, views: views}
	if isValid(p) {
		x.step(0, 0, make([]uint32, p.Vars))
	}
	return x.examined, x.after
}

// step executes the step i, which is behind k matches, and those that follow it.
func (x *execution) step(i, k int, binding []uint32) {
	if i == len(x.p.Steps) {
		x.after = append(x.after, x.examined)
		return
	}
	s := x.p.Steps[i]
	if s.Kind != api.StepMatch {
		if holds(x.l, s, binding) {
			x.step(i+1, k, binding)
		}
		return
	}
	for n, e := range x.l {
		if !inView(x.l, n, viewed(x.l, k, x.views)) || !fits(s.Row, binding, e.row) {
			continue
		}
		x.examined++
		if b := slices.Clone(binding); bound(s.Row, b, e.row) {
			x.step(i+1, k+1, b)
		}
	}
}

// collected returns what an iteration goes over.
func collected(seq iter.Seq[[]uint32]) [][]uint32 {
	var l [][]uint32
	for b := range seq {
		l = append(l, b)
	}
	return l
}

// shown is how tests tell of bindings: (1 2)(1 3).
func shown(l [][]uint32) string {
	var s strings.Builder
	for _, b := range l {
		s.WriteString("(" + strings.Trim(fmt.Sprint(b), "[]") + ")")
	}
	return s.String()
}

// same reports whether two lists have the same bindings.
func same(a, b [][]uint32) bool {
	return slices.EqualFunc(a, b, slices.Equal[[]uint32])
}

// wants fails if Run, or Steps with any most, does not answer what the chapter's words say.
func wants(t *testing.T, l list, p api.Plan, views ...api.View) {
	t.Helper()
	tab, want := l.table(t), tried(l, p, views)
	if got := collected(join.Run(tab, p, views...)); !same(got, want) {
		t.Fatalf("Run(%v, %+v, %v) goes over %s; want %s", l, p, views, shown(got), shown(want))
	}
	total, after := executed(l, p, views)
	if len(after) != len(want) {
		t.Fatalf("the definitions differ: %v; %s", after, shown(want))
	}
	for _, most := range []int{math.MinInt, -1, 0, 1, 2, 3, total / 2, total - 2, total - 1, total, total + 1, math.MaxInt} {
		wantSteps(t, tab, p, most, want, total, after, views...)
	}
}

// wantSteps fails if Steps does not answer what it should, where so many rows are examined in all, and so many when each binding is found.
func wantSteps(t *testing.T, tab *table.Table, p api.Plan, most int, want [][]uint32, total int, after []int, views ...api.View) {
	t.Helper()
	examined, wantE := total, api.OK
	if total > max(most, 0) {
		examined, wantE = max(most, 0), api.ErrFull
		n := 0
		for n < len(after) && after[n] <= examined {
			n++
		}
		want = want[:n]
	}
	got, n, e := join.Steps(tab, p, most, views...)
	if !same(got, want) || n != examined || e != wantE {
		t.Fatalf("Steps(%+v, %d, %v) = %s, %d, %v; want %s, %d, %v", p, most, views, shown(got), n, e, shown(want), examined, wantE)
	}
}

// plans are plans over the sample, without views, and their bindings.
var plans = []struct {
	vars int
	plan string
	want string
}{
	// Without steps.
	{0, "", "()"},
	{1, "", "(0)"},
	{3, "", "(0 0 0)"},
	// One match: any row, in the order of the numbers, of those that hold.
	{3, "match 0 1 2", "(1 2 3)(3 2 1)(1 2 1)(2 2 2)(3 4 2)(3 4 3)(5 5 1)(1 6 6)"},
	{3, "match 2 0 1", "(2 3 1)(2 1 3)(2 1 1)(2 2 2)(4 2 3)(4 3 3)(5 1 5)(6 6 1)"},
	{2, "match 0 #2 1", "(1 3)(3 1)(1 1)(2 2)"},
	{2, "match 1 #2 0", "(3 1)(1 3)(1 1)(2 2)"},
	{2, "match #1 0 1", "(2 3)(2 1)(6 6)"},
	{2, "match 0 1 #1", "(3 2)(1 2)(5 5)"},
	{1, "match #3 0 #1", "(2)"},
	{1, "match #3 #4 0", "(2)(3)"},
	{1, "match 0 #2 #3", "(1)"},
	{1, "match 0 #7 #3", ""},
	{2, "match 0 #4294967295 1", ""},
	// Without variables.
	{0, "match #1 #2 #3", "()"},
	{2, "match #1 #2 #3", "(0 0)"},
	{0, "match #1 #2 #2", ""},
	{0, "match #1 #4 #1", ""},
	{0, "match #2 #4 #3", ""},
	{0, "match #1 #2 #3; match #3 #2 #1", "()"},
	{0, "match #1 #2 #3; match #3 #2 #2", ""},
	{0, "match #3 #2 #2; match #1 #2 #3", ""},
	// A variable at two positions, and at all three.
	{2, "match 0 1 0", "(1 2)(2 2)(3 4)"},
	{2, "match 0 0 1", "(2 2)(5 1)"},
	{2, "match 1 0 0", "(2 2)(6 1)"},
	{1, "match 0 #2 0", "(1)(2)"},
	{1, "match 0 0 #1", "(5)"},
	{1, "match #1 0 0", "(6)"},
	{1, "match 0 0 0", "(2)"},
	// Variables that no step names, in front of those that are named, between them, and behind them.
	{4, "match 1 #2 1", "(0 1 0 0)(0 2 0 0)"},
	{5, "match 3 #4 1", "(0 2 0 3 0)(0 3 0 3 0)"},
	{3, "match #1 #2 2", "(0 0 3)(0 0 1)"},
	// The last variable, and one behind it.
	{6, "match 5 #2 4", "(0 0 0 0 3 1)(0 0 0 0 1 3)(0 0 0 0 1 1)(0 0 0 0 2 2)"},
	{5, "match 5 #2 4", ""},
	{1, "match 0 #2 1", ""},
	{1, "match 1 #2 0", ""},
	{1, "match 0 1 #3", ""},
	{0, "match 0 #2 #3", ""},
	{0, "match #1 #2 0", ""},
	{0, "match #1 #2 #3; match 0 #2 #3", ""},
	{2, "match 0 #2 1; match 1 #2 2", ""},
	{2, "match 0 #2 1; match 9223372036854775807 #2 1", ""},
	// Variables below 0: the number beside them is meant.
	{1, "match -5#1 -2#2 0", "(3)(1)"},
	{1, "match 0 #2 -9223372036854775808#1", "(3)(1)"},
	{0, "match -3#1 -3#2 -3#3", "()"},
	{0, "match -3#1 -3#2 -3#2", ""},
	// The number 0 is any: a binding comes once for each row.
	{1, "match 0 #2 #0", "(1)(3)(1)(2)"},
	{1, "match #0 #0 0", "(3)(1)(1)(2)(2)(3)(1)(6)"},
	{0, "match #0 #4 #0", "()()"},
	{0, "match #0 #0 #0", "()()()()()()()()"},
	{0, "match #0 #4 #0; match #0 #2 #0", "()()()()()()()()"},
	{1, "match 0 #4 #0; match 0 #2 #0", "(3)(3)"},
	{1, "match #0 0 0", "(2)(6)"},
	// Several that share variables.
	{2, "match 0 #2 1; match 1 #2 0", "(1 3)(3 1)(1 1)(2 2)"},
	{3, "match 0 #2 1; match 1 #2 2", "(1 3 1)(3 1 3)(3 1 1)(1 1 3)(1 1 1)(2 2 2)"},
	{3, "match 1 #2 2; match 0 #2 1", "(3 1 3)(1 1 3)(1 3 1)(3 1 1)(1 1 1)(2 2 2)"},
	{3, "match 0 #2 1; match 1 #4 2", "(1 3 2)(1 3 3)"},
	{3, "match 1 #4 2; match 0 #2 1", "(1 3 2)(1 3 3)"},
	{4, "match 0 #2 1; match 1 #4 2; match 2 #2 3", "(1 3 2 2)(1 3 3 1)"},
	{4, "match 2 #2 3; match 1 #4 2; match 0 #2 1", "(1 3 3 1)(1 3 2 2)"},
	{3, "match 0 1 0; match 0 2 1", "(2 2 2)"},
	{2, "match 0 1 0; match 1 1 0", "(2 2)"},
	{4, "match 0 #4 1; match 2 #6 3", "(3 2 1 6)(3 3 1 6)"},
	{2, "match 0 #2 1; match 0 #2 1", "(1 3)(3 1)(1 1)(2 2)"},
	{2, "match 0 #2 1; match 1 #7 0", ""},
	{3, "match 0 #7 1; match 1 #2 2", ""},
	{2, "match 0 #4 1; match 1 1 1", "(3 2)"},
	// Rows that do not fit are passed by, wherever they stand.
	{2, "match 0 0 1; match 1 #2 0", "(2 2)"},
	{3, "match 0 1 2; match 2 2 0", "(2 2 2)"},
	{3, "match 0 1 2; match 2 1 1", "(2 2 2)"},
	{2, "match 0 1 1; match 1 1 0; unlike 0 1", ""},
	{3, "match 0 1 2; match 0 2 2", "(2 2 2)(1 6 6)"},
}

// wantPlans fails if the plans of a table do not have those bindings, by Run and by the definition.
func wantPlans(t *testing.T, l list, plans []struct {
	vars int
	plan string
	want string
}) {
	t.Helper()
	tab := l.table(t)
	for _, x := range plans {
		p := planned(t, x.vars, x.plan)
		if got := shown(collected(join.Run(tab, p))); got != x.want {
			t.Errorf("%q goes over %s; want %s", x.plan, got, x.want)
		}
		if got := shown(tried(l, p, nil)); got != x.want {
			t.Errorf("%q has by the definition %s; want %s", x.plan, got, x.want)
		}
		wants(t, l, p)
	}
}

// P14.1: plans with matches alone.
func TestRun(t *testing.T) {
	wantPlans(t, sample(), plans)
}

// P14.1: places that a step of its kind does not have, and the head, have no part in it.
func TestOtherPlaces(t *testing.T) {
	l := sample()
	for _, x := range slices.Concat(plans, absents, conditions) {
		p := planned(t, x.vars, x.plan)
		for i := range p.Steps {
			s := &p.Steps[i]
			if s.Kind == api.StepMatch || s.Kind == api.StepAbsent {
				s.A, s.B = api.Place{Var: x.vars + 3}, api.Place{Var: math.MaxInt, ID: 3}
			} else {
				s.Row = [3]api.Place{{Var: x.vars}, {Var: 99}, {Var: 0, ID: 2}}
			}
			// What is beside a variable is no number.
			for k := range s.Row {
				if s.Row[k].Var >= 0 {
					s.Row[k].ID = uint32(k) + 7
				}
			}
			if s.A.Var >= 0 {
				s.A.ID = 5
			}
			if s.B.Var >= 0 {
				s.B.ID = 6
			}
		}
		p.Head = [3]api.Place{{Var: 77}, {Var: math.MaxInt}, {Var: -1}}
		if got := shown(collected(join.Run(l.table(t), p))); got != x.want {
			t.Errorf("%q with odd places goes over %s; want %s", x.plan, got, x.want)
		}
	}
}

// absents are plans over the sample with NOTs.
var absents = []struct {
	vars int
	plan string
	want string
}{
	// Without variables: ahead of the matches, between them, behind them, alone.
	{0, "absent #1 #2 #3", ""},
	{0, "absent #1 #2 #2", "()"},
	{2, "absent #1 #2 #2", "(0 0)"},
	{0, "absent #1 #2 #2; absent #1 #2 #3", ""},
	{0, "absent #1 #2 #3; absent #1 #2 #2", ""},
	{0, "absent #1 #2 #2; absent #3 #2 #3", "()"},
	{2, "absent #1 #2 #3; match 0 #2 1", ""},
	{2, "absent #1 #3 #3; match 0 #2 1", "(1 3)(3 1)(1 1)(2 2)"},
	{2, "match 0 #2 1; absent #1 #2 #3", ""},
	{2, "match 0 #2 1; absent #1 #3 #3", "(1 3)(3 1)(1 1)(2 2)"},
	{3, "match 0 #2 1; absent #1 #3 #3; match 1 #4 2", "(1 3 2)(1 3 3)"},
	{3, "match 0 #2 1; absent #3 #2 #1; match 1 #4 2", ""},
	// With variables, behind their match, at once and later.
	{2, "match 0 #2 1; absent 1 #2 0", ""},
	{2, "match 0 #4 1; absent 1 #4 0", "(3 2)"},
	{2, "match 0 #2 1; absent 1 #4 1", "(3 1)(1 1)(2 2)"},
	{2, "match 0 #2 1; absent 1 #4 #2", "(3 1)(1 1)(2 2)"},
	{1, "match 0 #2 0; absent 0 0 0", "(1)"},
	{3, "match 0 #2 1; absent 0 #2 0; match 1 #2 2", "(3 1 3)(3 1 1)"},
	{3, "match 0 #2 1; match 1 #2 2; absent 0 #2 0", "(3 1 3)(3 1 1)"},
	{3, "match 0 #2 1; match 1 #2 2; absent 0 #2 2", "(3 1 3)"},
	{3, "match 0 #2 1; match 1 #2 2; absent 0 #2 2; absent 1 #4 0", "(3 1 3)"},
	{3, "match 0 #2 1; match 1 #2 2; absent 0 #2 2; absent 1 #2 0", ""},
	{3, "match 0 #2 1; absent 1 #4 #3; match 1 #2 2", "(3 1 3)(3 1 1)(1 1 3)(1 1 1)(2 2 2)"},
	// A row that is out, or has other bits alone, is none.
	{0, "absent #2 #4 #3", "()"},
	{0, "absent #1 #4 #1", "()"},
	{0, "absent #3 #4 #2", ""},
	{0, "absent #2 #2 #2", ""},
	{0, "absent #3 #2 #1", ""},
	{0, "absent #1 #2 #1", ""},
	{1, "match 0 #2 #1; absent 0 #4 #1", "(3)(1)"},
	{1, "match #1 #2 0; absent #2 #4 0", "(3)(1)"},
	// The number 0 is any.
	{0, "absent #1 #0 #3", ""},
	{0, "absent #2 #4 #0", "()"},
	{0, "absent #0 #0 #0", ""},
	{0, "absent #0 #4 #1", "()"},
	{1, "match 0 #2 #0; absent 0 #4 #0", "(1)(1)(2)"},
	// Numbers beside variables below 0.
	{1, "match 0 #2 0; absent 0 -2#2 -9#3", "(2)"},
	// Variables that are not known yet, or are none.
	{2, "absent 0 #2 1; match 0 #2 1", ""},
	{2, "absent #9 #9 0; match 0 #2 1", ""},
	{3, "match 0 #2 1; absent 1 #9 2; match 1 #2 2", ""},
	{3, "match 0 #2 1; absent 2 #9 #9", ""},
	{3, "match 0 #2 1; absent #9 2 #9", ""},
	{3, "match 0 #2 1; absent #9 #9 2", ""},
	{3, "match 0 #2 1; absent #9 #9 #9; absent 0 2 1", ""},
	{1, "absent 0 #9 #9", ""},
	{0, "absent 0 #9 #9", ""},
	{2, "match 0 #2 1; absent 0 1 2", ""},
	{2, "match 0 #2 1; absent 0 1 9223372036854775807", ""},
}

// P14.1: plans with NOTs.
func TestAbsent(t *testing.T) {
	wantPlans(t, sample(), absents)
}

// conditions are plans over the sample with conditions.
var conditions = []struct {
	vars int
	plan string
	want string
}{
	// Of two numbers: at the beginning, alone, between matches, at the end.
	{0, "same #1 #1", "()"},
	{0, "same #1 #2", ""},
	{0, "same #4294967295 #4294967295", "()"},
	{0, "unlike #1 #2", "()"},
	{0, "unlike #1 #1", ""},
	{1, "same #0 #0", "(0)"},
	{1, "unlike #0 #0", ""},
	{0, "same #0 #1", ""},
	{0, "unlike #1 #0", "()"},
	{0, "same -1#3 -8#3", "()"},
	{0, "unlike -1#3 -8#3", ""},
	{2, "same #2 #2; match 0 #2 1", "(1 3)(3 1)(1 1)(2 2)"},
	{2, "same #2 #3; match 0 #2 1", ""},
	{2, "unlike #2 #3; match 0 #2 1", "(1 3)(3 1)(1 1)(2 2)"},
	{2, "unlike #2 #2; match 0 #2 1", ""},
	{2, "same #2 #2; unlike #2 #2; match 0 #2 1", ""},
	{2, "match 0 #2 1; same #2 #2", "(1 3)(3 1)(1 1)(2 2)"},
	{2, "match 0 #2 1; unlike #2 #2", ""},
	{3, "match 0 #2 1; unlike #2 #3; match 1 #4 2", "(1 3 2)(1 3 3)"},
	{3, "match 0 #2 1; same #2 #3; match 1 #4 2", ""},
	// Of two variables.
	{2, "match 0 #2 1; same 0 1", "(1 1)(2 2)"},
	{2, "match 0 #2 1; same 1 0", "(1 1)(2 2)"},
	{2, "match 0 #2 1; unlike 0 1", "(1 3)(3 1)"},
	{2, "match 0 #2 1; unlike 1 0", "(1 3)(3 1)"},
	{2, "match 0 #2 1; same 1 1", "(1 3)(3 1)(1 1)(2 2)"},
	{2, "match 0 #2 1; unlike 0 0", ""},
	{3, "match 0 #2 1; unlike 0 1; match 1 #2 2", "(1 3 1)(3 1 3)(3 1 1)"},
	{3, "match 0 #2 1; match 1 #2 2; unlike 0 1", "(1 3 1)(3 1 3)(3 1 1)"},
	{3, "match 0 #2 1; match 1 #2 2; unlike 0 2", "(3 1 1)(1 1 3)"},
	{3, "match 0 #2 1; match 1 #2 2; same 2 0", "(1 3 1)(3 1 3)(1 1 1)(2 2 2)"},
	{3, "match 0 #2 1; unlike 0 1; match 1 #2 2; unlike 2 0", "(3 1 1)"},
	{3, "match 0 #2 1; match 1 #2 2; same 0 1; same 1 2", "(1 1 1)(2 2 2)"},
	// Of a variable and a number.
	{2, "match 0 #2 1; same 1 #1", "(3 1)(1 1)"},
	{2, "match 0 #2 1; same #1 1", "(3 1)(1 1)"},
	{2, "match 0 #2 1; unlike 1 #1", "(1 3)(2 2)"},
	{2, "match 0 #2 1; unlike #1 1", "(1 3)(2 2)"},
	{2, "match 0 #2 1; same -3#3 0", "(3 1)"},
	{2, "match 0 #2 1; same 0 #0", ""},
	{2, "match 0 #2 1; unlike #0 0", "(1 3)(3 1)(1 1)(2 2)"},
	// Beside NOTs.
	{2, "match 0 #2 1; unlike 0 1; absent 1 #4 1", "(3 1)"},
	{2, "match 0 #2 1; absent 1 #4 1; unlike 0 1", "(3 1)"},
	// Of a variable that is not known yet, or is none.
	{1, "same 0 0", ""},
	{1, "unlike 0 #1", ""},
	{1, "same #0 0", ""},
	{2, "same 0 1; match 0 #2 1", ""},
	{2, "unlike 0 1; match 0 #2 1", ""},
	{2, "same 0 0; match 0 #2 1", ""},
	{2, "unlike #1 1; match 0 #2 1", ""},
	{3, "match 0 #2 1; unlike 0 2; match 1 #2 2", ""},
	{3, "match 0 #2 1; unlike 2 0; match 1 #2 2", ""},
	{3, "match 0 #2 1; same 1 2", ""},
	{3, "match 0 #2 1; unlike 2 #1", ""},
	{2, "match 0 #2 1; unlike 1 2", ""},
	{2, "match 0 #2 1; unlike 2 1", ""},
	{2, "match 0 #2 1; unlike 9223372036854775807 #1", ""},
	{0, "unlike 0 #1", ""},
}

// P14.1: plans with conditions.
func TestConditions(t *testing.T) {
	wantPlans(t, sample(), conditions)
}

// P14.1: steps of kinds that do not exist, wherever they stand.
func TestKinds(t *testing.T) {
	l := sample()
	for _, kind := range []api.StepKind{0, 5, 6, -1, math.MinInt, math.MaxInt, 256 + 1} {
		for _, x := range []string{"", "match 0 #2 1", "absent #1 #1 #1; match 0 #2 1; unlike 0 1; match 1 #2 0", "same #1 #1"} {
			p := planned(t, 2, x)
			for at := range len(p.Steps) + 1 {
				odd := p
				odd.Steps = slices.Insert(slices.Clone(p.Steps), at, api.Step{Kind: kind, Row: row(t, []string{"#1", "#2", "#3"}), A: api.Place{Var: -1}, B: api.Place{Var: -1}})
				if got := collected(join.Run(l.table(t), odd)); got != nil {
					t.Errorf("with the kind %d at %d, %q goes over %s", kind, at, x, shown(got))
				}
				wants(t, l, odd)
			}
		}
	}
}

// P14.1: plans that have less than no variables, whatever their steps are.
func TestVarsBelowZero(t *testing.T) {
	l := sample()
	for _, vars := range []int{-1, -2, math.MinInt} {
		for _, x := range []string{"", "match #1 #2 #3", "match -9#1 #2 #3", "match 0 #2 1", "absent #1 #1 #1", "same #1 #1", "unlike -2#1 -3#2"} {
			p := planned(t, vars, x)
			if got := collected(join.Run(l.table(t), p)); got != nil {
				t.Errorf("with %d variables, %q goes over %s", vars, x, shown(got))
			}
			if got, n, e := join.Steps(l.table(t), p, 100); got != nil || n != 0 || e != api.OK {
				t.Errorf("with %d variables, %q has %s, %d, %v", vars, x, shown(got), n, e)
			}
		}
	}
}

// P14.1, P0.7: plans that say that they have very many variables; also those for whose bindings there is no room.
func TestManyVars(t *testing.T) {
	l := sample()
	tab := l.table(t)
	for _, vars := range []int{math.MaxInt, 1 << 62, 1 << 50, 1 << 40, math.MaxInt - 1} {
		last := strconv.Itoa(vars - 1)
		for _, x := range []string{"match #1 #1 #1", "match 0 #1 " + last, "match " + last + " #2 0; unlike 0 0", "match 0 #2 " + last + "; absent 0 #2 " + last, "same #1 #2", "absent #1 #2 #3", "unlike 1 " + last} {
			if got := collected(join.Run(tab, planned(t, vars, x))); got != nil {
				t.Errorf("with %d variables, %q goes over %s", vars, x, shown(got))
			}
		}
		if got, n, e := join.Steps(tab, planned(t, vars, "match "+last+" #2 0; match 0 #9 "+last), 100); got != nil || n != 4 || e != api.OK {
			t.Errorf("with %d variables: %s, %d, %v", vars, shown(got), n, e)
		}
		// Nothing is promised of these, but that they end.
		for _, x := range []string{"", "match #1 #2 #3", "match 0 #2 " + last} {
			collected(join.Run(tab, planned(t, vars, x)))
			join.Steps(tab, planned(t, vars, x), 100)
		}
	}
	// As many as there is room for.
	p := planned(t, 3_000_000, "match 2999999 #2 1000000")
	want := [][2]uint32{{1, 3}, {3, 1}, {1, 1}, {2, 2}}
	for b := range join.Run(tab, p) {
		if len(b) != p.Vars || b[p.Vars-1] != want[0][0] || b[1000000] != want[0][1] {
			t.Errorf("%d numbers, %d, %d; want %d", len(b), b[p.Vars-1], b[1000000], want[0])
		}
		b[p.Vars-1], b[1000000] = 0, 0
		if slices.Max(b) != 0 {
			t.Error("other variables have numbers")
		}
		want = want[1:]
	}
}

// ends are where views begin and end.
var ends = []int{math.MinInt, -3, -1, 0, 1, 2, 3, 5, 7, 9, 10, 11, 1 << 40, math.MaxInt}

// P14.1: one view of one match, with each beginning and end, and bits.
func TestView(t *testing.T) {
	l := sample()
	tab := l.table(t)
	plans := []api.Plan{planned(t, 3, "match 0 1 2"), planned(t, 2, "match 0 #2 1"), planned(t, 1, "match 0 0 #1"), planned(t, 0, "match #1 #2 #1"), planned(t, 2, "unlike #1 #2; match 0 #4 1; unlike 0 1")}
	for _, p := range plans {
		for _, from := range ends {
			for _, to := range ends {
				for _, bits := range []api.Bits{0, explicit, derived, marked, holding, explicit | marked, anyBits, 8, anyBits &^ 7} {
					v := api.View{From: from, To: to, Bits: bits}
					if got, want := collected(join.Run(tab, p, v)), tried(l, p, []api.View{v}); !same(got, want) {
						t.Fatalf("Run(%+v, %v) goes over %s; want %s", p, v, shown(got), shown(want))
					}
				}
			}
		}
	}
	for want, v := range map[string]api.View{
		"(1 3)(3 1)(1 1)(2 2)": {From: -5, To: 99, Bits: holding},
		"(3 1)(1 1)":           {From: 1, To: 3, Bits: holding},
		"(1 3)(1 1)(2 2)":      {From: 0, To: 10, Bits: explicit},
		"(2 2)":                {From: 0, To: 10, Bits: marked},
		"":                     {From: 3, To: 1, Bits: holding},
	} {
		if got := shown(collected(join.Run(tab, plans[1], v))); got != want {
			t.Errorf("%v: %s; want %s", v, got, want)
		}
	}
	for _, v := range []api.View{{}, {From: 10, To: 20, Bits: anyBits}, {From: 99, To: 100, Bits: holding}, {From: 0, To: 10}, {From: 0, To: 10, Bits: 8}, {From: 4, To: 4, Bits: anyBits}, {To: -1, From: -9, Bits: anyBits}} {
		if got := collected(join.Run(tab, plans[0], v)); got != nil {
			t.Errorf("%v: %s; want none", v, shown(got))
		}
	}
}

// P14.1: views of several matches: none, fewer than there are matches, as many, and more; steps of other kinds have none.
func TestViews(t *testing.T) {
	l := sample()
	first, second, none := api.View{From: 0, To: 1, Bits: holding}, api.View{From: 1, To: 10, Bits: derived}, api.View{}
	p := planned(t, 3, "absent #9 #9 #9; match 0 #2 1; unlike #1 #2; same 0 0; match 1 #2 2; absent #9 #9 #9")
	for _, x := range []struct {
		views []api.View
		want  string
	}{
		{nil, "(1 3 1)(3 1 3)(3 1 1)(1 1 3)(1 1 1)(2 2 2)"},
		{[]api.View{}, "(1 3 1)(3 1 3)(3 1 1)(1 1 3)(1 1 1)(2 2 2)"},
		{[]api.View{first}, "(1 3 1)"},
		{[]api.View{second}, "(3 1 3)(3 1 1)(1 1 3)(1 1 1)"},
		{[]api.View{none}, ""},
		{[]api.View{first, first}, ""},
		{[]api.View{first, second}, "(1 3 1)"},
		{[]api.View{second, first}, "(3 1 3)(1 1 3)"},
		{[]api.View{second, second}, "(3 1 1)(1 1 1)"},
		{[]api.View{first, none}, ""},
		{[]api.View{none, first}, ""},
		{[]api.View{first, second, none}, "(1 3 1)"},
		{[]api.View{second, first, none, none, none}, "(3 1 3)(1 1 3)"},
		{[]api.View{{From: 0, To: 10, Bits: anyBits}, {From: 2, To: 4, Bits: explicit}}, "(3 1 1)(1 1 1)(2 2 2)"},
	} {
		if got := shown(collected(join.Run(l.table(t), p, x.views...))); got != x.want {
			t.Errorf("%v: %s; want %s", x.views, got, x.want)
		}
		wants(t, l, p, x.views...)
	}
	// Views have no part in what a NOT finds, nor where there is no match.
	for _, v := range []api.View{none, first, second, {From: 0, To: 10, Bits: marked}} {
		wants(t, l, planned(t, 0, "absent #1 #2 #3"), v)
		wants(t, l, planned(t, 0, "absent #1 #4 #1"), v)
		wants(t, l, planned(t, 1, ""), v, v)
		wants(t, l, planned(t, 2, "match 0 #2 1; absent 1 #2 0"), v, v)
	}
}

// P14.1: rows that are cleared, and set, one after another: each iteration has them as they are.
func TestCleared(t *testing.T) {
	l := sample()
	tab := l.table(t)
	p := planned(t, 3, "match 0 #2 1; match 1 #2 2; absent 2 #4 #2")
	seq := join.Run(tab, p)
	for _, bits := range []api.Bits{explicit, derived, anyBits} {
		for n := range l {
			tab.Clear(n, bits)
			l[n].bits &^= bits
			if got, want := collected(seq), tried(l, p, nil); !same(got, want) {
				t.Fatalf("the row %d cleared: %s; want %s", n, shown(got), shown(want))
			}
		}
	}
	for n, x := range sample() {
		tab.Set(n, x.bits)
		l[n].bits = x.bits
		if got, want := collected(seq), tried(l, p, nil); !same(got, want) {
			t.Fatalf("the row %d set: %s; want %s", n, shown(got), shown(want))
		}
	}
}

// P14.1: an iteration that is left after some bindings asks for no more, and begins anew from the beginning.
func TestLeft(t *testing.T) {
	l := sample()
	tab := l.table(t)
	for _, x := range slices.Concat(plans, absents, conditions) {
		p := planned(t, x.vars, x.plan)
		want := tried(l, p, nil)
		seq := join.Run(tab, p)
		for left := range len(want) {
			var got [][]uint32
			seq(func(b []uint32) bool {
				got = append(got, b)
				return len(got) <= left
			})
			if !same(got, want[:left+1]) {
				t.Fatalf("%q, left after %d: %s; want %s", x.plan, left+1, shown(got), shown(want[:left+1]))
			}
			for b := range seq {
				if !slices.Equal(b, want[0]) {
					t.Fatalf("%q, begun anew after %d: %d; want %d", x.plan, left+1, b, want[0])
				}
				break
			}
		}
		for range 2 {
			if got := collected(seq); !same(got, want) {
				t.Fatalf("%q, begun anew: %s; want %s", x.plan, shown(got), shown(want))
			}
		}
	}
}

// P14.1: iterations of one sequence, and of two, run within one another.
func TestWithin(t *testing.T) {
	l := sample()
	tab := l.table(t)
	for _, x := range slices.Concat(plans, absents, conditions) {
		p := planned(t, x.vars, x.plan)
		want := tried(l, p, nil)
		seq, other := join.Run(tab, p), join.Run(tab, p)
		var got [][]uint32
		for b := range seq {
			got = append(got, b)
			if within := collected(seq); !same(within, want) {
				t.Fatalf("%q within itself: %s; want %s", x.plan, shown(within), shown(want))
			}
			for range seq {
				break
			}
			if within := collected(other); !same(within, want) {
				t.Fatalf("%q within another one: %s; want %s", x.plan, shown(within), shown(want))
			}
		}
		if !same(got, want) {
			t.Fatalf("%q around itself: %s; want %s", x.plan, shown(got), shown(want))
		}
	}
}

// more adds rows to tab of the numbers of the sample and new ones; they would match many patterns.
func more(tab *table.Table) {
	n := uint32(tab.Len())
	for _, r := range []api.Row{{1, 2, n}, {n, 2, 1}, {n, 2, n}, {3, 4, n}, {n, n, n}, {n, 4, 2}, {n, 4, n}} {
		tab.Add(r, holding)
	}
}

// P14.1: rows that are added while it iterates are not visited: by views that All made before, and by those that are missing.
func TestAddedMeanwhile(t *testing.T) {
	l := sample()
	for _, x := range plans {
		p := planned(t, x.vars, x.plan)
		want := tried(l, p, nil)
		for views := range 5 {
			tab := l.table(t)
			seq := join.Run(tab, p, slices.Repeat([]api.View{join.All(tab)}, views)...)
			var got [][]uint32
			for b := range seq {
				got = append(got, b)
				more(tab)
			}
			if !same(got, want) {
				t.Fatalf("%q with %d views: %s; want %s", x.plan, views, shown(got), shown(want))
			}
			// Begun anew, it has what is there then; but not beyond a view that was made before.
			if views >= len(p.Steps) && !same(collected(seq), want) {
				t.Fatalf("%q with %d views, begun anew, has other bindings", x.plan, views)
			}
			if views == 0 {
				all := list{}
				for n := range tab.Len() {
					r, b := tab.Get(n)
					all = append(all, entry{r, b})
				}
				if again := tried(all, p, nil); !same(collected(seq), again) {
					t.Fatalf("%q, begun anew: %s; want %s", x.plan, shown(collected(seq)), shown(again))
				}
			}
		}
	}
}

// P14.1: what comes between the call and the iteration is there.
func TestAddedBefore(t *testing.T) {
	l := sample()
	tab := table.New()
	p := planned(t, 3, "match 0 #2 1; match 1 #2 2")
	seq := join.Run(tab, p)
	if got := collected(seq); got != nil {
		t.Errorf("%s; want none", shown(got))
	}
	for n, x := range l {
		tab.Add(x.row, anyBits)
		tab.Clear(n, ^x.bits)
	}
	if got, want := collected(seq), tried(l, p, nil); !same(got, want) {
		t.Errorf("%s; want %s", shown(got), shown(want))
	}
}

// P14.1, P0.7: an iteration ends although rows come at each binding, also within views that go beyond the table.
func TestEnds(t *testing.T) {
	for _, x := range []string{"match 0 #1 1", "match 0 1 2", "match 0 1 1", "match #1 #1 #1"} {
		for _, to := range []int{2, 1 << 40, math.MaxInt} {
			tab := table.New()
			tab.Add(api.Row{1, 1, 1}, explicit)
			rounds := 0
			for range join.Run(tab, planned(t, 3, x), api.View{To: to, Bits: holding}) {
				rounds++
				if rounds > 1 {
					t.Fatalf("%q goes on", x)
				}
				n := uint32(tab.Len()) + 1
				tab.Add(api.Row{n, 1, 1}, explicit)
				tab.Add(api.Row{n, n, n}, explicit)
			}
		}
	}
	// The first match is left, and begun again, for the second one.
	beyond := api.View{To: math.MaxInt, Bits: holding}
	for _, views := range [][]api.View{nil, {beyond}, {beyond, beyond}} {
		tab := table.New()
		for n := range uint32(3) {
			tab.Add(api.Row{n + 1, 1, 1}, explicit)
		}
		rounds := 0
		for range join.Run(tab, planned(t, 1, "match 0 #1 #1; match 0 #1 #1"), views...) {
			rounds++
			if rounds > 3 {
				t.Fatal("two matches go on")
			}
			tab.Add(api.Row{uint32(tab.Len()) + 1, 1, 1}, explicit)
		}
		if rounds != 3 {
			t.Errorf("%d bindings; want 3", rounds)
		}
	}
}

// P14.1: a binding belongs to whoever has it: it may be written to, also behind its end, and stays as it is.
func TestBindings(t *testing.T) {
	l := sample()
	tab := l.table(t)
	for _, x := range slices.Concat(plans, conditions) {
		p := planned(t, x.vars, x.plan)
		want := tried(l, p, nil)
		var got [][]uint32
		n := 0
		for b := range join.Run(tab, p) {
			if !slices.Equal(b, want[n]) {
				t.Fatalf("%q: %d; want %d", x.plan, b, want[n])
			}
			got = append(got, slices.Clone(b))
			for i := range b {
				b[i] = 99
			}
			for i := range b[:cap(b)] {
				b[:cap(b)][i] = 98
			}
			n++
		}
		if !same(got, want) {
			t.Fatalf("%q, whose bindings are written to: %s; want %s", x.plan, shown(got), shown(want))
		}
		kept, _, _ := join.Steps(tab, p, 1000)
		for i, b := range kept {
			for k := range b[:cap(b)] {
				b[:cap(b)][k] = 97
			}
			for _, later := range kept[i+1:] {
				if len(later) > 0 && slices.Contains(later, 97) {
					t.Fatalf("%q: two bindings of Steps share memory", x.plan)
				}
			}
		}
		again, _, _ := join.Steps(tab, p, 1000)
		if !same(again, want) {
			t.Fatalf("%q again: %s; want %s", x.plan, shown(again), shown(want))
		}
	}
}

// P14.1, P14.2: a table that is nil, or zero, has no rows.
func TestNil(t *testing.T) {
	v := api.View{From: 0, To: 10, Bits: anyBits}
	for i, tab := range []*table.Table{nil, {}, new(table.Table), table.New()} {
		if all := join.All(tab); all != (api.View{Bits: holding}) {
			t.Errorf("%d: All = %v", i, all)
		}
		for _, x := range slices.Concat(plans, absents, conditions) {
			p := planned(t, x.vars, x.plan)
			for _, views := range [][]api.View{nil, {v}, {v, v, v}} {
				want := tried(nil, p, views)
				seq := join.Run(tab, p, views...)
				if seq == nil {
					t.Fatalf("%d: Run(%q) is nil", i, x.plan)
				}
				for range 2 {
					if got := collected(seq); !same(got, want) {
						t.Fatalf("%d: %q: %s; want %s", i, x.plan, shown(got), shown(want))
					}
				}
				got, n, e := join.Steps(tab, p, 0, views...)
				if !same(got, want) || n != 0 || e != api.OK {
					t.Fatalf("%d: Steps(%q) = %s, %d, %v; want %s, 0, 0", i, x.plan, shown(got), n, e, shown(want))
				}
			}
		}
		for plan, want := range map[string]string{"": "(0)", "absent #1 #2 #3": "(0)", "absent #0 #0 #0": "(0)", "match 0 #1 #1": "", "same #1 #2": ""} {
			if got := shown(collected(join.Run(tab, planned(t, 1, plan)))); got != want {
				t.Errorf("%d: %q: %s; want %s", i, plan, got, want)
			}
		}
	}
}

// P14.2: Head.
func TestHead(t *testing.T) {
	binding := []uint32{7, 0, 9, math.MaxUint32}
	for _, x := range []struct {
		head    string
		binding []uint32
		want    api.Row
		ok      bool
	}{
		// Numbers.
		{"#1 #2 #3", nil, api.Row{1, 2, 3}, true},
		{"#1 #2 #3", []uint32{}, api.Row{1, 2, 3}, true},
		{"#3 #3 #4294967295", binding, api.Row{3, 3, math.MaxUint32}, true},
		{"-2#1 -7#2 -9223372036854775808#3", binding, api.Row{1, 2, 3}, true},
		// The number 0.
		{"#0 #2 #3", binding, api.Row{}, false},
		{"#1 #0 #3", binding, api.Row{}, false},
		{"#1 #2 #0", binding, api.Row{}, false},
		{"#0 #0 #0", nil, api.Row{}, false},
		{"#1 #2 -5#0", nil, api.Row{}, false},
		// Variables.
		{"0 2 3", binding, api.Row{7, 9, math.MaxUint32}, true},
		{"3 0 0", binding, api.Row{math.MaxUint32, 7, 7}, true},
		{"2 #2 0", binding, api.Row{9, 2, 7}, true},
		{"0#5 #2 2#6", binding, api.Row{7, 2, 9}, true},
		{"#1 #2 0", []uint32{4}, api.Row{1, 2, 4}, true},
		// A variable whose number is 0.
		{"1 0 2", binding, api.Row{}, false},
		{"0 1 2", binding, api.Row{}, false},
		{"0 2 1", binding, api.Row{}, false},
		{"1 1 1", binding, api.Row{}, false},
		{"1#5 #6 #7", binding, api.Row{}, false},
		// A variable that the binding does not have.
		{"4 0 2", binding, api.Row{}, false},
		{"0 4 2", binding, api.Row{}, false},
		{"0 2 4", binding, api.Row{}, false},
		{"0 2 4#8", binding, api.Row{}, false},
		{"0 2 9223372036854775807", binding, api.Row{}, false},
		{"#1 #2 0", nil, api.Row{}, false},
		{"#1 #2 0", []uint32{}, api.Row{}, false},
		{"0 #2 3", binding[:3], api.Row{}, false},
		{"0 #2 2", binding[:2], api.Row{}, false},
		{"0 1 2", nil, api.Row{}, false},
	} {
		p := api.Plan{Head: row(t, strings.Fields(x.head))}
		for _, vars := range []int{0, 3, 4, 9, -1, math.MaxInt, math.MinInt} {
			p.Vars = vars
			kept := slices.Clone(x.binding)
			if r, ok := join.Head(p, x.binding); r != x.want || ok != x.ok {
				t.Errorf("Head(%s, %d) = %d, %v; want %d, %v", x.head, x.binding, r, ok, x.want, x.ok)
			}
			if !slices.Equal(x.binding, kept) {
				t.Errorf("Head(%s) changes the binding", x.head)
			}
		}
	}
	if r, ok := join.Head(api.Plan{}, nil); ok || r != (api.Row{}) {
		t.Errorf("Head of nothing = %d, %v", r, ok)
	}
	// The steps have no part in it.
	p := planned(t, -1, "match 9 9 9; same 0 0")
	p.Head = row(t, []string{"0", "#2", "2"})
	if r, ok := join.Head(p, binding); !ok || r != (api.Row{7, 2, 9}) {
		t.Errorf("Head = %d, %v", r, ok)
	}
}

// P14.2: All of tables that grow, that have rows of each bit, and rows that are out.
func TestAll(t *testing.T) {
	tab := table.New()
	is := func(rows int) {
		t.Helper()
		if v := join.All(tab); v != (api.View{From: 0, To: rows, Bits: holding}) {
			t.Errorf("All = %v; want the rows up to %d", v, rows)
		}
	}
	is(0)
	for n, x := range sample() {
		tab.Add(x.row, anyBits)
		tab.Clear(n, ^x.bits)
		is(n + 1)
	}
	for n := range sample() {
		tab.Clear(n, anyBits)
		is(len(sample()))
	}
	// What it is a view of.
	l := list{{api.Row{1, 1, 1}, explicit}, {api.Row{1, 1, 2}, derived}, {api.Row{1, 1, 3}, marked}, {api.Row{1, 1, 4}, 0}, {api.Row{1, 1, 5}, anyBits}, {api.Row{1, 1, 6}, 8}, {api.Row{1, 1, 7}, holding}}
	tab = l.table(t)
	v, p := join.All(tab), planned(t, 1, "match #1 #1 0")
	if got := shown(collected(join.Run(tab, p, v))); got != "(1)(2)(5)(7)" {
		t.Error(got)
	}
	tab.Add(api.Row{1, 1, 8}, explicit)
	if got := shown(collected(join.Run(tab, p, v))); got != "(1)(2)(5)(7)" {
		t.Error(got)
	}
	if got := shown(collected(join.Run(tab, p, join.All(tab)))); got != "(1)(2)(5)(7)(8)" {
		t.Error(got)
	}
}

// P14.2: how many rows are examined, and what is found with less.
func TestSteps(t *testing.T) {
	l := sample()
	for _, x := range []struct {
		vars     int
		plan     string
		most     int
		want     string
		examined int
		e        api.Errno
	}{
		// Without matches nothing is examined.
		{1, "", 0, "(0)", 0, api.OK},
		{1, "", -1, "(0)", 0, api.OK},
		{0, "unlike #1 #2; absent #1 #2 #2", math.MinInt, "()", 0, api.OK},
		{0, "absent #1 #2 #3", 0, "", 0, api.OK},
		{0, "absent #0 #2 #0", 0, "", 0, api.OK},
		// One match.
		{2, "match 0 #2 1", math.MinInt, "", 0, api.ErrFull},
		{2, "match 0 #2 1", -1, "", 0, api.ErrFull},
		{2, "match 0 #2 1", 0, "", 0, api.ErrFull},
		{2, "match 0 #2 1", 1, "(1 3)", 1, api.ErrFull},
		{2, "match 0 #2 1", 3, "(1 3)(3 1)(1 1)", 3, api.ErrFull},
		{2, "match 0 #2 1", 4, "(1 3)(3 1)(1 1)(2 2)", 4, api.OK},
		{2, "match 0 #2 1", 5, "(1 3)(3 1)(1 1)(2 2)", 4, api.OK},
		{2, "match 0 #2 1", math.MaxInt, "(1 3)(3 1)(1 1)(2 2)", 4, api.OK},
		{0, "match #1 #2 #3", 0, "", 0, api.ErrFull},
		{0, "match #1 #2 #3", 1, "()", 1, api.OK},
		// A match that finds none; rows that are out, or have other bits, are not examined.
		{2, "match 0 #7 1", 0, "", 0, api.OK},
		{2, "match 0 #7 1", -1, "", 0, api.OK},
		{0, "match #1 #4 #1", 0, "", 0, api.OK},
		{0, "match #2 #4 #3", 0, "", 0, api.OK},
		{3, "match 0 1 2", 99, "(1 2 3)(3 2 1)(1 2 1)(2 2 2)(3 4 2)(3 4 3)(5 5 1)(1 6 6)", 8, api.OK},
		{2, "match 0 #2 1; match 1 #7 0", 4, "", 4, api.OK},
		{2, "match 0 #2 1; match 1 #7 0", 3, "", 3, api.ErrFull},
		{2, "match 1 #7 0; match 0 #2 1", 0, "", 0, api.OK},
		// Rows that do not fit a variable that occurs twice are examined.
		{1, "match 0 #2 0", 4, "(1)(2)", 4, api.OK},
		{1, "match 0 #2 0", 3, "(1)", 3, api.ErrFull},
		{1, "match 0 #2 0", 2, "", 2, api.ErrFull},
		{1, "match 0 0 0", 8, "(2)", 8, api.OK},
		{1, "match 0 0 0", 7, "(2)", 7, api.ErrFull},
		{2, "match 0 0 1; match 1 #2 0", 9, "(2 2)", 9, api.OK},
		{2, "match 0 #2 0; match 0 #4 1", 4, "", 4, api.OK},
		// A variable that is known has a number in the pattern.
		{2, "match 0 #2 1; match 1 #2 0", 8, "(1 3)(3 1)(1 1)(2 2)", 8, api.OK},
		{2, "match 0 #2 1; match 1 #2 0", 7, "(1 3)(3 1)(1 1)", 7, api.ErrFull},
		{2, "match 0 #2 1; match 1 #2 0", 2, "(1 3)", 2, api.ErrFull},
		{2, "match 0 #2 1; match 1 #2 0", 1, "", 1, api.ErrFull},
		{3, "match 0 #2 1; match 1 #2 2", 10, "(1 3 1)(3 1 3)(3 1 1)(1 1 3)(1 1 1)(2 2 2)", 10, api.OK},
		{3, "match 0 #2 1; match 1 #4 2", 6, "(1 3 2)(1 3 3)", 6, api.OK},
		{3, "match 0 #2 1; match 1 #4 2", 3, "(1 3 2)(1 3 3)", 3, api.ErrFull},
		// Conditions, and NOTs, end a way; what they look up is not examined.
		{3, "match 0 #2 1; unlike 0 1; match 1 #2 2", 7, "(1 3 1)(3 1 3)(3 1 1)", 7, api.OK},
		{3, "match 0 #2 1; match 1 #2 2; unlike 0 1", 10, "(1 3 1)(3 1 3)(3 1 1)", 10, api.OK},
		{3, "match 0 #2 1; absent 1 #4 #3; match 1 #2 2", 9, "(3 1 3)(3 1 1)(1 1 3)(1 1 1)(2 2 2)", 9, api.OK},
		{3, "match 0 #2 1; absent 1 #2 #0; match 1 #2 2", 4, "", 4, api.OK},
		{2, "match 0 #2 1; absent 1 #2 0", 4, "", 4, api.OK},
		{2, "match 0 #2 1; same #1 #2", 4, "", 4, api.OK},
		{2, "same #1 #2; match 0 #2 1", 0, "", 0, api.OK},
		{2, "absent #1 #2 #3; match 0 #2 1", 0, "", 0, api.OK},
		// A match without variables, for each row of the one before it.
		{2, "match 0 #2 1; match #1 #2 #3", 8, "(1 3)(3 1)(1 1)(2 2)", 8, api.OK},
		{2, "match #1 #2 #3; match 0 #2 1", 5, "(1 3)(3 1)(1 1)(2 2)", 5, api.OK},
		// Plans without bindings are not executed.
		{1, "match 0 #2 1", 0, "", 0, api.OK},
		{2, "match 0 #2 1; same 1 2", 0, "", 0, api.OK},
		{3, "match 0 #2 1; absent 0 1 2", 0, "", 0, api.OK},
		{-1, "match #1 #2 #3", 0, "", 0, api.OK},
	} {
		p := planned(t, x.vars, x.plan)
		got, n, e := join.Steps(l.table(t), p, x.most)
		if shown(got) != x.want || n != x.examined || e != x.e {
			t.Errorf("Steps(%q, %d) = %s, %d, %v; want %s, %d, %v", x.plan, x.most, shown(got), n, e, x.want, x.examined, x.e)
		}
		wants(t, l, p)
	}
	// By views.
	p := planned(t, 3, "match 0 #2 1; match 1 #2 2")
	old, late := api.View{From: 0, To: 1, Bits: holding}, api.View{From: 1, To: 99, Bits: derived}
	for _, x := range []struct {
		most     int
		views    []api.View
		want     string
		examined int
		e        api.Errno
	}{
		{3, []api.View{old}, "(1 3 1)", 2, api.OK},
		{9, []api.View{late, old}, "(3 1 3)(1 1 3)", 4, api.OK},
		{3, []api.View{late, old}, "(3 1 3)", 3, api.ErrFull},
		{0, []api.View{{}}, "", 0, api.OK},
		{1, []api.View{old, {}}, "", 1, api.OK},
		{0, []api.View{old, {}}, "", 0, api.ErrFull},
	} {
		got, n, e := join.Steps(l.table(t), p, x.most, x.views...)
		if shown(got) != x.want || n != x.examined || e != x.e {
			t.Errorf("Steps(%d, %v) = %s, %d, %v; want %s, %d, %v", x.most, x.views, shown(got), n, e, x.want, x.examined, x.e)
		}
	}
}

// The example of the chapter.
func TestExample(t *testing.T) {
	tab := table.New()
	tab.Add(api.Row{1, 2, 3}, explicit)
	tab.Add(api.Row{3, 2, 1}, explicit)
	p := planned(t, 2, "match 0 #2 1; match 1 #2 0")
	if got := shown(collected(join.Run(tab, p))); got != "(1 3)(3 1)" {
		t.Error(got)
	}
	if got, n, e := join.Steps(tab, p, 4); shown(got) != "(1 3)(3 1)" || n != 4 || e != api.OK {
		t.Error(shown(got), n, e)
	}
}

// P14.1, P14.2: the plan of a rule: its bindings are those for which the rule fits, Head what follows.
func TestRule(t *testing.T) {
	d, tab := dict.New(100), table.New()
	triple := func(text string) api.Row {
		t.Helper()
		var r api.Row
		for i, w := range strings.Fields(text) {
			r[i], _ = d.Intern(api.Term{Kind: api.IRI, Text: w})
		}
		return r
	}
	for _, x := range []string{"a p b", "b p c", "c p d", "b p a", "x q x"} {
		tab.Add(triple(x), explicit)
	}
	r, e := rules.One("(?x <p> ?z) :- (?x <p> ?y), (?y <p> ?z), ?x != ?z, not (?z <p> ?z), not (?x <p> ?z) .")
	p, planE := plan.Rule(d, r)
	if e != api.OK || planE != api.OK {
		t.Fatal(e, planE)
	}
	var got []api.Row
	for b := range join.Run(tab, p) {
		head, ok := join.Head(p, b)
		if !ok {
			t.Errorf("Head(%d) is not known", b)
		}
		got = append(got, head)
	}
	if want := []api.Row{triple("a p c"), triple("b p d")}; !slices.Equal(got, want) {
		t.Errorf("%d follow; want %d", got, want)
	}
}

// P14.1, P14.2: what is given stays as it is, also behind its end, and is not kept: who changes it later does not change an iteration.
func TestArguments(t *testing.T) {
	l := sample()
	p := planned(t, 3, "absent #9 #9 #9; match 0 #2 1; unlike 0 1; match 1 #2 2; match 2 0 0; absent 0 0 0; same #1 #1")
	p.Steps = p.Steps[:4]
	views := []api.View{{From: 0, To: 9, Bits: explicit | marked}, {From: 0, To: 3, Bits: holding}, {From: 5, To: 7, Bits: derived}}
	keptSteps, keptViews := slices.Clone(p.Steps[:cap(p.Steps)]), slices.Clone(views)
	tab := l.table(t)
	want := tried(l, p, views[:2])
	if len(want) == 0 {
		t.Fatal("there are no bindings")
	}
	seq := join.Run(tab, p, views[:2]...)
	if got := collected(seq); !same(got, want) {
		t.Errorf("%s; want %s", shown(got), shown(want))
	}
	if got, _, _ := join.Steps(tab, p, 100, views[:2]...); !same(got, want) {
		t.Errorf("%s; want %s", shown(got), shown(want))
	}
	if !slices.Equal(p.Steps[:cap(p.Steps)], keptSteps) || !slices.Equal(views, keptViews) {
		t.Error("the arguments are changed")
	}
	for n, x := range l {
		if r, b := tab.Get(n); r != x.row || b != x.bits {
			t.Errorf("the row %d is changed", n)
		}
	}
	if tab.Len() != len(l) {
		t.Errorf("there are %d rows", tab.Len())
	}
	var got [][]uint32
	for b := range seq {
		got = append(got, b)
		clear(p.Steps[:cap(p.Steps)])
		clear(views)
	}
	if !same(got, want) || !same(collected(seq), want) {
		t.Errorf("with other arguments later: %s; want %s", shown(got), shown(want))
	}
}

// P14.1: very many steps, without recursion: matches that find one row each, ones that find two and none, conditions, NOTs.
func TestManySteps(t *testing.T) {
	const many = 200_000
	tab := table.New()
	tab.Add(api.Row{1, 1, 2}, explicit)
	tab.Add(api.Row{2, 1, 1}, explicit)
	steps := func(text string) []api.Step { return planned(t, 4, text).Steps }
	round := steps("match 0 #1 1; unlike 0 1; match 1 #1 0; absent 0 #1 0; same 1 1")
	p := api.Plan{Vars: 4, Steps: slices.Repeat(round, many/len(round))}
	if got := shown(collected(join.Run(tab, p))); got != "(1 2 0 0)(2 1 0 0)" {
		t.Errorf("many steps go over %s", got)
	}
	// Each match, but for the first one, finds the one row that fits.
	if got, n, e := join.Steps(tab, p, math.MaxInt); shown(got) != "(1 2 0 0)(2 1 0 0)" || n != 2*2*many/len(round) || e != api.OK {
		t.Errorf("Steps = %s, %d, %v", shown(got), n, e)
	}
	p.Steps = append(p.Steps, steps("match 2 #3 3")...)
	if got := collected(join.Run(tab, p)); got != nil {
		t.Errorf("many steps, of which the last one finds none, go over %s", shown(got))
	}
	// Very many variables, of which each is known from one match on.
	p = api.Plan{Vars: many + 1}
	for v := range many {
		p.Steps = append(p.Steps, api.Step{Kind: api.StepMatch, Row: [3]api.Place{{Var: v}, {Var: -1, ID: 1}, {Var: v + 1}}})
	}
	rounds := uint32(0)
	for b := range join.Run(tab, p) {
		rounds++
		for v, n := range b {
			if n != (uint32(v)+rounds-1)%2+1 {
				t.Fatalf("the variable %d is %d in the binding %d", v, n, rounds)
			}
		}
	}
	if rounds != 2 {
		t.Errorf("%d bindings; want 2", rounds)
	}
	p = api.Plan{Steps: slices.Repeat(steps("absent #1 #1 #1; same #1 #1; unlike #2 #3"), many)}
	if got := shown(collected(join.Run(tab, p))); got != "()" {
		t.Errorf("many conditions go over %s", got)
	}
}

// P14.1: many rows, of which each has one that follows it: each row is visited once.
func TestManyRows(t *testing.T) {
	const many = 100_000
	tab := table.New()
	for n := range uint32(many) {
		tab.Add(api.Row{n + 1, 1, n + 2}, explicit)
	}
	p := planned(t, 3, "match 0 #1 1; match 1 #1 2")
	next := uint32(1)
	for b := range join.Run(tab, p) {
		if b[0] != next || b[1] != next+1 || b[2] != next+2 {
			t.Fatalf("%d; want %d first", b, next)
		}
		next++
	}
	if next != many {
		t.Errorf("%d bindings; want %d", next-1, many-1)
	}
	if got, n, e := join.Steps(tab, p, 2*many-1); len(got) != many-1 || n != 2*many-1 || e != api.OK {
		t.Errorf("Steps: %d bindings, %d, %v", len(got), n, e)
	}
	if got, n, e := join.Steps(tab, p, 2*many-2); len(got) != many-1 || n != 2*many-2 || e != api.ErrFull {
		t.Errorf("Steps, one too few: %d bindings, %d, %v", len(got), n, e)
	}
}

// drawn makes plans, tables, and views at random.
type drawn struct{ *rand.Rand }

// list returns some rows of few numbers; most of them hold.
func (d drawn) list() list {
	var l list
	most := 2 + d.Intn(2)
	number := func() uint32 { return uint32(1 + d.Intn(most)) }
	for range 4 * d.Intn(5) {
		r := api.Row{number(), number(), number()}
		if !slices.ContainsFunc(l, func(x entry) bool { return x.row == r }) {
			l = append(l, entry{r, []api.Bits{explicit, derived, holding, holding | marked, explicit, derived, marked, 0}[d.Intn(8)]})
		}
	}
	return l
}

// place returns one of some variables, or a number; seldom a variable that the plan may not have.
func (d drawn) place(vars []int, all int) api.Place {
	switch {
	case d.Intn(200) == 0:
		return api.Place{Var: d.Intn(all + 2)}
	case d.Intn(20) < 16 && len(vars) > 0:
		return api.Place{Var: vars[d.Intn(len(vars))], ID: uint32(d.Intn(4))}
	case d.Intn(12) == 0:
		return api.Place{Var: -1 - d.Intn(3)}
	}
	return api.Place{Var: -1 - d.Intn(3)*d.Intn(2), ID: uint32(1 + d.Intn(2) + d.Intn(2))}
}

// plan returns a plan of at most three matches; its conditions and NOTs mostly have variables that are known.
func (d drawn) plan() api.Plan {
	p := api.Plan{Vars: d.Intn(9)}
	vars, known := d.Perm(p.Vars), []int{}
	matches := 0
	for range d.Intn(6) {
		s := api.Step{Kind: api.StepMatch}
		if matches == 3 || d.Intn(10) < 3 {
			s.Kind = []api.StepKind{api.StepAbsent, api.StepSame, api.StepUnlike, api.StepUnlike}[d.Intn(4)]
		}
		if d.Intn(150) == 0 {
			s.Kind = api.StepKind(d.Intn(8) - 2)
		}
		from := known
		if s.Kind == api.StepMatch {
			matches++
			from = vars
		}
		for i := range s.Row {
			s.Row[i] = d.place(from, p.Vars)
			if s.Kind == api.StepMatch && s.Row[i].Var >= 0 {
				known = append(known, s.Row[i].Var)
			}
		}
		s.A, s.B = d.place(known, p.Vars), d.place(known, p.Vars)
		p.Steps = append(p.Steps, s)
	}
	if d.Intn(100) == 0 {
		p.Vars = -1 - d.Intn(3)
	}
	return p
}

// views returns some views; most of them are of many rows.
func (d drawn) views() []api.View {
	var l []api.View
	for range d.Intn(5) {
		l = append(l, api.View{From: d.Intn(6) - 3, To: 20 - d.Intn(15), Bits: []api.Bits{holding, anyBits, explicit, derived, marked, 0}[d.Intn(6)*(d.Intn(5)/4)]})
	}
	return l
}

// P14.1 to P14.3: plans, tables and views drawn at random, against trying all rows for all matches.
func TestRandom(t *testing.T) {
	valid, some := 0, 0
	for seed := range int64(20000) {
		d := drawn{rand.New(rand.NewSource(seed))}
		l, p, views := d.list(), d.plan(), d.views()
		wants(t, l, p, views...)
		if isValid(p) {
			valid++
		}
		if len(tried(l, p, views)) > 1 {
			some++
		}
	}
	if valid < 15000 || some < 1500 {
		t.Errorf("of the plans only %d are valid, only %d have bindings", valid, some)
	}
}

// P14.3: each row of each match, which is what a plan has by which the rows of a match can be told.
func TestEachRow(t *testing.T) {
	for seed := range int64(300) {
		d := drawn{rand.New(rand.NewSource(seed))}
		l := d.list()
		p := planned(t, 6, "match 0 1 2; match 3 4 5")
		seen := map[[6]uint32]int{}
		for b := range join.Run(l.table(t), p) {
			seen[[6]uint32(b)]++
		}
		holding := 0
		for _, x := range l {
			if x.bits&(explicit|derived) == 0 {
				continue
			}
			holding++
			for _, y := range l {
				r := [6]uint32{x.row[0], x.row[1], x.row[2], y.row[0], y.row[1], y.row[2]}
				if y.bits&(explicit|derived) != 0 && seen[r] != 1 {
					t.Fatalf("the rows %d are visited %d times", r, seen[r])
				}
			}
		}
		if len(seen) != holding*holding {
			t.Fatalf("%d bindings; want %d", len(seen), holding*holding)
		}
	}
}

// P14.3: views that part the rows in those from a number on, and those before it: what one match finds of the new ones, those ahead of it of the old ones, and those behind it of all, is each binding once for which there is a new row.
func TestParted(t *testing.T) {
	parted := 0
	for seed := range int64(6000) {
		d := drawn{rand.New(rand.NewSource(seed))}
		l, p := d.list(), d.plan()
		tab := l.table(t)
		cut := d.Intn(len(l) + 1)
		all := join.All(tab)
		old, late := all, all
		old.To, late.From = cut, cut
		var matches int
		for _, s := range p.Steps {
			if s.Kind == api.StepMatch {
				matches++
			}
		}
		got := collected(join.Run(tab, p, slices.Repeat([]api.View{old}, matches)...))
		if matches == 0 {
			continue
		}
		for i := range matches {
			views := append(slices.Repeat([]api.View{old}, i), late)
			got = append(got, collected(join.Run(tab, p, views...))...)
		}
		want := collected(join.Run(tab, p))
		slices.SortFunc(got, slices.Compare)
		slices.SortFunc(want, slices.Compare)
		if !same(got, want) {
			t.Fatalf("%+v, parted at %d: %s; want %s", p, cut, shown(got), shown(want))
		}
		if len(want) > 1 {
			parted++
		}
	}
	if parted < 500 {
		t.Errorf("only %d plans have bindings", parted)
	}
}
