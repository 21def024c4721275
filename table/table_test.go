package table_test

import (
	"iter"
	"math"
	"math/rand"
	"slices"
	"testing"

	"rhizome/api"
	"rhizome/table"
)

const (
	explicit = api.BitExplicit
	derived  = api.BitDerived
	marked   = api.BitMarked
	allBits  = api.Bits(math.MaxUint8)
)

// hit is what an iteration goes over.
type hit struct {
	n   int
	row api.Row
}

// entry is a row of a list that tests compare tables with.
type entry struct {
	row  api.Row
	bits api.Bits
}

// list is a table as the chapter defines it: everything is found by going over all rows.
type list []entry

func (l *list) add(r api.Row, b api.Bits) (int, bool) {
	if slices.Contains(r[:], 0) || b == 0 {
		return -1, false
	}
	n, ok := l.find(r)
	if !ok {
		n = len(*l)
		*l = append(*l, entry{row: r})
	}
	out := (*l)[n].bits == 0
	(*l)[n].bits |= b
	return n, out
}

func (l list) find(r api.Row) (int, bool) {
	n := slices.IndexFunc(l, func(x entry) bool { return x.row == r })
	return n, n >= 0
}

func (l list) get(n int) (api.Row, api.Bits) {
	if n < 0 || n >= len(l) {
		return api.Row{}, 0
	}
	return l[n].row, l[n].bits
}

func (l list) set(n int, b api.Bits) {
	if n >= 0 && n < len(l) {
		l[n].bits |= b
	}
}

func (l list) clear(n int, b api.Bits) {
	if n >= 0 && n < len(l) {
		l[n].bits &= ^b
	}
}

func (l list) match(look api.Row, from, to int, b api.Bits) []hit {
	var hits []hit
	for n, x := range l {
		if n >= from && n < to && x.bits&b != 0 && fits(look, x.row) {
			hits = append(hits, hit{n, x.row})
		}
	}
	return hits
}

func (l list) count(look api.Row) int {
	return len(l.match(look, 0, len(l), allBits))
}

func (l list) distinct(place int) int {
	seen := map[uint32]bool{}
	for _, x := range l {
		if place >= 0 && place < 3 && x.bits != 0 {
			seen[x.row[place]] = true
		}
	}
	return len(seen)
}

// fits reports whether a pattern matches a row.
func fits(look, r api.Row) bool {
	for i, x := range look {
		if x != 0 && x != r[i] {
			return false
		}
	}
	return true
}

// of returns the table that has a list's rows.
func of(t *testing.T, l list) *table.Table {
	t.Helper()
	tab := table.New()
	for n, x := range l {
		if m, came := tab.Add(x.row, allBits); m != n || !came {
			t.Fatalf("Add(%d) = %d, %v; want %d, true", x.row, m, came, n)
		}
		tab.Clear(n, ^x.bits)
	}
	return tab
}

// collected returns what an iteration goes over.
func collected(seq iter.Seq2[int, api.Row]) []hit {
	var hits []hit
	for n, r := range seq {
		hits = append(hits, hit{n, r})
	}
	return hits
}

// looks returns all patterns of the numbers from 0 up to most, and one of a number that is greater.
func looks(most uint32) []api.Row {
	var l []api.Row
	for a := range most + 1 {
		for b := range most + 1 {
			for c := range most + 1 {
				l = append(l, api.Row{a, b, c})
			}
		}
	}
	return append(l, api.Row{most + 1, 0, 0}, api.Row{0, most + 1, 1}, api.Row{1, 0, most + 1}, api.Row{most + 1, most + 1, most + 1})
}

// patterns returns those of the eight kinds that match r.
func patterns(r api.Row) []api.Row {
	var l []api.Row
	for kind := range 8 {
		look := r
		for i := range look {
			if kind&(1<<i) == 0 {
				look[i] = 0
			}
		}
		l = append(l, look)
	}
	return l
}

// has fails if tab is not as l is, by each of its calls that change nothing.
func has(t *testing.T, tab *table.Table, l list, looks ...api.Row) {
	t.Helper()
	live := l.count(api.Row{})
	if tab.Len() != len(l) || tab.Live() != live {
		t.Fatalf("Len, Live = %d, %d; want %d, %d", tab.Len(), tab.Live(), len(l), live)
	}
	for place := -2; place < 6; place++ {
		if n := tab.Distinct(place); n != l.distinct(place) {
			t.Fatalf("Distinct(%d) = %d; want %d", place, n, l.distinct(place))
		}
	}
	for n := -2; n < len(l)+3; n++ {
		row, bits := l.get(n)
		if r, b := tab.Get(n); r != row || b != bits {
			t.Fatalf("Get(%d) = %d, %d; want %d, %d", n, r, b, row, bits)
		}
		if m, ok := tab.Find(row); n >= 0 && n < len(l) && (m != n || !ok) {
			t.Fatalf("Find(%d) = %d, %v; want %d, true", row, m, ok, n)
		}
	}
	for _, look := range looks {
		want, there := l.find(look)
		if n, ok := tab.Find(look); n != want || ok != there {
			t.Fatalf("Find(%d) = %d, %v; want %d, %v", look, n, ok, want, there)
		}
		if n := tab.Count(look); n != l.count(look) {
			t.Fatalf("Count(%d) = %d; want %d", look, n, l.count(look))
		}
		goesOver(t, tab, l, look, 0, len(l), allBits)
	}
}

// goesOver fails if Match does not go over the rows of l that it is asked for.
func goesOver(t *testing.T, tab *table.Table, l list, look api.Row, from, to int, b api.Bits) {
	t.Helper()
	got, want := collected(tab.Match(look, from, to, b)), l.match(look, from, to, b)
	if !slices.Equal(got, want) {
		t.Fatalf("Match(%d, %d, %d, %d) goes over %v; want %v", look, from, to, b, got, want)
	}
}

// adds fails if Add does not return what the list's add does.
func adds(t *testing.T, tab *table.Table, l *list, r api.Row, b api.Bits) {
	t.Helper()
	n, came := tab.Add(r, b)
	if m, want := l.add(r, b); n != m || came != want {
		t.Fatalf("Add(%d, %d) = %d, %v; want %d, %v", r, b, n, came, m, want)
	}
}

// sample has rows of few numbers: many of them share one, or two; some are out.
func sample() list {
	return slices.Clip(list{
		{api.Row{1, 2, 3}, explicit},
		{api.Row{1, 2, 1}, derived},
		{api.Row{3, 2, 1}, explicit | derived},
		{api.Row{2, 2, 2}, 0},
		{api.Row{1, 1, 1}, marked},
		{api.Row{1, 3, 3}, explicit | marked},
		{api.Row{2, 1, 3}, derived | marked},
		{api.Row{1, 2, 2}, 0},
		{api.Row{3, 3, 3}, explicit | derived | marked},
		{api.Row{3, 1, 2}, 0},
		{api.Row{2, 3, 1}, explicit},
		{api.Row{2, 2, 3}, derived},
		{api.Row{1, 3, 2}, 0},
		{api.Row{3, 2, 3}, explicit},
	})
}

// P8.1: New.
func TestNew(t *testing.T) {
	a, b := table.New(), table.New()
	has(t, a, nil, looks(2)...)
	var l list
	adds(t, a, &l, api.Row{1, 2, 1}, explicit)
	has(t, a, l, looks(2)...)
	has(t, b, nil, looks(2)...)
	has(t, table.New(), nil, looks(2)...)
}

// P8.1 to P8.4: a nil table, and a zero one; also after each call.
func TestNil(t *testing.T) {
	for i, tab := range []*table.Table{nil, {}, new(table.Table)} {
		for range 2 {
			for _, r := range looks(2) {
				for _, b := range []api.Bits{0, explicit, derived, marked, allBits} {
					if n, came := tab.Add(r, b); n != -1 || came {
						t.Fatalf("%d: Add(%d, %d) = %d, %v; want -1, false", i, r, b, n, came)
					}
				}
			}
			for _, n := range []int{-1, 0, 1, math.MinInt, math.MaxInt} {
				tab.Set(n, explicit)
				tab.Clear(n, explicit)
			}
			for _, ends := range [][2]int{{0, 0}, {0, 5}, {-5, 5}, {math.MinInt, math.MaxInt}} {
				if tab.Match(api.Row{}, ends[0], ends[1], allBits) == nil {
					t.Errorf("%d: Match is nil", i)
				}
				goesOver(t, tab, nil, api.Row{}, ends[0], ends[1], allBits)
				goesOver(t, tab, nil, api.Row{1, 2, 1}, ends[0], ends[1], allBits)
			}
			has(t, tab, nil, looks(2)...)
			if tab.Copy() != nil {
				t.Errorf("%d: Copy is not nil", i)
			}
		}
	}
}

// P8.1: rows that come, rows that are there, with the same bits and with others, rows that are out.
func TestAdd(t *testing.T) {
	a, b := api.Row{1, 2, 3}, api.Row{3, 2, 1}
	tab, l := table.New(), list{}
	for i, x := range []struct {
		row  api.Row
		bits api.Bits
		n    int
		came bool
		now  api.Bits
	}{
		{a, explicit, 0, true, explicit},
		{a, explicit, 0, false, explicit},
		{a, derived, 0, false, explicit | derived},
		{b, derived | marked, 1, true, derived | marked},
		{a, explicit | derived, 0, false, explicit | derived},
		{b, explicit, 1, false, explicit | derived | marked},
		{api.Row{2, 2, 2}, marked, 2, true, marked},
	} {
		if n, came := tab.Add(x.row, x.bits); n != x.n || came != x.came {
			t.Errorf("%d: Add(%d, %d) = %d, %v; want %d, %v", i, x.row, x.bits, n, came, x.n, x.came)
		}
		if r, now := tab.Get(x.n); r != x.row || now != x.now {
			t.Errorf("%d: Get(%d) = %d, %d; want %d, %d", i, x.n, r, now, x.row, x.now)
		}
		l.add(x.row, x.bits)
		has(t, tab, l, looks(3)...)
	}
}

// P8.1: a row that is out, and added again, keeps its number, and is told as one that came.
func TestAddAgain(t *testing.T) {
	for n, x := range sample() {
		l := sample()
		tab := of(t, l)
		tab.Clear(n, allBits)
		l.clear(n, allBits)
		has(t, tab, l, looks(3)...)
		if m, came := tab.Add(x.row, marked); m != n || !came {
			t.Errorf("Add(%d) of one that is out = %d, %v; want %d, true", x.row, m, came, n)
		}
		l.set(n, marked)
		has(t, tab, l, looks(3)...)
		if m, came := tab.Add(x.row, derived); m != n || came {
			t.Errorf("Add(%d) then = %d, %v; want %d, false", x.row, m, came, n)
		}
		l.set(n, derived)
		adds(t, tab, &l, api.Row{4, 4, 4}, explicit)
		has(t, tab, l, looks(4)...)
	}
}

// P8.1: a zero at each place, and bits of 0, whether the row is there, is out, or is not there.
func TestAddInvalid(t *testing.T) {
	l := sample()
	tab := of(t, l)
	for _, r := range append(looks(4), api.Row{math.MaxUint32, math.MaxUint32, 0}, api.Row{0, math.MaxUint32, math.MaxUint32}, api.Row{math.MaxUint32, 0, math.MaxUint32}) {
		for _, b := range []api.Bits{0, explicit, derived | marked, allBits} {
			if b != 0 && !slices.Contains(r[:], 0) {
				continue
			}
			if n, came := tab.Add(r, b); n != -1 || came {
				t.Errorf("Add(%d, %d) = %d, %v; want -1, false", r, b, n, came)
			}
		}
	}
	has(t, tab, l, looks(4)...)
}

// P8.1, P8.2: all bits that a row can have.
func TestAddBits(t *testing.T) {
	tab, l := table.New(), list{}
	for b := range int(allBits) + 1 {
		adds(t, tab, &l, api.Row{1, 1, uint32(b + 1)}, api.Bits(b))
	}
	has(t, tab, l, api.Row{}, api.Row{1, 1, 0}, api.Row{0, 0, 5})
	for b := range int(allBits) + 1 {
		goesOver(t, tab, l, api.Row{1, 0, 0}, 0, tab.Len(), api.Bits(b))
	}
}

// P8.1: rows that are there, that are out, that are not, those with a zero, those that are turned round.
func TestFind(t *testing.T) {
	l := sample()
	tab := of(t, l)
	for n, x := range l {
		if m, ok := tab.Find(x.row); m != n || !ok {
			t.Errorf("Find(%d) = %d, %v; want %d, true", x.row, m, ok, n)
		}
	}
	for _, r := range []api.Row{{}, {1, 2, 0}, {0, 2, 3}, {1, 0, 3}, {1, 0, 0}, {0, 2, 0}, {0, 0, 3}, {1, 1, 2}, {3, 3, 1}, {2, 3, 3}, {4, 2, 3}, {1, 2, 4}, {1, 4, 3}, {math.MaxUint32, 2, 3}} {
		if n, ok := tab.Find(r); n != -1 || ok {
			t.Errorf("Find(%d) = %d, %v; want -1, false", r, n, ok)
		}
	}
	has(t, tab, l, looks(4)...)
}

// P8.1 to P8.3: each place has its own numbers, up to the greatest that a row may have.
func TestGreatest(t *testing.T) {
	values := []uint32{1, 2, math.MaxInt8, math.MaxUint8, math.MaxUint8 + 1, math.MaxUint8 + 2, math.MaxUint16, math.MaxUint16 + 1, math.MaxUint16 + 2, math.MaxInt32, math.MaxInt32 + 1, math.MaxUint32 - 1, math.MaxUint32}
	tab, l, looks := table.New(), list{}, []api.Row{}
	for _, a := range values {
		for _, b := range values {
			r := api.Row{a, b, values[(len(l)*7)%len(values)]}
			looks = append(looks, patterns(r)...)
			looks = append(looks, api.Row{r[1], r[2], r[0]}, api.Row{r[2], r[1], r[0]})
			adds(t, tab, &l, r, derived)
		}
	}
	has(t, tab, l, looks...)
}

// P8.2: numbers that no row has.
func TestNoSuchRow(t *testing.T) {
	l := sample()
	tab := of(t, l)
	for _, n := range []int{-1, -2, math.MinInt, len(l), len(l) + 1, 1 << 32, 1<<32 + 1, math.MaxInt} {
		if r, b := tab.Get(n); r != (api.Row{}) || b != 0 {
			t.Errorf("Get(%d) = %d, %d; want zeros", n, r, b)
		}
		tab.Set(n, allBits)
		has(t, tab, l, looks(3)...)
		tab.Clear(n, allBits)
		has(t, tab, l, looks(3)...)
	}
}

// P8.2: bits that are set and cleared: one after another, several at once, all at once, none, those that are there, and those that are not.
func TestSetClear(t *testing.T) {
	changes := []api.Bits{0, explicit, derived, marked, explicit | derived, derived | marked, explicit | derived | marked, allBits}
	for n := range sample() {
		l := sample()
		tab := of(t, l)
		for _, set := range changes {
			for _, cleared := range changes {
				tab.Set(n, set)
				l.set(n, set)
				has(t, tab, l, patterns(l[n].row)...)
				tab.Clear(n, cleared)
				l.clear(n, cleared)
				has(t, tab, l, patterns(l[n].row)...)
			}
		}
		has(t, tab, l, looks(3)...)
	}
}

// P8.2: a row whose bits go one after another is out with the last one, and a triple again with the first one that it gets.
func TestOneByOne(t *testing.T) {
	tab := table.New()
	tab.Add(api.Row{1, 2, 3}, explicit|derived|marked)
	for i, x := range []struct {
		set, cleared api.Bits
		live         int
	}{{0, derived, 1}, {0, derived, 1}, {0, explicit, 1}, {0, marked, 0}, {0, marked, 0}, {derived, 0, 1}, {marked, derived, 1}, {0, 0, 1}, {0, marked | explicit, 0}, {0, 0, 0}, {explicit | marked, 0, 1}} {
		tab.Set(0, x.set)
		tab.Clear(0, x.cleared)
		if tab.Live() != x.live || tab.Count(api.Row{0, 2, 0}) != x.live || tab.Distinct(1) != x.live || tab.Len() != 1 {
			t.Errorf("%d: Live, Count, Distinct, Len = %d, %d, %d, %d; want three times %d, then 1", i, tab.Live(), tab.Count(api.Row{0, 2, 0}), tab.Distinct(1), tab.Len(), x.live)
		}
	}
	if _, b := tab.Get(0); b != explicit|marked {
		t.Errorf("bits %d; want explicit and marked", b)
	}
}

// P8.3: all patterns, in all ranges of numbers, for bits of one kind, of several, and of none.
func TestMatch(t *testing.T) {
	l := sample()
	tab := of(t, l)
	ends := []int{math.MinInt, -5, -1, 0, 1, 2, 6, 7, len(l) - 1, len(l), len(l) + 1, 1 << 32, math.MaxInt}
	for _, look := range looks(3) {
		for _, from := range ends {
			for _, to := range ends {
				for _, b := range []api.Bits{0, explicit, derived, marked, explicit | derived, derived | marked, allBits, 8, allBits &^ 7} {
					goesOver(t, tab, l, look, from, to, b)
				}
			}
		}
	}
	has(t, tab, l, looks(3)...)
}

// P8.3: what is iterated over comes by increasing numbers, however it came to have its bits.
func TestMatchOrder(t *testing.T) {
	tab := table.New()
	for n := range 100 {
		tab.Add(api.Row{1, 2, uint32(100 - n)}, derived)
	}
	tab.Clear(50, derived)
	tab.Add(api.Row{1, 2, 7}, explicit)
	tab.Set(50, explicit)
	tab.Clear(10, derived)
	for _, look := range []api.Row{{}, {1, 0, 0}, {0, 2, 0}, {1, 2, 0}} {
		next := 0
		for n, r := range tab.Match(look, 0, 100, allBits) {
			if next == 10 {
				next++
			}
			if n != next || r != (api.Row{1, 2, uint32(100 - n)}) {
				t.Fatalf("Match(%d): %d %d; want the number %d", look, n, r, next)
			}
			next++
		}
		if next != 100 {
			t.Errorf("Match(%d) ends before %d", look, next)
		}
	}
}

// P8.3: a row that is set, cleared, or added again meanwhile, ahead or behind, is included, or not, by its state when it is reached; one that comes is not.
func TestMatchMeanwhile(t *testing.T) {
	for _, look := range patterns(api.Row{1, 2, 3}) {
		for reached := range len(sample()) {
			for changed := range len(sample()) {
				meanwhile(t, look, reached, changed, (*table.Table).Set)
				meanwhile(t, look, reached, changed, func(tab *table.Table, n int, b api.Bits) {
					r, _ := tab.Get(n)
					tab.Add(r, b)
				})
			}
		}
	}
}

// meanwhile fails if an iteration is wrong during which the row changed goes out, or is brought back, when the row reached is; and rows come all the time.
func meanwhile(t *testing.T, look api.Row, reached, changed int, bring func(*table.Table, int, api.Bits)) {
	t.Helper()
	l := sample()
	tab := of(t, l)
	var got, want []hit
	for n, r := range tab.Match(look, 0, math.MaxInt, explicit|derived) {
		got = append(got, hit{n, r})
		more := uint32(tab.Len() + 10)
		for _, r := range []api.Row{{1, 2, more}, {1, more, 3}, {more, 2, 3}, {1, more, more}, {more, 2, more}, {more, more, 3}} {
			tab.Add(r, explicit|derived)
		}
		if _, b := tab.Get(changed); n == reached && b == 0 {
			bring(tab, changed, explicit)
		} else if n == reached {
			tab.Clear(changed, allBits)
		}
	}
	for n := range l {
		if l[n].bits&(explicit|derived) == 0 || !fits(look, l[n].row) {
			continue
		}
		want = append(want, hit{n, l[n].row})
		if n == reached && l[changed].bits == 0 {
			l.set(changed, explicit)
		} else if n == reached {
			l.clear(changed, allBits)
		}
	}
	if !slices.Equal(got, want) {
		t.Fatalf("Match(%d), at %d changes %d: goes over %v; want %v", look, reached, changed, got, want)
	}
}

// P8.3: all rows go out as soon as the first one is reached; then they come back.
func TestMatchAllOut(t *testing.T) {
	l := sample()
	for _, look := range []api.Row{{}, {1, 0, 0}, {0, 2, 0}, {0, 0, 3}, {1, 2, 0}, {0, 2, 3}, {1, 0, 3}, {1, 2, 3}} {
		tab, rounds := of(t, l), 0
		seq := tab.Match(look, 0, tab.Len(), allBits)
		for range seq {
			rounds++
			for n := range l {
				tab.Clear(n, allBits)
			}
		}
		if rounds != 1 {
			t.Errorf("Match(%d): %d rounds; want 1", look, rounds)
		}
		goesOver(t, tab, nil, look, 0, tab.Len(), allBits)
		for n, x := range l {
			tab.Set(n, x.bits)
		}
		if !slices.Equal(collected(seq), l.match(look, 0, len(l), allBits)) {
			t.Errorf("Match(%d), begun again, is not like the first one", look)
		}
	}
}

// P8.3: an iteration begins when it is run: what came before that is included, also if Match was called before, or the iteration was run before.
func TestMatchBegins(t *testing.T) {
	for _, look := range patterns(api.Row{1, 2, 3}) {
		tab, l := table.New(), list{}
		seq := tab.Match(look, 0, 5, explicit)
		for _, r := range []api.Row{{3, 2, 1}, {1, 2, 3}, {1, 2, 4}, {1, 4, 3}, {4, 2, 3}, {1, 2, 5}, {1, 5, 3}} {
			if got, want := collected(seq), l.match(look, 0, 5, explicit); !slices.Equal(got, want) {
				t.Errorf("Match(%d) goes over %v; want %v", look, got, want)
			}
			adds(t, tab, &l, r, explicit)
		}
		if got, want := collected(seq), l.match(look, 0, 5, explicit); !slices.Equal(got, want) {
			t.Errorf("Match(%d) goes over %v; want %v", look, got, want)
		}
	}
}

// P8.3: an iteration that is left early asks for no more, and goes over everything when it is begun again.
func TestMatchLeft(t *testing.T) {
	l := sample()
	tab := of(t, l)
	for _, look := range looks(3) {
		want := l.match(look, 0, len(l), allBits)
		seq := tab.Match(look, 0, len(l), allBits)
		for left := range len(want) {
			var got []hit
			seq(func(n int, r api.Row) bool {
				got = append(got, hit{n, r})
				return len(got) <= left
			})
			if !slices.Equal(got, want[:left+1]) {
				t.Fatalf("Match(%d), left after %d: goes over %v; want %v", look, left+1, got, want[:left+1])
			}
			if !slices.Equal(collected(seq), want) {
				t.Fatalf("Match(%d), begun again, is not like the first one", look)
			}
		}
	}
}

// P8.3: iterations of one sequence, and of several, run within one another.
func TestMatchWithin(t *testing.T) {
	l := sample()
	tab := of(t, l)
	for _, look := range []api.Row{{}, {1, 0, 0}, {0, 2, 0}, {0, 0, 3}, {1, 2, 0}, {0, 2, 3}, {1, 0, 3}, {1, 2, 3}} {
		seq := tab.Match(look, 0, len(l), allBits)
		want := l.match(look, 0, len(l), allBits)
		var got []hit
		for n, r := range seq {
			got = append(got, hit{n, r})
			if !slices.Equal(collected(seq), want) {
				t.Fatalf("Match(%d) within itself is not like the first one", look)
			}
			goesOver(t, tab, l, api.Row{0, 0, r[2]}, n, len(l), explicit)
		}
		if !slices.Equal(got, want) {
			t.Errorf("Match(%d) goes over %v; want %v", look, got, want)
		}
	}
}

// P8.3, P0.7: an iteration ends although each of its rounds adds a row.
func TestMatchEnds(t *testing.T) {
	for _, look := range patterns(api.Row{1, 2, 3}) {
		tab := table.New()
		tab.Add(api.Row{1, 2, 3}, explicit)
		rounds := 0
		for range tab.Match(look, 0, math.MaxInt, explicit) {
			rounds++
			if rounds > 1 {
				t.Fatalf("Match(%d) goes on", look)
			}
			n := uint32(tab.Len()) + 3
			tab.Add(api.Row{1, 2, n}, explicit)
			tab.Add(api.Row{1, n, 3}, explicit)
			tab.Add(api.Row{n, 2, 3}, explicit)
		}
		if rounds != 1 {
			t.Errorf("Match(%d): %d rounds; want 1", look, rounds)
		}
	}
}

// P8.3: Count of each of the eight patterns, while rows go out, and come back.
func TestCount(t *testing.T) {
	l := sample()
	tab := of(t, l)
	for n := range l {
		tab.Clear(n, allBits)
		l.clear(n, allBits)
		has(t, tab, l, looks(3)...)
	}
	if tab.Live() != 0 || tab.Count(api.Row{}) != 0 || tab.Len() != len(l) {
		t.Errorf("all are out: Live, Count, Len = %d, %d, %d; want 0, 0, %d", tab.Live(), tab.Count(api.Row{}), tab.Len(), len(l))
	}
	for n := range l {
		adds(t, tab, &l, l[len(l)-1-n].row, marked)
		has(t, tab, l, looks(3)...)
	}
}

// P8.3: Distinct of each place, and of places that there are not, with rows that are out, and come back.
func TestDistinct(t *testing.T) {
	tab := table.New()
	is := func(a, b, c int) {
		t.Helper()
		for place, want := range map[int]int{math.MinInt: 0, -2: 0, -1: 0, 0: a, 1: b, 2: c, 3: 0, 4: 0, 1 << 32: 0, math.MaxInt: 0} {
			if n := tab.Distinct(place); n != want {
				t.Errorf("Distinct(%d) = %d; want %d", place, n, want)
			}
		}
	}
	is(0, 0, 0)
	tab.Add(api.Row{1, 2, 3}, explicit)
	is(1, 1, 1)
	tab.Add(api.Row{1, 2, 4}, explicit)
	is(1, 1, 2)
	tab.Add(api.Row{1, 5, 3}, explicit|derived)
	is(1, 2, 2)
	tab.Add(api.Row{6, 2, 3}, derived)
	is(2, 2, 2)
	tab.Add(api.Row{2, 5, 1}, derived)
	is(3, 2, 3)
	tab.Clear(2, explicit)
	is(3, 2, 3)
	tab.Clear(2, derived)
	is(3, 2, 3)
	tab.Clear(4, allBits)
	is(2, 1, 2)
	tab.Clear(4, allBits)
	is(2, 1, 2)
	tab.Clear(0, allBits)
	is(2, 1, 2)
	tab.Clear(1, allBits)
	is(1, 1, 1)
	tab.Add(api.Row{1, 2, 4}, derived)
	is(2, 1, 2)
	tab.Set(4, explicit)
	is(3, 2, 3)
	for n := range 5 {
		tab.Clear(n, allBits)
	}
	is(0, 0, 0)
}

// P8.4: a copy that changes, while the first one stays, and the other way round.
func TestCopy(t *testing.T) {
	for n := range len(sample()) + 1 {
		l := sample()[:n]
		tab := of(t, l)
		other := tab.Copy()
		has(t, other, l, looks(3)...)
		changed := slices.Clone(l)
		changes(t, other, &changed, 1)
		has(t, tab, l, looks(4)...)
		changes(t, tab, &l, 2)
		has(t, other, changed, looks(4)...)
		third := tab.Copy()
		both := slices.Clone(l)
		changes(t, tab, &l, 3)
		has(t, third, both, looks(4)...)
		changes(t, third, &both, 4)
		has(t, tab, l, looks(4)...)
		has(t, other, changed, looks(4)...)
	}
}

// changes adds rows that hang on seed, and takes some out; all lists of the table get another row.
func changes(t *testing.T, tab *table.Table, l *list, seed uint32) {
	t.Helper()
	for _, look := range looks(4) {
		if (look[0]*5+look[1]*3+look[2]+seed)%4 == 0 {
			adds(t, tab, l, look, 1<<(look[0]%3))
		}
	}
	for n := range *l {
		if (n+int(seed))%3 == 0 {
			tab.Clear(n, explicit|marked)
			l.clear(n, explicit|marked)
		}
	}
	has(t, tab, *l, looks(4)...)
}

// P8.4, P8.3: an iteration over a table does not see what becomes of its copy.
func TestCopyMeanwhile(t *testing.T) {
	l := sample()
	for _, look := range looks(3) {
		tab := of(t, l)
		other := tab.Copy()
		var got, gotOther []hit
		for n, r := range tab.Match(look, 0, 100, allBits) {
			got = append(got, hit{n, r})
			for n := range other.Len() {
				other.Clear(n, allBits)
			}
			other.Add(api.Row{1, 2, uint32(other.Len())}, explicit)
		}
		other = tab.Copy()
		for n, r := range other.Match(look, 0, 100, allBits) {
			gotOther = append(gotOther, hit{n, r})
			for n := range tab.Len() {
				tab.Clear(n, allBits)
			}
			tab.Add(api.Row{1, 2, uint32(tab.Len())}, explicit)
		}
		if want := l.match(look, 0, len(l), allBits); !slices.Equal(got, want) || !slices.Equal(gotOther, want) {
			t.Fatalf("Match(%d) goes over %v, in the copy %v; want %v", look, got, gotOther, want)
		}
	}
}

// P8.1, P8.3: the examples of the chapter.
func TestExamples(t *testing.T) {
	tab := table.New()
	if n, came := tab.Add(api.Row{1, 2, 3}, explicit); n != 0 || !came {
		t.Errorf("Add(1 2 3, explicit) = %d, %v; want 0, true", n, came)
	}
	if n, came := tab.Add(api.Row{1, 2, 3}, derived); n != 0 || came {
		t.Errorf("Add(1 2 3, derived) = %d, %v; want 0, false", n, came)
	}
	if n := tab.Count(api.Row{0, 2, 0}); n != 1 {
		t.Errorf("Count(0 2 0) = %d; want 1", n)
	}
}

// P8.1 to P8.4: random calls, held against a list.
func TestRandom(t *testing.T) {
	for seed := range int64(60) {
		random := rand.New(rand.NewSource(seed))
		most := 2 + random.Intn(4)
		all := looks(uint32(most))
		tab, l := table.New(), list{}
		for range 300 {
			n, b := random.Intn(len(l)+3)-1, api.Bits(random.Intn(8))
			look := all[random.Intn(len(all))]
			switch random.Intn(9) {
			case 0, 1, 2, 3:
				adds(t, tab, &l, look, b)
			case 4:
				tab.Set(n, b)
				l.set(n, b)
			case 5, 6:
				tab.Clear(n, b)
				l.clear(n, b)
			case 7:
				tab = tab.Copy()
			case 8:
				goesOver(t, tab, l, look, n, n+random.Intn(30), b)
			}
			has(t, tab, l, look)
		}
		has(t, tab, l, all...)
	}
}

// P8.1 to P8.4: as many rows as make each list and map grow, many times.
func TestMany(t *testing.T) {
	const many = 100000
	tab := table.New()
	for n := range many {
		if m, came := tab.Add(manyRow(n), explicit); m != n || !came {
			t.Fatalf("Add(%d) = %d, %v; want %d, true", manyRow(n), m, came, n)
		}
	}
	for n := 0; n < many; n += 2 {
		tab.Clear(n, explicit)
	}
	for i, tab := range []*table.Table{tab, tab.Copy()} {
		if tab.Len() != many || tab.Live() != many/2 || tab.Distinct(0) != 50 || tab.Distinct(1) != 5 || tab.Distinct(2) != many/2 {
			t.Errorf("%d: Len, Live, Distinct = %d, %d, %d, %d, %d", i, tab.Len(), tab.Live(), tab.Distinct(0), tab.Distinct(1), tab.Distinct(2))
		}
		for n := range many {
			if m, ok := tab.Find(manyRow(n)); m != n || !ok {
				t.Fatalf("%d: Find(%d) = %d, %v; want %d, true", i, manyRow(n), m, ok, n)
			}
			// The pattern matches each hundredth row from n on: all of them are out, or none.
			var want []hit
			if n%2 != 0 {
				want = []hit{{n, manyRow(n)}, {n + 100, manyRow(n + 100)}}
			}
			r := manyRow(n)
			if got := collected(tab.Match(api.Row{r[0], r[1], 0}, n, n+200, explicit)); n+200 <= many && !slices.Equal(got, want) {
				t.Fatalf("%d: Match from %d goes over %v; want %v", i, n, got, want)
			}
		}
	}
}

// manyRow returns the row n of many: the first number has a hundred values, the second one ten, each third one is its own.
func manyRow(n int) api.Row {
	return api.Row{uint32(n%100 + 1), uint32(n%10 + 1), uint32(n + 1)}
}
