package union_test

import (
	"iter"
	"math"
	"math/rand"
	"slices"
	"testing"

	"rhizome/union"
)

// join is two numbers that are joined.
type join [2]uint32

// joins are what was joined, one after another: a partition as the chapter defines it, in which two are in one clique if a sequence of joins leads from the one to the other.
type joins []join

// clique is what All goes over: a representative, and the numbers.
type clique struct {
	least   uint32
	numbers []uint32
}

// clique returns the numbers to which a sequence of joins leads from a, in order.
func (l joins) clique(a uint32) []uint32 {
	if a == 0 {
		return nil
	}
	reached := []uint32{a}
	for i := 0; i < len(reached); i++ {
		for _, x := range l {
			for side, n := range x {
				if n == reached[i] && !slices.Contains(reached, x[1-side]) {
					reached = append(reached, x[1-side])
				}
			}
		}
	}
	slices.Sort(reached)
	return reached
}

// find returns the least number of the clique of a; of 0, which has none, 0.
func (l joins) find(a uint32) uint32 {
	if a == 0 {
		return 0
	}
	return l.clique(a)[0]
}

// all returns the cliques of two or more, by their least numbers.
func (l joins) all() []clique {
	var cliques []clique
	for _, n := range l.numbers() {
		if c := l.clique(n); c[0] == n && len(c) > 1 {
			cliques = append(cliques, clique{n, c})
		}
	}
	return cliques
}

// numbers returns the numbers that were joined, in order.
func (l joins) numbers() []uint32 {
	var numbers []uint32
	for _, x := range l {
		numbers = append(numbers, x[:]...)
	}
	slices.Sort(numbers)
	return slices.Compact(numbers)
}

// join adds a join; it returns what Join should.
func (l *joins) join(a, b uint32) (uint32, bool) {
	if a == 0 || b == 0 {
		return 0, false
	}
	two := !slices.Contains(l.clique(a), b)
	*l = append(*l, join{a, b})
	return l.find(a), two
}

// of returns the partition that has been joined so.
func of(t *testing.T, l joins) *union.Partition {
	t.Helper()
	p := union.New()
	for i, x := range l {
		before := l[:i:i]
		joined(t, p, &before, x[0], x[1])
	}
	return p
}

// joined fails if Join does not return what it should.
func joined(t *testing.T, p *union.Partition, l *joins, a, b uint32) {
	t.Helper()
	n, two := p.Join(a, b)
	if m, want := l.join(a, b); n != m || two != want {
		t.Fatalf("Join(%d, %d) behind %d = %d, %v; want %d, %v", a, b, *l, n, two, m, want)
	}
}

// collected returns what an iteration goes over.
func collected(seq iter.Seq2[uint32, []uint32]) []clique {
	var l []clique
	for n, numbers := range seq {
		l = append(l, clique{n, slices.Clone(numbers)})
	}
	return l
}

// same reports whether both lists have the same cliques.
func same(a, b []clique) bool {
	return slices.EqualFunc(a, b, func(x, y clique) bool {
		return x.least == y.least && slices.Equal(x.numbers, y.numbers)
	})
}

// others are numbers that are joined in no test but where they are named.
var others = []uint32{0, math.MaxInt32 - 1, math.MaxInt32, math.MaxInt32 + 1, math.MaxUint32 - 1, math.MaxUint32}

// has fails if p is not as l is, by each of its calls that change nothing.
func has(t *testing.T, p *union.Partition, l joins) {
	t.Helper()
	numbers := append(l.numbers(), others...)
	for n := range uint32(16) {
		numbers = append(numbers, n)
	}
	for _, n := range numbers {
		if m := p.Find(n); m != l.find(n) {
			t.Fatalf("%d: Find(%d) = %d; want %d", l, n, m, l.find(n))
		}
		if c := p.Clique(n); !slices.Equal(c, l.clique(n)) {
			t.Fatalf("%d: Clique(%d) = %d; want %d", l, n, c, l.clique(n))
		}
	}
	want := l.all()
	if n := p.Len(); n != len(want) {
		t.Fatalf("%d: Len = %d; want %d", l, n, len(want))
	}
	if got := collected(p.All()); !same(got, want) {
		t.Fatalf("%d: All goes over %d; want %d", l, got, want)
	}
}

// sample has cliques of different lengths: 1 10, 2 9, 3 5 7 12, 4 6 11 13 14; 8 and 15 are alone.
func sample() joins {
	return slices.Clip(joins{{9, 2}, {7, 5}, {12, 7}, {3, 12}, {14, 13}, {11, 6}, {6, 14}, {6, 4}, {1, 10}})
}

// P11.1, P11.2: a new partition, with each call.
func TestNew(t *testing.T) {
	p, q := union.New(), union.New()
	has(t, p, nil)
	if c := p.Copy(); c == nil {
		t.Error("Copy of a new one is nil")
	}
	var l joins
	joined(t, p, &l, 2, 1)
	has(t, p, l)
	has(t, q, nil)
	has(t, union.New(), nil)
}

// P11.1, P11.2: a nil partition, and a zero one, with each call; also behind each Join.
func TestNil(t *testing.T) {
	for i, p := range []*union.Partition{nil, {}, new(union.Partition)} {
		for _, x := range []join{{1, 2}, {2, 1}, {1, 1}, {0, 1}, {1, 0}, {0, 0}, {math.MaxUint32, 1}} {
			if n, two := p.Join(x[0], x[1]); n != 0 || two {
				t.Errorf("%d: Join(%d, %d) = %d, %v; want 0, false", i, x[0], x[1], n, two)
			}
			if p.All() == nil {
				t.Errorf("%d: All is nil", i)
			}
			if p.Copy() != nil {
				t.Errorf("%d: Copy is not nil", i)
			}
			has(t, p, nil)
		}
	}
}

// P11.1: both cliques become one; its representative, and whether they were two.
func TestJoin(t *testing.T) {
	for _, x := range []struct {
		what  string
		a, b  uint32
		least uint32
		two   bool
	}{
		{"two that are alone, the lesser one first", 8, 15, 8, true},
		{"two that are alone, the lesser one behind", 15, 8, 8, true},
		{"alone and a clique, the lesser one alone", 8, 20, 8, true},
		{"alone and a clique, the lesser one in the clique", 15, 9, 2, true},
		{"a clique and one that is alone, the lesser one in the clique", 14, 8, 4, true},
		{"a clique and one that is alone, between its numbers", 3, 8, 3, true},
		{"the lesser and longer one first", 3, 20, 3, true},
		{"the lesser and longer one behind", 21, 7, 3, true},
		{"the lesser and shorter one first", 2, 12, 2, true},
		{"the lesser and shorter one behind", 13, 1, 1, true},
		{"of the same length, the lesser one first", 10, 2, 1, true},
		{"of the same length, the lesser one behind", 9, 10, 1, true},
		{"representatives, the lesser one behind", 4, 3, 3, true},
		{"in one clique, the representative first", 4, 14, 4, false},
		{"in one clique, the representative behind", 13, 4, 4, false},
		{"in one clique, neither is the representative", 12, 7, 3, false},
		{"a number with itself, alone", 8, 8, 8, false},
		{"a number with itself, in a clique", 13, 13, 4, false},
		{"a representative with itself", 3, 3, 3, false},
		{"the greatest number and one that is alone", math.MaxUint32, 8, 8, true},
		{"a clique and the greatest number", 5, math.MaxUint32, 3, true},
		{"the two greatest numbers", math.MaxUint32, math.MaxUint32 - 1, math.MaxUint32 - 1, true},
		{"the greatest number with itself", math.MaxUint32, math.MaxUint32, math.MaxUint32, false},
	} {
		l := append(sample(), join{20, 21})
		p := of(t, l)
		if n, two := p.Join(x.a, x.b); n != x.least || two != x.two {
			t.Errorf("%s: Join(%d, %d) = %d, %v; want %d, %v", x.what, x.a, x.b, n, two, x.least, x.two)
		}
		l.join(x.a, x.b)
		has(t, p, l)
		if n, two := p.Join(x.b, x.a); n != x.least || two {
			t.Errorf("%s, again: Join(%d, %d) = %d, %v; want %d, false", x.what, x.b, x.a, n, two, x.least)
		}
		has(t, p, l)
	}
}

// P11.1: each two numbers of the sample, and what is joined behind that.
func TestJoinEach(t *testing.T) {
	for a := range uint32(16) {
		for b := range uint32(16) {
			l := sample()
			p := of(t, l)
			joined(t, p, &l, a, b)
			has(t, p, l)
			joined(t, p, &l, b, 8)
			joined(t, p, &l, 15, a)
			has(t, p, l)
			joined(t, p, &l, 12, 9)
			has(t, p, l)
		}
	}
}

// P11.1: a zero on either side, and on both, changes nothing.
func TestJoinZero(t *testing.T) {
	for _, l := range []joins{nil, sample()} {
		p := of(t, l)
		for _, n := range []uint32{0, 1, 2, 8, 13, 15, math.MaxUint32} {
			for _, x := range []join{{0, n}, {n, 0}} {
				if m, two := p.Join(x[0], x[1]); m != 0 || two {
					t.Errorf("Join(%d, %d) = %d, %v; want 0, false", x[0], x[1], m, two)
				}
				has(t, p, l)
			}
		}
	}
}

// P11.1: a number that is joined with itself is still alone.
func TestJoinItself(t *testing.T) {
	p := union.New()
	for _, n := range []uint32{1, 2, math.MaxUint32} {
		for range 2 {
			if m, two := p.Join(n, n); m != n || two {
				t.Errorf("Join(%d, %d) = %d, %v; want %d, false", n, n, m, two, n)
			}
			has(t, p, nil)
		}
	}
	if m, two := p.Join(2, 1); m != 1 || !two {
		t.Errorf("Join(2, 1) = %d, %v; want 1, true", m, two)
	}
}

// P11.1, P11.2: Find and Clique of 0, of numbers that never were joined, of those of a clique, of the greatest ones.
func TestFindClique(t *testing.T) {
	p := of(t, append(sample(), join{math.MaxUint32, math.MaxInt32}))
	for _, x := range []struct {
		numbers []uint32
		least   uint32
		clique  []uint32
	}{
		{[]uint32{0}, 0, nil},
		{[]uint32{8}, 8, []uint32{8}},
		{[]uint32{15}, 15, []uint32{15}},
		{[]uint32{math.MaxUint32 - 1}, math.MaxUint32 - 1, []uint32{math.MaxUint32 - 1}},
		{[]uint32{1, 10}, 1, []uint32{1, 10}},
		{[]uint32{2, 9}, 2, []uint32{2, 9}},
		{[]uint32{3, 5, 7, 12}, 3, []uint32{3, 5, 7, 12}},
		{[]uint32{4, 6, 11, 13, 14}, 4, []uint32{4, 6, 11, 13, 14}},
		{[]uint32{math.MaxInt32, math.MaxUint32}, math.MaxInt32, []uint32{math.MaxInt32, math.MaxUint32}},
	} {
		for _, n := range x.numbers {
			if m := p.Find(n); m != x.least {
				t.Errorf("Find(%d) = %d; want %d", n, m, x.least)
			}
			if c := p.Clique(n); !slices.Equal(c, x.clique) {
				t.Errorf("Clique(%d) = %d; want %d", n, c, x.clique)
			}
		}
	}
}

// P11.1: the representative is the least number, also when a lesser one comes later, alone or with a clique that is longer, or shorter.
func TestLesser(t *testing.T) {
	p := union.New()
	var l joins
	for _, x := range []struct {
		a, b, least uint32
	}{{90, 91, 90}, {80, 91, 80}, {92, 70, 70}, {92, 80, 70}, {60, 61, 60}, {61, 91, 60}, {50, 51, 50}, {52, 51, 50}, {53, 52, 50}, {54, 53, 50}, {55, 54, 50}, {56, 50, 50}, {57, 50, 50}, {91, 57, 50}, {49, 60, 49}, {1, 90, 1}, {48, 56, 1}} {
		if n, two := p.Join(x.a, x.b); n != x.least || two != !slices.Contains(l.clique(x.a), x.b) {
			t.Fatalf("Join(%d, %d) behind %d = %d, %v; want %d", x.a, x.b, l, n, two, x.least)
		}
		l.join(x.a, x.b)
		has(t, p, l)
		for _, n := range p.Clique(x.a) {
			if m := p.Find(n); m != x.least {
				t.Errorf("Find(%d) behind %d = %d; want %d", n, l, m, x.least)
			}
		}
	}
}

// P11.2: what is done to a list that Clique returned does not change the partition, nor another list.
func TestCliqueOwn(t *testing.T) {
	l := sample()
	p := of(t, l)
	for n := range uint32(16) {
		first, other := p.Clique(n), p.Clique(n)
		ruin(first)
		has(t, p, l)
		if !slices.Equal(other, l.clique(n)) {
			t.Errorf("Clique(%d) is %d behind changes of another list; want %d", n, other, l.clique(n))
		}
	}
	kept := p.Clique(14)
	joined(t, p, &l, 14, 8)
	joined(t, p, &l, 3, 14)
	if want := []uint32{4, 6, 11, 13, 14}; !slices.Equal(kept, want) {
		t.Errorf("Clique(14) is %d behind joins; want %d", kept, want)
	}
	has(t, p, l)
}

// ruin writes over all that a list has, and over the room behind it.
func ruin(l []uint32) {
	all := l[:cap(l)]
	for i := range all {
		all[i] = 77
	}
}

// P11.2: All over no clique, over one, and over many.
func TestAll(t *testing.T) {
	for _, x := range []struct {
		joins joins
		want  []clique
	}{
		{nil, nil},
		{joins{{3, 3}, {0, 3}, {5, 0}}, nil},
		{joins{{4, 3}}, []clique{{3, []uint32{3, 4}}}},
		{joins{{9, 5}, {7, 9}, {2, 7}}, []clique{{2, []uint32{2, 5, 7, 9}}}},
		{joins{{9, 8}, {2, 7}, {6, 1}}, []clique{{1, []uint32{1, 6}}, {2, []uint32{2, 7}}, {8, []uint32{8, 9}}}},
		{joins{{9, 8}, {2, 7}, {6, 1}, {9, 1}}, []clique{{1, []uint32{1, 6, 8, 9}}, {2, []uint32{2, 7}}}},
		{joins{{math.MaxUint32, math.MaxInt32 + 1}, {math.MaxInt32, 1}}, []clique{{1, []uint32{1, math.MaxInt32}}, {math.MaxInt32 + 1, []uint32{math.MaxInt32 + 1, math.MaxUint32}}}},
		{sample(), []clique{{1, []uint32{1, 10}}, {2, []uint32{2, 9}}, {3, []uint32{3, 5, 7, 12}}, {4, []uint32{4, 6, 11, 13, 14}}}},
	} {
		p := of(t, x.joins)
		if got := collected(p.All()); !same(got, x.want) {
			t.Errorf("%d: All goes over %d; want %d", x.joins, got, x.want)
		}
		if n := p.Len(); n != len(x.want) {
			t.Errorf("%d: Len = %d; want %d", x.joins, n, len(x.want))
		}
	}
}

// P11.2: an iteration that is left early asks for no more, and goes over everything when it is begun again.
func TestAllLeft(t *testing.T) {
	l := sample()
	p := of(t, l)
	want := l.all()
	seq := p.All()
	for left := range len(want) {
		var got []clique
		seq(func(n uint32, numbers []uint32) bool {
			got = append(got, clique{n, numbers})
			return len(got) <= left
		})
		if !same(got, want[:left+1]) {
			t.Errorf("left behind %d: All goes over %d; want %d", left+1, got, want[:left+1])
		}
		for range 2 {
			if got := collected(seq); !same(got, want) {
				t.Errorf("begun again: All goes over %d; want %d", got, want)
			}
		}
	}
	has(t, p, l)
}

// P11.2: iterations of one sequence run within one another.
func TestAllWithin(t *testing.T) {
	l := sample()
	want := l.all()
	seq := of(t, l).All()
	var got []clique
	for n, numbers := range seq {
		got = append(got, clique{n, numbers})
		if inner := collected(seq); !same(inner, want) {
			t.Fatalf("within itself All goes over %d; want %d", inner, want)
		}
	}
	if !same(got, want) {
		t.Errorf("All goes over %d; want %d", got, want)
	}
}

// P11.2: joins between the call of All and the iteration do not show; they do by the next call.
func TestAllBefore(t *testing.T) {
	for a := range uint32(16) {
		for b := range uint32(16) {
			l := sample()
			p := of(t, l)
			want, seq := l.all(), p.All()
			for _, x := range []join{{a, b}, {8, a}, {15, 16}, {b, 12}, {a, 14}, {b, 16}} {
				joined(t, p, &l, x[0], x[1])
				if got := collected(seq); !same(got, want) {
					t.Fatalf("All, called before %d was joined, goes over %d; want %d", x, got, want)
				}
				if got := collected(p.All()); !same(got, l.all()) {
					t.Fatalf("All, called when %d was joined, goes over %d; want %d", x, got, l.all())
				}
			}
		}
	}
}

// P11.2: an iteration over a new partition that is called before its first join goes over nothing.
func TestAllBeforeFirst(t *testing.T) {
	p := union.New()
	seq := p.All()
	p.Join(2, 1)
	if got := collected(seq); got != nil {
		t.Errorf("All goes over %d; want none", got)
	}
}

// P11.2: joins during the iteration do not show in it, whichever clique was reached.
func TestAllMeanwhile(t *testing.T) {
	for reached := range len(sample().all()) {
		for _, x := range []join{{1, 9}, {14, 1}, {5, 9}, {12, 4}, {8, 15}, {8, 1}, {14, 15}, {7, 8}, {20, 21}, {2, 16}} {
			l := sample()
			p := of(t, l)
			want := l.all()
			var got []clique
			for n, numbers := range p.All() {
				if got = append(got, clique{n, numbers}); len(got) == reached+1 {
					joined(t, p, &l, x[0], x[1])
					joined(t, p, &l, 17, x[1])
					has(t, p, l)
				}
			}
			if !same(got, want) {
				t.Errorf("joining %d behind %d: All goes over %d; want %d", x, reached+1, got, want)
			}
			has(t, p, l)
		}
	}
}

// P11.2, P0.7: an iteration ends although each of its rounds makes a clique, and makes all of them one.
func TestAllEnds(t *testing.T) {
	p := of(t, sample())
	want := p.Len()
	rounds, next := 0, uint32(100)
	for n := range p.All() {
		if rounds++; rounds > want {
			t.Fatal("All goes on")
		}
		p.Join(next, next+1)
		p.Join(n, 1)
		next += 2
	}
	if rounds != want {
		t.Errorf("%d rounds; want %d", rounds, want)
	}
}

// P11.2: what is done to the lists that All goes over changes neither the partition, nor what comes next, nor another iteration.
func TestAllOwn(t *testing.T) {
	l := sample()
	p := of(t, l)
	want := l.all()
	seq := p.All()
	for range 2 {
		i := 0
		for n, numbers := range seq {
			if n != want[i].least || !slices.Equal(numbers, want[i].numbers) {
				t.Fatalf("All goes over %d %d; want %d", n, numbers, want[i])
			}
			ruin(numbers)
			has(t, p, l)
			i++
		}
		if i != len(want) {
			t.Errorf("All goes over %d cliques; want %d", i, len(want))
		}
	}
}

// P11.2: Len behind each join.
func TestLen(t *testing.T) {
	p := union.New()
	if n := p.Len(); n != 0 {
		t.Errorf("Len of a new one = %d; want 0", n)
	}
	for _, x := range []struct {
		a, b uint32
		n    int
	}{{1, 1, 0}, {0, 1, 0}, {1, 0, 0}, {0, 0, 0}, {5, 6, 1}, {6, 5, 1}, {5, 5, 1}, {8, 7, 2}, {6, 9, 2}, {3, 8, 2}, {1, 2, 3}, {2, 9, 2}, {5, 1, 2}, {0, 9, 2}, {7, 6, 1}, {3, 2, 1}, {math.MaxUint32, 10, 2}, {10, 10, 2}, {10, 3, 1}} {
		p.Join(x.a, x.b)
		if n := p.Len(); n != x.n {
			t.Errorf("Len behind Join(%d, %d) = %d; want %d", x.a, x.b, n, x.n)
		}
	}
}

// P11.2: joins in a copy do not show in the first one, nor the other way round; whichever cliques there were.
func TestCopy(t *testing.T) {
	for n := range len(sample()) + 1 {
		for a := range uint32(16) {
			l := slices.Clip(sample()[:n])
			p := of(t, l)
			copied := p.Copy()
			has(t, copied, l)
			changed := slices.Clone(l)
			joined(t, copied, &changed, a, 15)
			joined(t, copied, &changed, 14, 1)
			has(t, p, l)
			joined(t, p, &l, a, 8)
			joined(t, p, &l, 14, 9)
			joined(t, p, &l, 14, 16)
			has(t, copied, changed)
			has(t, p, l)
			third, both := copied.Copy(), slices.Clone(changed)
			joined(t, copied, &changed, 12, a)
			joined(t, third, &both, 13, a)
			has(t, third, both)
			has(t, copied, changed)
			has(t, p, l)
		}
	}
}

// P11.2: several copies of one partition grow apart, also where they join the same cliques with others.
func TestCopies(t *testing.T) {
	l := sample()
	p := of(t, l)
	var copies []*union.Partition
	for range 8 {
		copies = append(copies, p.Copy())
	}
	for i, c := range copies {
		c.Join(14, uint32(30+i))
		c.Join(3, uint32(40+i))
	}
	for i, c := range copies {
		want := append(sample(), join{14, uint32(30 + i)}, join{3, uint32(40 + i)})
		has(t, c, want)
	}
	has(t, p, l)
}

// P11.2: Copy of nil, of a zero one, of a new one.
func TestCopyNone(t *testing.T) {
	var none *union.Partition
	if none.Copy() != nil || new(union.Partition).Copy() != nil {
		t.Error("Copy of nil, or of a zero one, is not nil")
	}
	p := union.New()
	copied := p.Copy()
	var l joins
	joined(t, copied, &l, 2, 1)
	has(t, p, nil)
	joined(t, p, &l, 4, 3)
	has(t, p, joins{{3, 4}})
	has(t, copied, joins{{1, 2}})
}

// P11.2: an iteration over a partition does not see what becomes of its copy, nor the other way round.
func TestCopyMeanwhile(t *testing.T) {
	l := sample()
	want := l.all()
	p := of(t, l)
	copied := p.Copy()
	seq, other := p.All(), copied.All()
	copied.Join(3, 14)
	copied.Join(8, 9)
	p.Join(10, 9)
	p.Join(14, 15)
	if got := collected(seq); !same(got, want) {
		t.Errorf("All goes over %d; want %d", got, want)
	}
	if got := collected(other); !same(got, want) {
		t.Errorf("All of the copy goes over %d; want %d", got, want)
	}
}

// P11.3: the same joins in each order, either way round.
func TestOrder(t *testing.T) {
	l := joins{{1, 2}, {3, 2}, {5, 4}, {6, 7}, {4, 6}}
	permutations(l, func(l joins) {
		for turned := range 1 << len(l) {
			p := union.New()
			for i, x := range l {
				if turned&(1<<i) != 0 {
					x[0], x[1] = x[1], x[0]
				}
				p.Join(x[0], x[1])
			}
			if got, want := collected(p.All()), []clique{{1, []uint32{1, 2, 3}}, {4, []uint32{4, 5, 6, 7}}}; !same(got, want) {
				t.Fatalf("%d: All goes over %d; want %d", l, got, want)
			}
		}
	})
}

// permutations calls with each order of l.
func permutations(l joins, call func(joins)) {
	var from func(int)
	from = func(i int) {
		if i == len(l) {
			call(slices.Clone(l))
		}
		for k := i; k < len(l); k++ {
			l[i], l[k] = l[k], l[i]
			from(i + 1)
			l[i], l[k] = l[k], l[i]
		}
	}
	from(0)
}

// P11.3: joins that are repeated change nothing.
func TestRepeated(t *testing.T) {
	l := sample()
	p := of(t, l)
	for _, x := range l {
		least := p.Find(x[0])
		for _, y := range []join{x, {x[1], x[0]}} {
			if n, two := p.Join(y[0], y[1]); n != least || two {
				t.Errorf("Join(%d, %d) again = %d, %v; want %d, false", y[0], y[1], n, two, least)
			}
		}
		has(t, p, l)
	}
}

// P11.1 to P11.3: random joins, held against the definition; then the same in other orders, and repeated.
func TestRandom(t *testing.T) {
	for seed := range int64(150) {
		random := rand.New(rand.NewSource(seed))
		most := 3 + random.Intn(25)
		p := union.New()
		var l joins
		for range random.Intn(2 * most) {
			joined(t, p, &l, number(random, most), number(random, most))
			if random.Intn(8) == 0 {
				p = p.Copy()
			}
			has(t, p, l)
		}
		for range 4 {
			again := append(slices.Clone(l), l[:random.Intn(len(l)+1)]...)
			random.Shuffle(len(again), func(i, k int) { again[i], again[k] = again[k], again[i] })
			q := union.New()
			for _, x := range again {
				i := random.Intn(2)
				q.Join(x[i], x[1-i])
			}
			has(t, q, l)
		}
	}
}

// number returns one of the numbers from 0 up to most, or, seldom, of the greatest ones.
func number(random *rand.Rand, most int) uint32 {
	if random.Intn(12) == 0 {
		return others[random.Intn(len(others))]
	}
	return uint32(random.Intn(most + 1))
}

// P11.1 to P11.3: a long chain of joins, in each of several orders.
func TestChain(t *testing.T) {
	const many = 200000
	up := func(i uint32) uint32 { return i }
	down := func(i uint32) uint32 { return many - 2 - i }
	mixed := func(i uint32) uint32 { return uint32(uint64(i) * 7919 % (many - 1)) }
	for k, order := range []func(uint32) uint32{up, down, mixed} {
		p := union.New()
		for i := range uint32(many - 1) {
			n := order(i) + 1
			if _, two := p.Join(n+1, n); !two {
				t.Fatalf("%d: Join(%d, %d): they were one", k, n+1, n)
			}
		}
		numbers := p.Clique(many / 2)
		if p.Len() != 1 || len(numbers) != many {
			t.Fatalf("%d: Len = %d, of %d numbers; want 1, of %d", k, p.Len(), len(numbers), many)
		}
		for i, n := range numbers {
			if n != uint32(i+1) || p.Find(n) != 1 {
				t.Fatalf("%d: the number %d is %d, its representative %d; want %d, 1", k, i, n, p.Find(n), i+1)
			}
		}
		if n, two := p.Join(many, 1); n != 1 || two {
			t.Errorf("%d: Join(%d, 1) = %d, %v; want 1, false", k, many, n, two)
		}
	}
}

// P11.1 to P11.3: many cliques, which become fewer: two of the same length are joined, again and again.
func TestMany(t *testing.T) {
	const many = 1 << 16
	p := union.New()
	for size := uint32(1); size < many; size *= 2 {
		for a := uint32(1); a < many; a += 2 * size {
			if n, two := p.Join(a+2*size-1, a); n != a || !two {
				t.Fatalf("Join(%d, %d) = %d, %v; want %d, true", a+2*size-1, a, n, two, a)
			}
		}
		least := uint32(1)
		for n, numbers := range p.All() {
			if n != least || len(numbers) != int(2*size) || numbers[0] != n || numbers[2*size-1] != n+2*size-1 || p.Find(n+size) != n {
				t.Fatalf("All goes over %d, %d numbers; want %d, %d", n, len(numbers), least, 2*size)
			}
			least += 2 * size
		}
		if least != many+1 || p.Len() != int(many/(2*size)) {
			t.Fatalf("All ends before %d, Len = %d; want %d, %d", least, p.Len(), many+1, many/(2*size))
		}
	}
}

// P11.1, P11.2: the example of the chapter.
func TestExample(t *testing.T) {
	p := union.New()
	if n, two := p.Join(5, 3); n != 3 || !two {
		t.Errorf("Join(5, 3) = %d, %v; want 3, true", n, two)
	}
	if n, two := p.Join(3, 9); n != 3 || !two {
		t.Errorf("Join(3, 9) = %d, %v; want 3, true", n, two)
	}
	if n := p.Find(9); n != 3 {
		t.Errorf("Find(9) = %d; want 3", n)
	}
	if c := p.Clique(5); !slices.Equal(c, []uint32{3, 5, 9}) {
		t.Errorf("Clique(5) = %d; want 3 5 9", c)
	}
}
