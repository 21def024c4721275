package dict_test

import (
	"fmt"
	"iter"
	"math"
	"slices"
	"strconv"
	"strings"
	"testing"

	"rhizome/api"
	"rhizome/dict"
)

func iri(s string) api.Term       { return api.Term{Kind: api.IRI, Text: s} }
func blank(s string) api.Term     { return api.Term{Kind: api.Blank, Text: s} }
func plain(s string) api.Term     { return api.Term{Kind: api.Plain, Text: s} }
func lang(s, tag string) api.Term { return api.Term{Kind: api.Lang, Text: s, Extra: tag} }
func typed(s, of string) api.Term { return api.Term{Kind: api.Typed, Text: s, Extra: of} }

// show is how tests tell of a term; of long texts the beginning.
func show(t api.Term) string {
	return fmt.Sprintf("(%d %.60q %.60q)", t.Kind, t.Text, t.Extra)
}

// terms are valid, of all kinds, no two the same; many differ in one place alone.
func terms() []api.Term {
	long := strings.Repeat("a", api.MaxText-1)
	name := strings.Repeat("i", api.MaxIRI-1)
	l := []api.Term{
		iri("a"), blank("a"), plain("a"), lang("a", "a"), typed("a", "a"),
		iri("b"), blank("b"), plain("b"), lang("b", "a"), typed("b", "a"),
		lang("a", "b"), typed("a", "b"), lang("b", "b"), typed("b", "b"),
		iri("ab"), blank("ab"), plain("ab"), lang("ab", "a"), typed("ab", "a"),
		lang("a", "ab"), typed("a", "ab"), lang("a", "ba"), typed("a", "ba"),
		iri("ba"), blank("ba"), plain("ba"), plain("aa"), plain("a "), plain(" a"), plain("A"), plain("aA"),
		plain(""), lang("", "a"), typed("", "a"), lang("", "aa"), typed("", "aa"), lang("", "en"), lang("en", "en"),
		plain("\x00"), plain("\x00a"), plain("a\x00"), lang("a\x00", "a"), lang("\x00a", "a"), typed("a\x00a", "a"),
		plain("\x01"), plain("\x05a"), plain("\x7f"), plain("\u0080"), plain("\u00ff"), plain("é"), plain("e\u0301"), plain("😀"), plain("\U0010ffff"),
		iri("é"), iri("http://a/1"), iri("http://a/2"), iri("http://b/1"), iri(api.XSDString), iri(api.SameAs), plain(api.XSDString),
		typed("1", "http://x"), typed("1", api.XSDString+"s"), lang("a\"b", "en"), lang("a\"b", "en-us"), lang("a\"b", "en-u"),
		plain(long), plain(long + "a"), plain(long + "b"), plain("b" + long), lang(long, "a"), lang(long, "b"), typed(long, "a"),
		iri(name), iri(name + "i"), iri(name + "j"), iri("j" + name), typed("a", name), typed("a", name+"i"), typed("a", name+"j"), typed("a", "j"+name),
		blank(strings.Repeat("z", 64)), blank(strings.Repeat("z", 63)), lang("a", strings.Repeat("a", 35)), lang("a", strings.Repeat("a", 34)),
	}
	for c := range 128 {
		s := string(rune(c))
		l = append(l, plain("1"+s), lang("1"+s, "a"), typed("1"+s, "a"), plain("2"+s+"3"), lang("2"+s+"3", "a"))
	}
	return slices.Clip(l)
}

// noTerms are not valid; the first ones have the bytes of terms that are, when they are put together carelessly.
var noTerms = []api.Term{
	{Kind: 256 + api.IRI, Text: "a"},
	{Kind: api.IRI - 256, Text: "a"},
	{Kind: 1<<32 + api.IRI, Text: "a"},
	{Kind: api.Lang, Text: "a\xffa"},
	{Kind: api.Lang, Extra: "a\xffa"},
	{Kind: api.Typed, Text: "a\x00a"},
	{Kind: api.Typed, Text: "a\xff", Extra: "a"},
	{Kind: api.Plain, Text: "a", Extra: "a"},
	{Kind: api.Plain, Extra: "a"},
	{Kind: api.IRI, Extra: "a"},
	{Kind: api.IRI, Text: "a", Extra: "a"},
	{},
	{Kind: 0, Text: "a"},
	{Kind: 6, Text: "a"},
	{Kind: -1, Text: "a"},
	{Kind: api.IRI},
	{Kind: api.IRI, Text: "a b"},
	{Kind: api.IRI, Text: strings.Repeat("a", api.MaxIRI+1)},
	{Kind: api.Blank},
	{Kind: api.Blank, Text: "1"},
	{Kind: api.Plain, Text: "\xff"},
	{Kind: api.Plain, Text: strings.Repeat("a", api.MaxText+1)},
	{Kind: api.Lang, Text: "a"},
	{Kind: api.Lang, Text: "a", Extra: "A"},
	{Kind: api.Typed, Text: "a"},
	{Kind: api.Typed, Text: "a", Extra: api.XSDString},
}

// many returns n terms, no two the same.
func many(n int) []api.Term {
	var l []api.Term
	for i := range n {
		s := strconv.Itoa(i / 5)
		l = append(l, []api.Term{iri("i" + s), blank("i" + s), plain("i" + s), lang("i", "a-"+s), typed("i", "i"+s)}[i%5])
	}
	return l
}

// with returns a dictionary that has l, without a limit to speak of.
func with(t *testing.T, l ...api.Term) *dict.Dict {
	t.Helper()
	d := dict.New(api.MaxTerms)
	interned(t, d, l...)
	return d
}

// interned puts l, that is new, into d.
func interned(t *testing.T, d *dict.Dict, l ...api.Term) {
	t.Helper()
	for _, x := range l {
		want := uint32(d.Len() + 1)
		if n, e := d.Intern(x); n != want || e != api.OK {
			t.Fatalf("Intern(%s) = %d, %d; want %d", show(x), n, e, want)
		}
	}
}

// listed returns what an iteration goes over; it fails if the numbers are not 1, 2 ..
func listed(t *testing.T, seq iter.Seq2[uint32, api.Term]) []api.Term {
	t.Helper()
	var l []api.Term
	for n, x := range seq {
		l = append(l, x)
		if int(n) != len(l) {
			t.Fatalf("the number %d comes as the %d. one", n, len(l))
		}
	}
	return l
}

// has fails if d has not just the terms of want, by each of its calls, and the limit.
func has(t *testing.T, d *dict.Dict, limit int, want []api.Term) {
	t.Helper()
	if d.Len() != len(want) || d.Limit() != limit {
		t.Fatalf("Len, Limit = %d, %d; want %d, %d", d.Len(), d.Limit(), len(want), limit)
	}
	for i, x := range want {
		if n, ok := d.Find(x); int(n) != i+1 || !ok {
			t.Fatalf("Find(%s) = %d, %v; want %d", show(x), n, ok, i+1)
		}
		if y, ok := d.Term(uint32(i + 1)); y != x || !ok {
			t.Fatalf("Term(%d) = %s, %v; want %s", i+1, show(y), ok, show(x))
		}
	}
	for _, n := range []uint32{0, uint32(len(want) + 1), uint32(len(want) + 2), 1 << 31, math.MaxUint32} {
		if y, ok := d.Term(n); y != (api.Term{}) || ok {
			t.Fatalf("Term(%d) = %s, %v; want none", n, show(y), ok)
		}
	}
	if l := listed(t, d.Terms()); !slices.Equal(l, want) {
		t.Fatalf("Terms goes over %d others than those %d", len(l), len(want))
	}
}

// lacks fails if d finds one of l.
func lacks(t *testing.T, d *dict.Dict, l ...api.Term) {
	t.Helper()
	for _, x := range l {
		if n, ok := d.Find(x); n != 0 || ok {
			t.Fatalf("Find(%s) = %d, %v; want 0, false", show(x), n, ok)
		}
	}
}

// refuses fails if d interns x, or refuses it for another reason.
func refuses(t *testing.T, d *dict.Dict, x api.Term, want api.Errno) {
	t.Helper()
	if n, e := d.Intern(x); n != 0 || e != want {
		t.Fatalf("Intern(%s) = %d, %d; want 0, %d", show(x), n, e, want)
	}
}

// P3.1: New.
func TestNew(t *testing.T) {
	for _, limit := range []int{-1, -2, math.MinInt, -api.MaxTerms, api.MaxTerms + 1, 1 << 32, 1<<32 + 1, math.MaxInt} {
		if dict.New(limit) != nil {
			t.Errorf("New(%d) is not nil", limit)
		}
	}
	for _, limit := range []int{0, 1, 2, 10, 1000, api.MaxTerms - 1, api.MaxTerms} {
		d := dict.New(limit)
		if d == nil {
			t.Fatalf("New(%d) is nil", limit)
		}
		has(t, d, limit, nil)
		lacks(t, d, terms()...)
	}
}

// P3.1: two dictionaries have nothing in common.
func TestNewEach(t *testing.T) {
	a, b := dict.New(5), dict.New(5)
	interned(t, a, iri("a"), iri("b"))
	has(t, b, 5, nil)
	interned(t, b, iri("b"))
	has(t, a, 5, []api.Term{iri("a"), iri("b")})
	has(t, b, 5, []api.Term{iri("b")})
}

// P3.1: Intern, Find, Term.
func TestIntern(t *testing.T) {
	d, l := dict.New(api.MaxTerms), terms()
	for i, x := range l {
		lacks(t, d, x)
		interned(t, d, x)
		has(t, d, api.MaxTerms, l[:i+1])
	}
	for i, x := range l {
		if n, e := d.Intern(x); int(n) != i+1 || e != api.OK {
			t.Errorf("Intern(%s) again = %d, %d; want %d", show(x), n, e, i+1)
		}
	}
	has(t, d, api.MaxTerms, l)
}

// P3.1: an equal text that stands elsewhere is the same term.
func TestInternEqual(t *testing.T) {
	b := []byte("http://a")
	d := with(t, iri(string(b)))
	b[7] = 'b'
	has(t, d, api.MaxTerms, []api.Term{iri("http://a")})
	interned(t, d, iri(string(b)))
	has(t, d, api.MaxTerms, []api.Term{iri("http://a"), iri("http://b")})
}

// P3.1: terms that are not valid.
func TestInternInvalid(t *testing.T) {
	l := terms()
	full, open := dict.New(len(l)), with(t, l...)
	interned(t, full, l...)
	for _, d := range []*dict.Dict{dict.New(0), dict.New(5), full, open} {
		limit, before := d.Limit(), listed(t, d.Terms())
		for _, x := range noTerms {
			refuses(t, d, x, api.ErrArg)
			lacks(t, d, x)
		}
		has(t, d, limit, before)
	}
}

// P3.1: a dictionary that is full.
func TestInternFull(t *testing.T) {
	l := many(12)
	for limit := range 10 {
		d := dict.New(limit)
		interned(t, d, l[:limit]...)
		for _, x := range l[limit:] {
			refuses(t, d, x, api.ErrFull)
			lacks(t, d, x)
		}
		for i, x := range l[:limit] {
			if n, e := d.Intern(x); int(n) != i+1 || e != api.OK {
				t.Errorf("with the limit %d: Intern(%s) = %d, %d; want %d", limit, show(x), n, e, i+1)
			}
		}
		refuses(t, d, api.Term{}, api.ErrArg)
		has(t, d, limit, l[:limit])
	}
}

// P3.1, P3.4: as many terms as make each table grow, many times; they are found, others are not.
func TestInternMany(t *testing.T) {
	l := many(40000)
	d := with(t, l[:20000]...)
	has(t, d, api.MaxTerms, l[:20000])
	lacks(t, d, l[20000:]...)
	for i, x := range l[:20000] {
		if n, e := d.Intern(x); int(n) != i+1 || e != api.OK {
			t.Fatalf("Intern(%s) again = %d, %d; want %d", show(x), n, e, i+1)
		}
	}
	interned(t, d, l[20000:]...)
	has(t, d, api.MaxTerms, l)
}

// P3.1, P3.4: at each size all terms are found, and no other one is.
func TestInternEachSize(t *testing.T) {
	d, l := dict.New(300), many(301)
	for i := range 300 {
		interned(t, d, l[i])
		has(t, d, 300, l[:i+1])
		lacks(t, d, l[i+1:]...)
	}
}

// P3.1 to P3.3: a nil dictionary, and a zero one.
func TestNil(t *testing.T) {
	for i, d := range []*dict.Dict{nil, {}, new(dict.Dict)} {
		refuses(t, d, iri("a"), api.ErrNil)
		refuses(t, d, api.Term{}, api.ErrNil)
		has(t, d, 0, nil)
		lacks(t, d, iri("a"), api.Term{})
		for _, n := range []int{-1, 0, 1, math.MinInt, math.MaxInt} {
			if e := d.SetLimit(n); e != api.ErrNil {
				t.Errorf("%d: SetLimit(%d) = %d", i, n, e)
			}
			if e := d.Cut(n); e != api.ErrNil {
				t.Errorf("%d: Cut(%d) = %d", i, n, e)
			}
		}
		if d.Copy() != nil {
			t.Errorf("%d: Copy is not nil", i)
		}
		if d.Terms() == nil {
			t.Errorf("%d: Terms is nil", i)
		}
		has(t, d, 0, nil)
	}
}

// P3.2: SetLimit.
func TestSetLimit(t *testing.T) {
	l := many(20)
	for _, had := range []int{0, 1, 4, 9} {
		d := with(t, l[:had]...)
		limit := api.MaxTerms
		for _, next := range []int{had, had + 1, 100, api.MaxTerms - 1, api.MaxTerms, had + 1, had, 1 << 20, had} {
			if e := d.SetLimit(next); e != api.OK {
				t.Errorf("of %d: SetLimit(%d) = %d", had, next, e)
			}
			limit = next
			has(t, d, limit, l[:had])
			for _, no := range []int{-1, had - 1, math.MinInt, api.MaxTerms + 1, 1 << 32, 1<<32 + had, math.MaxInt} {
				if e := d.SetLimit(no); e != api.ErrArg {
					t.Errorf("of %d: SetLimit(%d) = %d; want ErrArg", had, no, e)
				}
			}
			has(t, d, limit, l[:had])
		}
		refuses(t, d, l[had], api.ErrFull)
		if e := d.SetLimit(had + 2); e != api.OK {
			t.Errorf("of %d: SetLimit(%d) = %d", had, had+2, e)
		}
		interned(t, d, l[had:had+2]...)
		refuses(t, d, l[had+2], api.ErrFull)
		has(t, d, had+2, l[:had+2])
	}
}

// P3.2: a limit of 0 is one.
func TestSetLimitZero(t *testing.T) {
	d := dict.New(3)
	if e := d.SetLimit(0); e != api.OK {
		t.Fatal(e)
	}
	refuses(t, d, iri("a"), api.ErrFull)
	has(t, d, 0, nil)
}

// P3.2: Cut.
func TestCut(t *testing.T) {
	l := many(40)
	for had := range len(l) {
		for n := range had + 1 {
			d := dict.New(50)
			interned(t, d, l[:had]...)
			for _, no := range []int{-1, had + 1, math.MinInt, math.MaxInt, 1 << 32, 1<<32 + n, 50, 51} {
				if e := d.Cut(no); e != api.ErrArg {
					t.Errorf("of %d: Cut(%d) = %d; want ErrArg", had, no, e)
				}
			}
			has(t, d, 50, l[:had])
			if e := d.Cut(n); e != api.OK {
				t.Errorf("of %d: Cut(%d) = %d", had, n, e)
			}
			has(t, d, 50, l[:n])
			lacks(t, d, l[n:]...)
		}
	}
}

// P3.2: a dictionary that was full, and cut, has room for as many.
func TestCutFull(t *testing.T) {
	l := many(12)
	d := dict.New(6)
	interned(t, d, l[:6]...)
	if e := d.Cut(4); e != api.OK {
		t.Fatal(e)
	}
	if e := d.SetLimit(3); e != api.ErrArg {
		t.Errorf("SetLimit(3) = %d; want ErrArg", e)
	}
	if e := d.SetLimit(5); e != api.OK {
		t.Errorf("SetLimit(5) = %d", e)
	}
	interned(t, d, l[8])
	refuses(t, d, l[5], api.ErrFull)
	has(t, d, 5, append(slices.Clone(l[:4]), l[8]))
}

// P3.4: after Cut a dictionary is as it was when it had that many: what comes next gets the next numbers.
func TestCutThenIntern(t *testing.T) {
	l := many(600)
	for _, n := range []int{0, 1, 2, 3, 4, 7, 8, 9, 100, 255, 256, 257, 299, 300} {
		d := with(t, l[:300]...)
		if e := d.Cut(n); e != api.OK {
			t.Fatal(e)
		}
		// Some that were there before, in another order, and some that were not.
		next := slices.Concat(l[300:400], l[n:300], l[400:])
		slices.Reverse(next)
		want := slices.Concat(l[:n], next)
		interned(t, d, next...)
		has(t, d, api.MaxTerms, want)
		if e := d.Cut(n); e != api.OK {
			t.Fatal(e)
		}
		has(t, d, api.MaxTerms, l[:n])
		lacks(t, d, next...)
		interned(t, d, l[n:]...)
		has(t, d, api.MaxTerms, l)
	}
}

// P3.4: the example of the chapter.
func TestExample(t *testing.T) {
	d := dict.New(10)
	interned(t, d, iri("a"), iri("b"))
	if n, e := d.Intern(iri("a")); n != 1 || e != api.OK {
		t.Errorf("Intern(a) = %d, %d", n, e)
	}
	if e := d.Cut(1); e != api.OK {
		t.Errorf("Cut(1) = %d", e)
	}
	if n, e := d.Intern(iri("b")); n != 2 || e != api.OK {
		t.Errorf("Intern(b) = %d, %d", n, e)
	}
}

// P3.3: Terms may be stopped, repeated, and run within itself.
func TestTerms(t *testing.T) {
	l := terms()
	d := with(t, l...)
	seq := d.Terms()
	for stop := range len(l) + 1 {
		var got []api.Term
		for n, x := range seq {
			if int(n) > stop {
				break
			}
			got = append(got, x)
		}
		if !slices.Equal(got, l[:stop]) {
			t.Fatalf("stopped after %d: %d terms", stop, len(got))
		}
	}
	for range 3 {
		if !slices.Equal(listed(t, seq), l) {
			t.Fatal("another iteration is not like the first one")
		}
	}
	rounds := 0
	for n, x := range seq {
		rounds++
		if l[n-1] != x || !slices.Equal(listed(t, seq), l) {
			t.Fatalf("within another one: %d %s", n, show(x))
		}
	}
	if rounds != len(l) {
		t.Errorf("%d rounds; want %d", rounds, len(l))
	}
}

// P3.3: after it was stopped an iteration asks for no more.
func TestTermsStopped(t *testing.T) {
	calls := 0
	with(t, many(10)...).Terms()(func(n uint32, _ api.Term) bool {
		calls++
		return n < 4
	})
	if calls != 4 {
		t.Errorf("%d calls; want 4", calls)
	}
}

// P3.3: Terms goes over the terms as they are when it is called, whatever comes after that.
func TestTermsAsTheyWere(t *testing.T) {
	l := many(120)
	for _, n := range []int{0, 1, 3, 4, 5, 30, 64} {
		for cut := range n + 1 {
			d := with(t, l[:n]...)
			seq := d.Terms()
			interned(t, d, l[n:n+2]...)
			grown := d.Terms()
			if !slices.Equal(listed(t, seq), l[:n]) {
				t.Fatalf("%d terms, 2 more: others are listed", n)
			}
			if e := d.Cut(cut); e != api.OK {
				t.Fatal(e)
			}
			interned(t, d, l[100:]...)
			if !slices.Equal(listed(t, seq), l[:n]) || !slices.Equal(listed(t, grown), l[:n+2]) {
				t.Fatalf("%d terms, cut at %d, others came: others are listed", n, cut)
			}
			has(t, d, api.MaxTerms, slices.Concat(l[:cut], l[100:]))
		}
	}
}

// P3.3: a dictionary may change while its terms are gone over.
func TestTermsMeanwhile(t *testing.T) {
	l := many(100)
	d := with(t, l[:50]...)
	var got []api.Term
	for n, x := range d.Terms() {
		got = append(got, x)
		switch {
		case n < 20:
			interned(t, d, l[49+n])
		case n == 20:
			if e := d.Cut(5); e != api.OK {
				t.Fatal(e)
			}
		default:
			interned(t, d, plain("m"+strconv.Itoa(int(n))))
		}
	}
	if !slices.Equal(got, l[:50]) {
		t.Errorf("%d terms that are not those 50", len(got))
	}
	if d.Len() != 35 {
		t.Errorf("Len = %d; want 35", d.Len())
	}
}

// P3.3: a copy has what was there, and neither changes with the other one.
func TestCopy(t *testing.T) {
	l := many(400)
	for _, n := range []int{0, 1, 3, 4, 5, 100, 127, 128, 129} {
		for _, cut := range []int{0, n / 2, n} {
			a := dict.New(200)
			interned(t, a, l[:n]...)
			b := a.Copy()
			has(t, b, 200, l[:n])
			lacks(t, b, l[n:]...)
			changeBoth(t, a, b, "first", cut)
			changeBoth(t, b.Copy(), b, "then", 0)
		}
	}
}

// changeBoth changes a, then b, that are the same: each by a cut, and by others that come, which have the name.
func changeBoth(t *testing.T, a, b *dict.Dict, name string, cut int) {
	t.Helper()
	was := listed(t, a.Terms())
	forA, forB := iri(name+"A"), iri(name+"B")
	interned(t, a, forA)
	has(t, b, 200, was)
	lacks(t, b, forA)
	if e := a.Cut(cut); e != api.OK {
		t.Fatal(e)
	}
	interned(t, a, forB, forA)
	if e := a.SetLimit(150); e != api.OK {
		t.Fatal(e)
	}
	has(t, b, 200, was)
	interned(t, b, forB)
	has(t, b, 200, append(slices.Clip(was), forB))
	has(t, a, 150, append(slices.Clip(was[:cut]), forB, forA))
	if e := b.Cut(0); e != api.OK {
		t.Fatal(e)
	}
	interned(t, b, forA)
	has(t, b, 200, []api.Term{forA})
	has(t, a, 150, append(slices.Clip(was[:cut]), forB, forA))
}

// P3.3: a copy, the one that was copied, and another copy grow each for itself.
func TestCopyGrow(t *testing.T) {
	l := many(90)
	for n := range 40 {
		a := with(t, l[:n]...)
		b := a.Copy()
		c := a.Copy()
		for i := n; i < n+20; i++ {
			interned(t, a, l[i])
			interned(t, b, l[i+10])
			interned(t, c, l[i+20])
		}
		has(t, a, api.MaxTerms, l[:n+20])
		has(t, b, api.MaxTerms, slices.Concat(l[:n], l[n+10:n+30]))
		has(t, c, api.MaxTerms, slices.Concat(l[:n], l[n+20:n+40]))
	}
}

// P3.3: a copy of one that is full is full.
func TestCopyFull(t *testing.T) {
	a := dict.New(2)
	interned(t, a, iri("a"), iri("b"))
	b := a.Copy()
	refuses(t, b, iri("c"), api.ErrFull)
	if e := b.SetLimit(3); e != api.OK {
		t.Fatal(e)
	}
	interned(t, b, iri("c"))
	refuses(t, a, iri("c"), api.ErrFull)
	has(t, a, 2, []api.Term{iri("a"), iri("b")})
	has(t, b, 3, []api.Term{iri("a"), iri("b"), iri("c")})
}

// P3.4: whatever comes and goes, a dictionary is as a list of terms of which each is there once.
func TestAsList(t *testing.T) {
	seed := uint32(1)
	next := func(n int) int {
		seed = seed*1664525 + 1013904223
		return int(seed>>8) % n
	}
	pool := append(terms(), many(60)...)
	d, limit := dict.New(100), 100
	var l []api.Term
	for range 4000 {
		x := pool[next(len(pool))]
		at := slices.Index(l, x)
		switch next(12) {
		case 0:
			n := next(len(l) + 2)
			e := d.Cut(n)
			if (e == api.OK) != (n <= len(l)) {
				t.Fatalf("of %d: Cut(%d) = %d", len(l), n, e)
			}
			l = l[:min(n, len(l))]
		case 1:
			n := next(120)
			e := d.SetLimit(n)
			if (e == api.OK) != (n >= len(l)) {
				t.Fatalf("of %d: SetLimit(%d) = %d", len(l), n, e)
			}
			if e == api.OK {
				limit = n
			}
		case 2:
			d = d.Copy()
		default:
			n, e := d.Intern(x)
			switch {
			case at >= 0 && (int(n) != at+1 || e != api.OK):
				t.Fatalf("Intern(%s) = %d, %d; want %d", show(x), n, e, at+1)
			case at < 0 && len(l) == limit && (n != 0 || e != api.ErrFull):
				t.Fatalf("Intern(%s) = %d, %d; want ErrFull", show(x), n, e)
			case at < 0 && len(l) < limit:
				if l = append(l, x); int(n) != len(l) || e != api.OK {
					t.Fatalf("Intern(%s) = %d, %d; want %d", show(x), n, e, len(l))
				}
			}
		}
		has(t, d, limit, l)
	}
}
