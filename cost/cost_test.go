package cost_test

import (
	"math"
	"math/big"
	"math/rand"
	"slices"
	"testing"

	"rhizome/api"
	"rhizome/cost"
)

var (
	inf       = math.Inf(1)
	nan       = math.NaN()
	minusZero = math.Copysign(0, -1)
	minNormal = math.Float64frombits(1 << 52) // the least number above 0 that is not subnormal
)

// greatest is the greatest number of a variable.
const greatest = math.MaxInt

// look returns a lookup; the Distinct of a position without a variable is 1000, so that it would be seen in a size.
func look(count float64, places ...place) api.Look {
	l := api.Look{Count: count, Vars: [3]int{-1, -1, -1}, Distinct: [3]float64{1000, 1000, 1000}}
	for i, p := range places {
		l.Vars[i], l.Distinct[i] = p.v, p.distinct
	}
	return l
}

// place is what a lookup has at a position.
type place struct {
	v        int
	distinct float64
}

// of returns lookups without variables.
func of(counts ...float64) []api.Look {
	var l []api.Look
	for _, c := range counts {
		l = append(l, look(c))
	}
	return l
}

// same reports whether a and b are the same number, 0 and -0 being two; one NaN is as another one.
func same(a, b float64) bool {
	return math.Float64bits(a) == math.Float64bits(b) || math.IsNaN(a) && math.IsNaN(b)
}

// sameLooks reports whether lookups are the same, in each bit.
func sameLooks(a, b []api.Look) bool {
	return slices.EqualFunc(a, b, func(x, y api.Look) bool {
		return slices.EqualFunc(bits(x), bits(y), func(i, j uint64) bool { return i == j }) && x.Vars == y.Vars
	})
}

// bits returns the bits of a lookup's numbers.
func bits(l api.Look) []uint64 {
	var b []uint64
	for _, x := range append(l.Distinct[:], l.Count) {
		b = append(b, math.Float64bits(x))
	}
	return b
}

// divided returns a divided by b as IEEE 754 has it: by cases, and by fractions that are exact till they are rounded.
func divided(a, b float64) float64 {
	sign := math.Copysign(1, a) * math.Copysign(1, b)
	switch {
	case math.IsNaN(a) || math.IsNaN(b) || a == 0 && b == 0 || math.IsInf(a, 0) && math.IsInf(b, 0):
		return nan
	case math.IsInf(a, 0) || b == 0:
		return math.Copysign(inf, sign)
	case a == 0 || math.IsInf(b, 0):
		return math.Copysign(0, sign)
	}
	q, _ := new(big.Rat).Quo(new(big.Rat).SetFloat64(a), new(big.Rat).SetFloat64(b)).Float64()
	return math.Copysign(q, sign)
}

// multiplied returns a times b as IEEE 754 has it.
func multiplied(a, b float64) float64 {
	sign := math.Copysign(1, a) * math.Copysign(1, b)
	switch {
	case math.IsNaN(a) || math.IsNaN(b) || a == 0 && math.IsInf(b, 0) || math.IsInf(a, 0) && b == 0:
		return nan
	case math.IsInf(a, 0) || math.IsInf(b, 0):
		return math.Copysign(inf, sign)
	}
	p, _ := new(big.Rat).Mul(new(big.Rat).SetFloat64(a), new(big.Rat).SetFloat64(b)).Float64()
	return math.Copysign(p, sign)
}

// zeroed returns x, and 0 for NaN.
func zeroed(x float64) float64 {
	if math.IsNaN(x) {
		return 0
	}
	return x
}

// size returns the size that the chapter defines.
func size(l api.Look, isKnown func(int) bool) float64 {
	x := l.Count
	for i, v := range l.Vars {
		if v < 0 {
			continue
		}
		divides := isKnown(v)
		for j := range i {
			divides = divides || l.Vars[j] == v
		}
		if divides {
			x = divided(x, l.Distinct[i])
		}
	}
	return zeroed(x)
}

// order returns the order that the chapter defines, and the product of the sizes in it.
func order(l []api.Look) ([]int, float64) {
	known := map[int]bool{}
	gone := map[int]bool{}
	var indices []int
	total := 1.0
	for range l {
		next, least := -1, 0.0
		for i, x := range l {
			s := size(x, func(v int) bool { return known[v] })
			if !gone[i] && (next < 0 || s < least) {
				next, least = i, s
			}
		}
		gone[next] = true
		for _, v := range l[next].Vars {
			known[v] = true
		}
		indices = append(indices, next)
		total = zeroed(multiplied(total, least))
	}
	return indices, total
}

// wantSize checks what Size answers.
func wantSize(t *testing.T, want float64, l api.Look, known ...bool) {
	t.Helper()
	if s := cost.Size(l, known); !same(s, want) {
		t.Errorf("Size(%v, %v) = %x; want %x", l, known, s, want)
	}
}

// wantOrder checks what Order answers.
func wantOrder(t *testing.T, want []int, l ...api.Look) {
	t.Helper()
	if o := cost.Order(l...); !slices.Equal(o, want) {
		t.Errorf("Order(%v) = %v; want %v", l, o, want)
	}
}

// wantTotal checks what Total answers.
func wantTotal(t *testing.T, want float64, l ...api.Look) {
	t.Helper()
	if x := cost.Total(l...); !same(x, want) {
		t.Errorf("Total(%v) = %x; want %x", l, x, want)
	}
}

// TestSize: P12.1: only the positions of what is known divide.
func TestSize(t *testing.T) {
	l := look(210, place{0, 2}, place{1, 3}, place{2, 5})
	wantSize(t, 210, l)
	wantSize(t, 210, l, false, false, false)
	wantSize(t, 105, l, true, false, false)
	wantSize(t, 70, l, false, true, false)
	wantSize(t, 42, l, false, false, true)
	wantSize(t, 35, l, true, true, false)
	wantSize(t, 21, l, true, false, true)
	wantSize(t, 14, l, false, true, true)
	wantSize(t, 7, l, true, true, true)
	wantSize(t, 7, l, true, true, true, false, true)
	wantSize(t, 42, look(210, place{7, 2}, place{4, 5}, place{6, 3}), false, false, false, false, true)
	wantSize(t, 105, look(210, place{-1, 3}, place{0, 2}), true)
	wantSize(t, 210, look(210), true, true)
}

// TestSizeAgain: P12.1: a variable that occurred at an earlier position divides, known or not; one that is known divides at each of its positions once.
func TestSizeAgain(t *testing.T) {
	for _, x := range []struct {
		vars          [3]int
		unlike, alike float64 // 0 is not known, and is
	}{
		{[3]int{0, 0, 1}, 70, 35},
		{[3]int{0, 1, 0}, 42, 21},
		{[3]int{1, 0, 0}, 42, 14},
		{[3]int{0, 0, -1}, 70, 35},
		{[3]int{0, -1, 0}, 42, 21},
		{[3]int{-1, 0, 0}, 42, 14},
		{[3]int{0, 0, 0}, 14, 7},
		{[3]int{0, 1, 2}, 210, 105},
	} {
		l := api.Look{Count: 210, Vars: x.vars, Distinct: [3]float64{2, 3, 5}}
		wantSize(t, x.unlike, l)
		wantSize(t, x.unlike, l, false, false, false)
		wantSize(t, x.alike, l, true)
		wantSize(t, x.alike, l, true, false, false)
	}
	wantSize(t, 21, api.Look{Count: 210, Vars: [3]int{0, 1, 0}, Distinct: [3]float64{2, 3, 5}}, true, false)
	wantSize(t, 14, api.Look{Count: 210, Vars: [3]int{0, 1, 0}, Distinct: [3]float64{2, 3, 5}}, false, true)
	wantSize(t, 7, api.Look{Count: 210, Vars: [3]int{0, 1, 0}, Distinct: [3]float64{2, 3, 5}}, true, true)
}

// TestSizeNumbers: P12.1: a variable beyond the list is not known, but may occur again; a number below 0 is none.
func TestSizeNumbers(t *testing.T) {
	for _, v := range []int{3, 4, 1 << 31, 1 << 32, greatest - 1, greatest} {
		wantSize(t, 12, look(12, place{v, 3}), true, true, true)
		wantSize(t, 12, look(12, place{v, 3}))
		wantSize(t, 6, look(12, place{v, 3}, place{v, 2}), true, true, true)
		wantSize(t, 6, look(12, place{v, 3}, place{-1, 4}, place{v, 2}))
	}
	for _, v := range []int{-1, -2, -3, -1 << 31, -1 << 32, -greatest, -greatest - 1} {
		wantSize(t, 12, look(12, place{v, 2}, place{v, 3}, place{v, 2}), true, true, true)
		wantSize(t, 12, look(12, place{v, 2}, place{v, 3}, place{v, 2}))
		wantSize(t, 4, look(12, place{v, 2}, place{2, 3}, place{v, 2}), true, true, true)
	}
	wantSize(t, 4, look(12, place{2, 3}), false, false, true)
	wantSize(t, 12, look(12, place{2, 3}), true, true)
	var none []bool
	wantSize(t, 12, look(12, place{0, 3}), none...)
	wantSize(t, inf, api.Look{Count: 12}, none...) // one variable, 0, at three positions
	wantSize(t, inf, api.Look{Count: 12, Vars: [3]int{-1, -1, 0}}, true)
}

// specials are numbers with rules of their own, and two without.
func specials() []float64 {
	return []float64{0, minusZero, nan, inf, -inf, 6, -6}
}

// quotients has what each of specials is divided by each, where NaN is 0 already.
func quotients() [][]float64 {
	return [][]float64{
		// by 0, -0, NaN, Inf, -Inf, 6, -6
		{0, 0, 0, 0, minusZero, 0, minusZero}, // 0
		{0, 0, 0, minusZero, 0, minusZero, 0}, // -0
		{0, 0, 0, 0, 0, 0, 0},                 // NaN
		{inf, -inf, 0, 0, 0, inf, -inf},       // Inf
		{-inf, inf, 0, 0, 0, -inf, inf},       // -Inf
		{inf, -inf, 0, 0, minusZero, 1, -1},   // 6
		{-inf, inf, 0, minusZero, 0, -1, 1},   // -6
	}
}

// TestSizeSpecial: P12.1: zeros, infinities and NaN as a Count and as a Distinct, at each position; and those that do not divide.
func TestSizeSpecial(t *testing.T) {
	want := quotients()
	for i, count := range specials() {
		for j, distinct := range specials() {
			for at := range 3 {
				l := api.Look{Count: count, Vars: [3]int{-1, -1, -1}}
				l.Vars[at], l.Distinct[at] = 0, distinct
				wantSize(t, want[i][j], l, true)
				wantSize(t, zeroed(count), l, false)
				l.Distinct = [3]float64{1, 1, 1}
				l.Vars, l.Distinct[at] = [3]int{0, 0, 0}, distinct
				wantSize(t, want[i][j], l, true)
			}
		}
	}
}

// TestSizeNaN: P12.1: a NaN of an early position is 0 at the end, whatever is divided by behind it; what would have become one, had a step been left out, is none.
func TestSizeNaN(t *testing.T) {
	for _, behind := range append(specials(), minNormal, -minNormal) {
		wantSize(t, 0, look(0, place{0, 0}, place{1, behind}, place{2, 2}), true, true, true)
		wantSize(t, 0, look(0, place{0, 0}, place{1, 2}, place{2, behind}), true, true, true)
		wantSize(t, 0, look(0, place{1, 0}, place{1, 0}, place{1, behind}))
		wantSize(t, 0, look(-inf, place{0, -inf}, place{1, behind}), true, true)
		wantSize(t, 0, look(nan, place{0, behind}, place{1, behind}), true, true)
		wantSize(t, 0, look(5, place{0, nan}, place{1, behind}, place{2, behind}), true, true, true)
		wantSize(t, 0, look(behind, place{0, nan}), true)
	}
	wantSize(t, 0, look(5, place{0, inf}, place{1, 0}), true, true)
	wantSize(t, inf, look(5, place{0, 0}, place{1, 0}, place{2, 0}), true, true, true)
	wantSize(t, -inf, look(5, place{0, 0}, place{1, minusZero}, place{2, 3}), true, true, true)
	wantSize(t, 0, look(5, place{0, 0}, place{1, inf}, place{2, 3}), true, true, true)
	wantSize(t, 5, look(5, place{0, nan}, place{1, 0}, place{2, inf}))
	wantSize(t, 0, look(math.Float64frombits(0x7ff0000000000001)))
	wantSize(t, 0, look(math.Float64frombits(0xfff8000000000001)))
}

// TestSizeSteps: P12.1: each step is rounded, in the order of the positions: another order, or one division by a product, has another last bit.
func TestSizeSteps(t *testing.T) {
	wantSize(t, 0x1.cfdcfdcfdcfdep-02, look(53, place{0, 9}, place{1, 13}), true, true)
	wantSize(t, 0x1.cfdcfdcfdcfdcp-02, look(53, place{0, 13}, place{1, 9}), true, true)
	wantSize(t, 0x1.cfdcfdcfdcfdcp-02, look(53, place{0, 13}, place{-1, 1}, place{1, 9}), true, true)
	wantSize(t, 0x1.cfdcfdcfdcfdep-02, look(53, place{-1, 1}, place{1, 9}, place{0, 13}), true, true)
	wantSize(t, 0x1.cfdcfdcfdcfdep-02, look(53, place{9, 1}, place{9, 9}, place{9, 13}))
	wantSize(t, 0x1.8d3018d3018d2p-08, look(1, place{0, 3}, place{1, 11}, place{2, 5}), true, true, true)
	wantSize(t, 0x1.8d3018d3018d4p-08, look(1, place{0, 5}, place{1, 11}, place{2, 3}), true, true, true)
	wantSize(t, 0x1.8d3018d3018d3p-08, look(1, place{0, 3}, place{1, 5}, place{2, 11}), true, true, true)
	wantSize(t, inf, look(math.MaxFloat64, place{0, 0.5}, place{1, 4}), true, true)
	wantSize(t, math.MaxFloat64/2, look(math.MaxFloat64, place{0, 4}, place{1, 0.5}), true, true)
	wantSize(t, 0, look(math.SmallestNonzeroFloat64, place{0, 2}, place{1, 0.25}), true, true)
	wantSize(t, 2*math.SmallestNonzeroFloat64, look(math.SmallestNonzeroFloat64, place{0, 0.25}, place{1, 2}), true, true)
	wantSize(t, minusZero, look(math.SmallestNonzeroFloat64, place{0, -4}), true)
	wantSize(t, minNormal/2, look(minNormal, place{0, 2}), true)
}

// anyNumber returns a number: a special one, a small one, or any bits.
func anyNumber(random *rand.Rand) float64 {
	switch random.Intn(4) {
	case 0:
		return specials()[random.Intn(len(specials()))]
	case 1:
		return math.Float64frombits(random.Uint64())
	}
	return float64(random.Intn(9) - 2)
}

// anyLook returns a lookup of variables below vars, or of one that is great, or of none.
func anyLook(random *rand.Rand, vars int) api.Look {
	l := api.Look{Count: anyNumber(random)}
	for i := range l.Vars {
		l.Vars[i], l.Distinct[i] = random.Intn(vars+2)-2, anyNumber(random)
		if random.Intn(9) == 0 {
			l.Vars[i] = greatest - random.Intn(2)
		}
	}
	return l
}

// TestSizeRandom: P12.1: sizes as the chapter defines them, never NaN.
func TestSizeRandom(t *testing.T) {
	random := rand.New(rand.NewSource(1))
	for range 100000 {
		l := anyLook(random, 4)
		known := make([]bool, random.Intn(5))
		for i := range known {
			known[i] = random.Intn(2) == 0
		}
		was := slices.Clone(known)
		want := size(l, func(v int) bool { return v < len(known) && known[v] })
		s := cost.Size(l, known)
		if !same(s, want) || math.IsNaN(s) || !slices.Equal(known, was) {
			t.Fatalf("Size(%v, %v) = %x; want %x; what is known is %v", l, was, s, want, known)
		}
	}
}

// ranked returns numbers from the least to the greatest, those that are equal in one list.
func ranked() [][]float64 {
	least := math.SmallestNonzeroFloat64
	return [][]float64{
		{-inf}, {-math.MaxFloat64}, {-1e300}, {-6}, {-1 - 0x1p-52}, {-1}, {-0.5}, {-minNormal}, {-minNormal + least}, {-2 * least}, {-least},
		{nan, 0, minusZero, -nan, math.Float64frombits(0x7ff0000000000001), math.Float64frombits(0xfff8000000000001)},
		{least}, {2 * least}, {minNormal - least}, {minNormal}, {0.5}, {1}, {1 + 0x1p-52}, {6}, {1e300}, {math.MaxFloat64}, {inf},
	}
}

// TestLess: P12.1: all pairs.
func TestLess(t *testing.T) {
	l := ranked()
	for i := range l {
		for j := range l {
			for _, a := range l[i] {
				for _, b := range l[j] {
					if less := cost.Less(a, b); less != (i < j) {
						t.Errorf("Less(%x, %x) = %v", a, b, less)
					}
				}
			}
		}
	}
}

// TestLessOrder: P12.3: no number is less than itself, of two just one unless they are equal, and over three it holds; so does being equal.
func TestLessOrder(t *testing.T) {
	random := rand.New(rand.NewSource(2))
	equal := func(a, b float64) bool { return !cost.Less(a, b) && !cost.Less(b, a) }
	for range 100000 {
		a, b, c := anyNumber(random), anyNumber(random), anyNumber(random)
		if !equal(a, a) || cost.Less(a, b) && cost.Less(b, a) {
			t.Fatalf("%x, %x: each less than the other one", a, b)
		}
		if equal(a, b) != (zeroed(a) == zeroed(b)) {
			t.Fatalf("%x, %x: equal is %v", a, b, equal(a, b))
		}
		if cost.Less(a, b) && cost.Less(b, c) && !cost.Less(a, c) || equal(a, b) && equal(b, c) && !equal(a, c) {
			t.Fatalf("%x, %x, %x: not over three", a, b, c)
		}
	}
}

// TestOrder: P12.2: none, one, several without variables.
func TestOrder(t *testing.T) {
	wantOrder(t, nil)
	wantOrder(t, []int{0}, look(5))
	wantOrder(t, []int{0}, look(nan))
	wantOrder(t, []int{0}, api.Look{})
	wantOrder(t, []int{0}, look(5, place{3, 0}, place{3, 0}, place{3, 0}))
	wantOrder(t, []int{0, 1}, of(4, 5)...)
	wantOrder(t, []int{1, 0}, of(5, 4)...)
	wantOrder(t, []int{2, 0, 4, 1, 3}, of(3, 7, 1, 9, 5)...)
	wantOrder(t, []int{1, 3, 0, 2, 5, 4}, of(-1, -7, 0.25, -1.5, 1e300, 0.5)...)
	wantOrder(t, []int{4, 0, 3, 5, 1, 2}, of(0, 7, inf, nan, -inf, minusZero)...)
}

// TestOrderEqual: P12.2: of equal ones the first, 0, -0 and NaN among them, wherever they stand.
func TestOrderEqual(t *testing.T) {
	wantOrder(t, []int{0, 1, 2, 3, 4}, of(5, 5, 5, 5, 5)...)
	wantOrder(t, []int{1, 3, 4, 0, 2}, of(5, 4, 5, 4, 4)...)
	wantOrder(t, []int{0, 1, 2, 3}, of(inf, inf, inf, inf)...)
	wantOrder(t, []int{0, 1, 2, 3}, of(-inf, -inf, -inf, -inf)...)
	zeros := []float64{0, minusZero, nan}
	for i := range 3 * 3 * 3 * 3 {
		a, b, c, d := zeros[i%3], zeros[i/3%3], zeros[i/9%3], zeros[i/27]
		wantOrder(t, []int{0, 1, 2, 3}, of(a, b, c, d)...)
		wantOrder(t, []int{2, 1, 4, 5, 6, 0, 3}, of(7, a, -7, inf, b, c, d)...)
	}
	for n := range 40 {
		var want []int
		for i := range n {
			want = append(want, i)
		}
		wantOrder(t, want, slices.Repeat(of(3), n)...)
	}
}

// TestOrderAll: P12.2, P12.3: all ways to set unlike numbers in a list: they come by their sizes, each once, -Inf first and Inf last.
func TestOrderAll(t *testing.T) {
	sizes := []float64{-inf, -2, 0, 1, inf}
	for i := range 5 * 5 * 5 * 5 * 5 {
		at := []int{i % 5, i / 5 % 5, i / 25 % 5, i / 125 % 5, i / 625}
		if len(slices.Compact(slices.Sorted(slices.Values(at)))) < len(at) {
			continue
		}
		counts := make([]float64, len(at))
		for k, index := range at {
			counts[index] = sizes[k]
		}
		wantOrder(t, at, of(counts...)...)
	}
}

// TestOrderKnown: P12.2: the variables of what was taken are known for the next; so the order is another one than that of the sizes at the beginning.
func TestOrderKnown(t *testing.T) {
	a, b := look(10, place{0, 1}), look(20, place{1, 1})
	c := look(1000, place{0, 100}, place{1, 4})
	wantOrder(t, []int{0, 2, 1}, a, look(25), look(1000, place{0, 100}))
	wantOrder(t, []int{2, 0, 1}, look(1000, place{0, 100}), look(10.5), look(10, place{0, 1}))
	wantOrder(t, []int{0, 2, 1}, a, b, c)
	wantOrder(t, []int{1, 0, 2}, c, a, b)
	wantOrder(t, []int{2, 0, 1}, c, b, a)
	// By the second of its variables, and by the third; of one position alone it would come last.
	wantOrder(t, []int{0, 1, 2}, look(1, place{0, 1}, place{1, 1}), look(1000, place{0, 10}, place{1, 50}), look(3))
	wantOrder(t, []int{0, 1, 2}, look(1, place{5, 1}, place{0, 1}, place{1, 1}), look(1000, place{1, 10}, place{9, 1}, place{5, 50}), look(3))
	wantOrder(t, []int{0, 2, 1}, look(1, place{0, 1}, place{1, 1}), look(1000, place{0, 10}, place{2, 50}), look(3))
	// What was known stays so: the third one makes its variable known, and the second one waits for both.
	wantOrder(t, []int{0, 2, 1, 3}, look(1, place{0, 1}), look(1000, place{0, 10}, place{1, 50}), look(3, place{1, 1}), look(4))
	// A variable that is known may make a size greater.
	wantOrder(t, []int{0, 2, 1}, look(1, place{0, 1}), look(2, place{0, 0.1}), look(3))
	wantOrder(t, []int{0, 2, 1}, look(1, place{0, 1}), look(2, place{0, 0}), look(3))
	// Those of equal sizes come as they stand, also if one has become so.
	wantOrder(t, []int{1, 0, 2, 3}, look(30, place{0, 10}), look(1, place{0, 1}), look(3), look(30, place{0, 10}))
	wantOrder(t, []int{2, 0, 1}, look(30), look(300, place{0, 10}), look(1, place{0, 1}))
}

// TestOrderChain: P12.2: one makes the next one known, in whatever order they stand.
func TestOrderChain(t *testing.T) {
	chain := []api.Look{
		look(100, place{0, 100}, place{1, 100}),
		look(1000, place{1, 100}, place{2, 100}),
		look(2000, place{2, 100}, place{3, 100}),
		look(3000, place{3, 100}, place{4, 100}),
	}
	wantOrder(t, []int{0, 1, 2, 3}, chain...)
	slices.Reverse(chain)
	wantOrder(t, []int{3, 2, 1, 0}, chain...)
	wantOrder(t, []int{1, 0, 2, 3}, chain[2], chain[3], chain[1], chain[0])
	wantOrder(t, []int{2, 0, 3, 1}, chain[2], chain[0], chain[3], chain[1])
}

// TestOrderVariables: P12.2: the same variable in several lookups, and in several of their positions; great numbers; numbers below 0 are none.
func TestOrderVariables(t *testing.T) {
	for _, v := range []int{0, 1, 63, 64, 1 << 31, 1 << 40, greatest - 1, greatest} {
		wantOrder(t, []int{3, 1, 4, 2, 0}, look(500, place{v, 50}), look(7, place{-1, 1}, place{v, 7}), look(80, place{-1, 1}, place{-1, 1}, place{v, 10}), look(6, place{v, 6}), look(7.5))
		wantOrder(t, []int{1, 0, 2}, look(400, place{v, 10}, place{v, 10}), look(3, place{v, 1}), look(5))
		wantOrder(t, []int{1, 0}, look(400, place{v, 10}), look(30, place{v, 1}, place{v, 1}))
		wantTotal(t, 6*1*7.5*8*10, look(500, place{v, 50}), look(7, place{-1, 1}, place{v, 7}), look(80, place{-1, 1}, place{-1, 1}, place{v, 10}), look(6, place{v, 6}), look(7.5))
	}
	for _, v := range []int{-1, -2, -1 << 31, -greatest, -greatest - 1} {
		wantOrder(t, []int{1, 2, 0}, look(400, place{v, 100}, place{v, 100}), look(3, place{v, 1}), look(5, place{v, 0}))
		wantTotal(t, 3*5*400, look(400, place{v, 100}, place{v, 100}), look(3, place{v, 1}), look(5, place{v, 0}))
	}
	wantOrder(t, []int{2, 1, 0}, look(400, place{greatest - 1, 100}), look(5), look(3, place{greatest, 1}))
	wantOrder(t, []int{2, 0, 1}, look(400, place{greatest, 100}), look(5), look(3, place{greatest, 1}))
	wantOrder(t, []int{2, 1, 0}, look(400, place{1 << 32, 100}), look(5), look(3, place{0, 1}))
}

// TestTotal: P12.2: none, one, several.
func TestTotal(t *testing.T) {
	wantTotal(t, 1)
	wantTotal(t, 5, look(5))
	wantTotal(t, 5, look(5, place{0, 2}))
	wantTotal(t, 2.5, look(5, place{0, 2}, place{0, 2}))
	wantTotal(t, 120, of(2, 3, 4, 5)...)
	wantTotal(t, 0, of(2, 0, 4)...)
	wantTotal(t, -24, of(2, -3, 4)...)
	wantTotal(t, 24, of(2, -3, -4)...)
	wantTotal(t, -60, of(-5, -3, -4)...)
	wantTotal(t, inf, of(2, inf)...)
	wantTotal(t, -inf, of(2, -inf)...)
	wantTotal(t, -inf, of(inf, -inf)...)
	wantTotal(t, minusZero, look(minusZero))
	wantTotal(t, minusZero, of(0, -3)...)
	wantTotal(t, 0, of(minusZero, -3)...)
	// Of each the size that it has when its turn comes.
	wantTotal(t, 10*20*2.5, look(10, place{0, 1}), look(20, place{1, 1}), look(1000, place{0, 20}, place{1, 20}))
	wantTotal(t, 10*10*5, look(10, place{0, 1}), look(20, place{1, 4}), look(1000, place{0, 100}, place{1, 1}))
	wantTotal(t, 3*5, look(20, place{1, 4}), look(3, place{1, 1}))
}

// TestTotalNaN: P12.2: where Inf and 0 meet, 0 counts from then on, also before another Inf.
func TestTotalNaN(t *testing.T) {
	wantTotal(t, 0, of(nan)...)
	wantTotal(t, 0, of(nan, 5)...)
	wantTotal(t, 0, of(0, inf)...)
	wantTotal(t, 0, of(inf, 0)...)
	wantTotal(t, 0, of(nan, inf)...)
	wantTotal(t, 0, of(minusZero, inf)...)
	wantTotal(t, 0, of(-inf, 0)...)
	wantTotal(t, 0, of(-inf, nan, 3)...)
	wantTotal(t, 0, of(-inf, minusZero, 3)...)
	wantTotal(t, 0, of(0, inf, inf)...)
	wantTotal(t, 0, of(inf, 0, inf, inf)...)
	wantTotal(t, 0, of(-inf, 0, inf)...)
	wantTotal(t, 0, of(-inf, -inf, 0, 7, inf, inf)...)
	wantTotal(t, 0, of(-5, -inf, 0, 7, inf, inf)...)
	// What is known makes a size 0 behind Inf: by Inf divided by Inf, and by Inf as a Distinct.
	made := []api.Look{look(inf, place{0, 1}), look(inf, place{0, inf})}
	wantOrder(t, []int{0, 1}, made...)
	wantTotal(t, 0, made...)
	wantTotal(t, 0, append(made, look(inf), look(inf))...)
	wantTotal(t, 0, append(made, look(7), look(inf))...)
	below := []api.Look{look(inf, place{0, 1}), look(inf, place{0, inf}), look(inf, place{0, -2})}
	wantOrder(t, []int{0, 2, 1}, below...)
	wantTotal(t, 0, below...)
	// A size below 0 behind the NaN that has arisen leaves 0 a zero.
	behind := []api.Look{look(-inf), look(0, place{0, 1}), look(12, place{0, -3})}
	wantOrder(t, []int{0, 1, 2}, behind...)
	if x := cost.Total(behind...); x != 0 {
		t.Errorf("Total(%v) = %x; want a zero", behind, x)
	}
	wantTotal(t, 0, append(behind, look(inf))...)
}

// TestTotalOrder: P12.2: the product is taken step by step, in the order of Order: it can be seen in the last bit, and where it is too great or too small on its way.
func TestTotalOrder(t *testing.T) {
	p, q, r := 0.1, 0.3, 0.1
	first, last := p*r*q, p*q*r // variables: a product of constants would be exact
	if same(first, last) || !same(first, 0x1.89374bc6a7efbp-09) {
		t.Fatalf("%x and %x show no order", first, last)
	}
	wantTotal(t, first, of(p, q, r)...)
	wantTotal(t, first, of(q, r, p)...)
	wantTotal(t, first, of(p, r, q)...)
	wantTotal(t, 0, of(1e200, 1e-200, 1e200, 1e-200)...)
	wantTotal(t, inf, look(1e200, place{0, 1}), look(2e200), look(3e200, place{0, 2e-200}))
	wantTotal(t, 0, look(-1e-200, place{0, 1}), look(1e-200, place{0, -0.5}), look(1e300))
	wantTotal(t, inf, look(1e200), look(1e200), look(1e300, place{-1, 1}, place{-1, 1}, place{1, 1}))
	// A size that falls when its turn comes: by the sizes at the beginning the product would be Inf on its way.
	wantTotal(t, 0x1p1000, look(0x1p500, place{0, 1}), look(0x1p700, place{0, 0x1p200}))
	wantTotal(t, 0x1p-40, look(0x1p-1000, place{0, 1}), look(0x1p0, place{0, 0x1p-1000}), look(0x1p-40))
}

// TestRandom: P12.2, P12.3: orders and products as the chapter defines them; the arguments stay as they are.
func TestRandom(t *testing.T) {
	random := rand.New(rand.NewSource(3))
	for range 20000 {
		l := make([]api.Look, random.Intn(10))
		vars := 1 + random.Intn(6)
		for i := range l {
			l[i] = anyLook(random, vars)
		}
		was := slices.Clone(l)
		indices, total := order(l)
		wantOrder(t, indices, l...)
		wantTotal(t, total, l...)
		if !sameLooks(l, was) {
			t.Fatalf("%v has become %v", was, l)
		}
		if t.Failed() {
			return
		}
	}
}

// TestRandomLong: P12.2, P12.3: longer lists, of sizes that are often equal.
func TestRandomLong(t *testing.T) {
	random := rand.New(rand.NewSource(4))
	for n := range 130 {
		l := make([]api.Look, n)
		for i := range l {
			l[i] = api.Look{Count: float64(1 + random.Intn(20))}
			for at := range l[i].Vars {
				l[i].Vars[at], l[i].Distinct[at] = random.Intn(n+5)-2, float64(1+random.Intn(5))
			}
		}
		indices, total := order(l)
		wantOrder(t, indices, l...)
		wantTotal(t, total, l...)
		if each := slices.Sorted(slices.Values(cost.Order(l...))); len(each) != n || len(slices.Compact(each)) != n {
			t.Fatalf("%d lookups: %v", n, each)
		}
	}
}

// TestMany: P12.2, P0.7: a list of very many lookups comes to its end.
func TestMany(t *testing.T) {
	const n = 200000
	chain := make([]api.Look, n) // backwards, each makes the one before it known
	for i := range chain {
		chain[i] = look(float64(10+i), place{n - 1 - i, float64(10 + i)}, place{n - i, 1})
	}
	chain[n-1].Count = 9
	shared := make([]api.Look, n) // the last one makes all others known, by one variable
	for i := range shared {
		shared[i] = look(float64(10+i), place{7, float64(10+i) / 2}, place{7, 1}, place{7, 1})
	}
	shared[n-1].Count = 0
	for name, l := range map[string][]api.Look{"chain": chain, "shared": shared} {
		o := cost.Order(l...)
		if len(o) != n || o[0] != n-1 {
			t.Fatalf("%s: %d indices", name, len(o))
		}
		for i := 1; i < n; i++ {
			want := i - 1
			if name == "chain" {
				want = n - 1 - i
			}
			if o[i] != want {
				t.Fatalf("%s: at %d is %d; want %d", name, i, o[i], want)
			}
		}
	}
	if x := cost.Total(chain...); x != 9 {
		t.Errorf("the product is %v; want 9", x)
	}
}

// TestArguments: what is given stays as it is, in each bit.
func TestArguments(t *testing.T) {
	l := []api.Look{
		look(nan, place{greatest, minusZero}, place{5, 2}, place{-7, nan}),
		look(minusZero, place{5, 0}, place{greatest, 3}, place{5, -inf}),
		look(2, place{9, nan}, place{9, inf}, place{3, 1}),
	}
	was := slices.Clone(l)
	known := []bool{true, false, false, true}
	for _, x := range l {
		cost.Size(x, known)
	}
	cost.Order(l...)
	cost.Total(l...)
	if !sameLooks(l, was) || !slices.Equal(known, []bool{true, false, false, true}) {
		t.Errorf("%v has become %v; what is known is %v", was, l, known)
	}
}

// TestOrderOwn: the result is new memory each time.
func TestOrderOwn(t *testing.T) {
	l := of(3, 1, 2)
	o := cost.Order(l...)
	for i := range o {
		o[i] = 9
	}
	_ = append(o[:0], 8, 8, 8)
	wantOrder(t, []int{1, 2, 0}, l...)
}

// TestExamples: the chapter's examples.
func TestExamples(t *testing.T) {
	wantSize(t, 2.5, api.Look{Count: 10, Vars: [3]int{0, -1, -1}, Distinct: [3]float64{4, 1, 1}}, true)
	wantSize(t, 0, api.Look{Count: 0, Vars: [3]int{0, -1, -1}}, true)
	wantSize(t, inf, api.Look{Count: 3, Vars: [3]int{0, -1, -1}}, true)
}
