package tests

import (
	"fmt"
	"math"
	"math/cmplx"
	"slices"
	"strings"
	"sync"
	"testing"

	"loop.example/g03401/impl"
)

func cyclotomicTable() [][]int {
	return [][]int{
		nil, {-1, 1}, {1, 1}, {1, 1, 1}, {1, 0, 1}, {1, 1, 1, 1, 1}, {1, -1, 1}, {1, 1, 1, 1, 1, 1, 1}, {1, 0, 0, 0, 1}, {1, 0, 0, 1, 0, 0, 1}, {1, -1, 1, -1, 1},
		{1, 1, 1, 1, 1, 1, 1, 1, 1, 1, 1}, {1, 0, -1, 0, 1}, {1, 1, 1, 1, 1, 1, 1, 1, 1, 1, 1, 1, 1}, {1, -1, 1, -1, 1, -1, 1}, {1, -1, 0, 1, -1, 1, 0, -1, 1}, {1, 0, 0, 0, 0, 0, 0, 0, 1},
	}
}

// rootsOf returns the roots of unity whose order is d.
func rootsOf(d int) []complex128 {
	var roots []complex128
	for k := 1; k <= d; k++ {
		if gcdByHand(k, d) == 1 {
			roots = append(roots, cmplx.Rect(1, 2*math.Pi*float64(k)/float64(d)))
		}
	}
	return roots
}

func gcdByHand(a int, b int) int {
	for b > 0 {
		a, b = b, a%b
	}
	return a
}

// atRootByHand computes the value at all roots of the order; false if they are not one integer.
func atRootByHand(p []int, d int) (int, bool) {
	var values []complex128
	for _, root := range rootsOf(d) {
		value := complex(0, 0)
		for _, c := range slices.Backward(p) {
			value = value*root + complex(float64(c), 0)
		}
		values = append(values, value)
	}
	whole := math.Round(real(values[0]))
	for _, value := range values {
		if cmplx.Abs(value-complex(whole, 0)) > 1e-4 {
			return 0, false
		}
	}
	return int(whole), true
}

// kindOfTurn is a family as the tests make it themselves.
type kindOfTurn struct {
	name   string
	order  func(n int) int
	object func(w string) []int
	turn   func(object []int, n int) []int
}

// kindsOfTurns gives a triangulation as the list of all ends of its diagonals, one after the other.
func kindsOfTurns() []kindOfTurn {
	return []kindOfTurn{
		{"matchings", func(n int) int { return 2 * n }, matchingByHand, func(m []int, _ int) []int {
			turned := make([]int, len(m))
			for point, partner := range m {
				turned[(point+len(m)-1)%len(m)] = (partner + len(m) - 1) % len(m)
			}
			return turned
		}},
		{"partitions", func(n int) int { return n }, partitionByHand, func(p []int, _ int) []int {
			return renumberedByHand(append([]int{p[len(p)-1]}, p[:len(p)-1]...))
		}},
		{"triangulations", func(n int) int { return n + 2 }, func(w string) []int {
			s := treeByHand(w)
			n := len(w)/2 + 2
			return slices.Concat(longSides(n, trianglesByHand(s, 0, n-1))...)
		}, func(ends []int, n int) []int {
			var d [][]int
			for i := 0; i < len(ends); i += 2 {
				d = append(d, ends[i:i+2])
			}
			return slices.Concat(turnedByHand(n+2, d, 1)...)
		}},
	}
}

func renumberedByHand(l []int) []int {
	var firsts, out []int
	for _, b := range l {
		if !slices.Contains(firsts, b) {
			firsts = append(firsts, b)
		}
		out = append(out, slices.Index(firsts, b))
	}
	return out
}

// treeByHand is the tree with this pathByHand.
func treeByHand(w string) string {
	for _, s := range treesBySize(len(w) / 2)[len(w)/2] {
		if pathByHand(s) == w {
			return s
		}
	}
	panic("no path: " + w)
}

// turnsByHand returns the object after 0, 1 and so on turns, less than the order.
func (f kindOfTurn) turnsByHand(w string) [][]int {
	n := len(w) / 2
	turns := [][]int{f.object(w)}
	for len(turns) < f.order(n) {
		turns = append(turns, f.turn(turns[len(turns)-1], n))
	}
	return turns
}

// noFamilies returns words that are not the name of a family.
func noFamilies() []string {
	return []string{"", "x", "trees", "paths", "matching", "Matchings", "MATCHINGS", "matchings ", " matchings", "partition", "triangulation", "matchings\x00", "\xff", strings.Repeat("matchings", 10000)}
}

func TestCyclotomicPolynomial(t *testing.T) {
	for d := 1; d <= 16; d++ {
		p, ok := impl.CyclotomicPolynomial(d)
		if !ok || !slices.Equal(p, cyclotomicTable()[d]) || len(p) != len(rootsOf(d))+1 {
			t.Errorf("CyclotomicPolynomial(%d) = %v, %v", d, p, ok)
		}
		if value, ok := impl.ValueAtRoot(p, d); value != 0 || !ok {
			t.Errorf("CyclotomicPolynomial(%d) is %d, %v at its root", d, value, ok)
		}
		scribble(p)
		product := []int{1}
		for e := 1; e <= d; e++ {
			if d%e == 0 {
				factor, _ := impl.CyclotomicPolynomial(e)
				product, _ = impl.MultiplyPolynomials(product, factor)
			}
		}
		want := make([]int, d+1)
		want[0], want[d] = -1, 1
		if !slices.Equal(product, want) {
			t.Errorf("the product for the divisors of %d is %v", d, product)
		}
	}
	for _, d := range append(farNumbers(), -16, -2, -1, 0, 17, 18, 30, 32) {
		if p, ok := impl.CyclotomicPolynomial(d); len(p) != 0 || ok {
			t.Errorf("CyclotomicPolynomial(%d) = %v, %v", d, p, ok)
		}
	}
}

func TestValueAtRoot(t *testing.T) {
	lists := listsOf(-2, 2, 5)
	for seed := range 40 {
		lists = append(lists, mixed(seed, 1+3*seed%61, 9), mixed(seed, 61, 100000))
	}
	for n := range 8 {
		p, _ := impl.CatalanPolynomial(n)
		lists = append(lists, p)
	}
	for d := 1; d <= 16; d++ {
		// Each power of a root makes one list of which the root is a root; 7 more is the value.
		multiple, _ := impl.MultiplyPolynomials(cyclotomicTable()[d], mixed(d, 20, 50))
		multiple[0] += 7
		lists = append(lists, multiple)
	}
	integers, others := 0, 0
	for i, p := range lists {
		if !isPolynomialByHand(p, 100000) {
			continue
		}
		for d := 1; d <= 16; d++ {
			if len(p) == 5 && (i+d)%4 != 0 {
				continue
			}
			want, valid := atRootByHand(p, d)
			if got, ok := impl.ValueAtRoot(p, d); got != want || ok != valid {
				t.Fatalf("ValueAtRoot(%v, %d) = %d, %v, want %d, %v", p, d, got, ok, want, valid)
			}
			if valid && d > 2 {
				integers++
			} else if !valid {
				others++
			}
		}
	}
	if integers < 100 || others < 100 {
		t.Errorf("%d integers and %d others", integers, others)
	}
}

func TestValueAtRootRefuses(t *testing.T) {
	lists := append(noPolynomials(), []int{100001}, []int{-100001, 1}, []int{1, 100001, 1}, []int{1000000000})
	for _, p := range lists {
		for d := 1; d <= 16; d++ {
			if value, ok := impl.ValueAtRoot(p, d); value != 0 || ok {
				t.Errorf("ValueAtRoot(%v, %d) = %d, %v", p[:min(len(p), 5)], d, value, ok)
			}
		}
	}
	for _, d := range append(farNumbers(), -3, -2, -1, 0, 17, 18, 19) {
		for _, p := range [][]int{nil, {5}, {0, 1}, {1, 1, 1}} {
			if value, ok := impl.ValueAtRoot(p, d); value != 0 || ok {
				t.Errorf("ValueAtRoot(%v, %d) = %d, %v", p, d, value, ok)
			}
		}
	}
	for d := 1; d <= 16; d++ {
		if value, ok := impl.ValueAtRoot(nil, d); value != 0 || !ok {
			t.Errorf("0 at a root of order %d is %d, %v", d, value, ok)
		}
		given, check := guarded(t, mixed(d, 30, 5))
		impl.ValueAtRoot(given, d)
		check()
	}
}

func TestFamilyNames(t *testing.T) {
	names := impl.FamilyNames()
	if !slices.Equal(names, []string{"matchings", "partitions", "triangulations"}) {
		t.Errorf("FamilyNames() = %q", names)
	}
	clear(names)
	if again := impl.FamilyNames(); len(again) != 3 || again[0] != "matchings" {
		t.Errorf("the result of one call is in the next one: %q", again)
	}
}

func TestObjectsFixedByTurns(t *testing.T) {
	paths := pathsBySize(5)
	for _, f := range kindsOfTurns() {
		for n := 1; n <= 5; n++ {
			order := f.order(n)
			if got := impl.OrderOfTurn(f.name, n); got != order {
				t.Fatalf("OrderOfTurn(%q, %d) = %d", f.name, n, got)
			}
			fixed := make([]int, order)
			for _, w := range paths[n] {
				turns := f.turnsByHand(w)
				for k := range order {
					if slices.Equal(turns[k], turns[0]) {
						fixed[k]++
					}
				}
			}
			for k := range order {
				if got := impl.FixedByTurn(f.name, n, k); got != fixed[k] {
					t.Errorf("FixedByTurn(%q, %d, %d) = %d, want %d", f.name, n, k, got, fixed[k])
				}
			}
			for _, k := range append(farNumbers(), -2, -1, order, order+1, 2*order) {
				if got := impl.FixedByTurn(f.name, n, k); got != -1 {
					t.Errorf("FixedByTurn(%q, %d, %d) = %d", f.name, n, k, got)
				}
			}
		}
	}
}

func TestPolynomialsSieveAllTurns(t *testing.T) {
	for _, f := range kindsOfTurns() {
		for n := 1; n <= 5; n++ {
			p, _ := impl.CatalanPolynomial(n)
			order := f.order(n)
			for k := range order {
				// The root is the first one, to the power of k.
				root := cmplx.Rect(1, 2*math.Pi*float64(k)/float64(order))
				value := complex(0, 0)
				for _, c := range slices.Backward(p) {
					value = value*root + complex(float64(c), 0)
				}
				if got := impl.FixedByTurn(f.name, n, k); cmplx.Abs(value-complex(float64(got), 0)) > 1e-6 {
					t.Errorf("FixedByTurn(%q, %d, %d) = %d, but the polynomial is %v", f.name, n, k, got, value)
				}
				if got, ok := impl.ValueAtRoot(p, order/gcdByHand(order, k)); !ok || got != impl.FixedByTurn(f.name, n, k) {
					t.Errorf("the polynomial of %d at turn %d of %q is %d, %v", n, k, f.name, got, ok)
				}
			}
			if !impl.SieveHolds(f.name, n) {
				t.Errorf("SieveHolds(%q, %d) is false", f.name, n)
			}
		}
	}
}

func TestOrbitSizes(t *testing.T) {
	paths := pathsBySize(5)
	for _, f := range kindsOfTurns() {
		for n := 1; n <= 5; n++ {
			var want []int
			orbits := map[string]int{}
			for _, w := range paths[n] {
				i, ok := orbits[fmt.Sprint(f.object(w))]
				if !ok {
					i = len(want)
					want = append(want, 0)
					for _, object := range f.turnsByHand(w) {
						orbits[fmt.Sprint(object)] = i
					}
				}
				want[i]++
			}
			got, ok := impl.OrbitSizes(f.name, n)
			if !ok || !slices.Equal(got, want) {
				t.Errorf("OrbitSizes(%q, %d) = %v, %v, want %v", f.name, n, got, ok, want)
			}
			// By the lemma of Burnside, the fixed objects of all turns are the order times the orbits.
			fixed := 0
			for k := range f.order(n) {
				fixed += impl.FixedByTurn(f.name, n, k)
			}
			if fixed != f.order(n)*len(got) {
				t.Errorf("%d orbits, but %d fixed objects of %q and %d", len(got), fixed, f.name, n)
			}
			scribble(got)
		}
	}
}

func TestOneObject(t *testing.T) {
	for _, f := range kindsOfTurns() {
		for k := range f.order(1) {
			if got := impl.FixedByTurn(f.name, 1, k); got != 1 {
				t.Errorf("FixedByTurn(%q, 1, %d) = %d", f.name, k, got)
			}
		}
		if sizes, ok := impl.OrbitSizes(f.name, 1); !ok || !slices.Equal(sizes, []int{1}) {
			t.Errorf("OrbitSizes(%q, 1) = %v, %v", f.name, sizes, ok)
		}
		if !impl.SieveHolds(f.name, 1) {
			t.Errorf("SieveHolds(%q, 1) is false", f.name)
		}
	}
	if impl.OrderOfTurn("partitions", 1) != 1 || impl.FixedByTurn("partitions", 1, 1) != -1 {
		t.Error("the partition of one element turns")
	}
}

func TestSievesRefuse(t *testing.T) {
	refuse := func(family string, n int) {
		t.Helper()
		if got := impl.OrderOfTurn(family, n); got != -1 {
			t.Errorf("OrderOfTurn(%.20q, %d) = %d", family, n, got)
		}
		for _, k := range []int{math.MinInt, -2, -1, 0, 1, 2, math.MaxInt} {
			if got := impl.FixedByTurn(family, n, k); got != -1 {
				t.Errorf("FixedByTurn(%.20q, %d, %d) = %d", family, n, k, got)
			}
		}
		if sizes, ok := impl.OrbitSizes(family, n); len(sizes) != 0 || ok {
			t.Errorf("OrbitSizes(%.20q, %d) = %v, %v", family, n, sizes, ok)
		}
		if impl.SieveHolds(family, n) {
			t.Errorf("SieveHolds(%.20q, %d)", family, n)
		}
	}
	for _, family := range noFamilies() {
		for n := -1; n <= 6; n++ {
			refuse(family, n)
		}
	}
	for _, family := range impl.FamilyNames() {
		for _, n := range append(farNumbers(), -5, -2, -1, 0, 6, 7, 8) {
			refuse(family, n)
		}
	}
}

func TestSieveHoldsAtTheSameTime(t *testing.T) {
	var holds [30]bool
	var group sync.WaitGroup
	for i := range holds {
		group.Add(1)
		go func() {
			defer group.Done()
			holds[i] = impl.SieveHolds(kindsOfTurns()[i%3].name, 1+i%5)
		}()
	}
	group.Wait()
	if slices.Contains(holds[:], false) {
		t.Errorf("%v", holds)
	}
}
