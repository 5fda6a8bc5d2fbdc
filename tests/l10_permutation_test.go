package tests

import (
	"math"
	"slices"
	"strings"
	"testing"

	"loop.example/g03401/impl"
)

// permutations returns all permutations of n numbers in lexicographic order.
func permutations(n int) [][]int {
	all := [][]int{nil}
	for range n {
		var next [][]int
		for _, p := range all {
			for x := range n {
				if !slices.Contains(p, x) {
					next = append(next, append(slices.Clone(p), x))
				}
			}
		}
		all = next
	}
	return all
}

func allPermutations() [][]int {
	var all [][]int
	for n := range impl.MaxSize + 1 {
		all = append(all, permutations(n)...)
	}
	return all
}

func isPermutationByHand(p []int) bool {
	for x := range p {
		if !slices.Contains(p, x) {
			return false
		}
	}
	return len(p) <= 8
}

// standardized replaces the numbers of a list by their ranks, written as digits from 1 on.
func standardized(l []int) string {
	sorted := slices.Sorted(slices.Values(l))
	out := ""
	for _, x := range l {
		out += string(rune('1' + slices.Index(sorted, x)))
	}
	return out
}

// patternByHand reports whether three numbers of a list, in order, have such ranks.
func patternByHand(p []int, pattern string) bool {
	for k := range p {
		for j := range k {
			for i := range j {
				if standardized([]int{p[i], p[j], p[k]}) == pattern {
					return true
				}
			}
		}
	}
	return false
}

// permutationByHand numbers the letters u by the order of their partners.
func permutationByHand(w string) []int {
	s := parentheses(w)
	var closing, p []int
	for i := range len(s) {
		if s[i] == '(' {
			closing = append(closing, partner(s, i))
		}
	}
	for _, at := range closing {
		before := 0
		for _, other := range closing {
			if other < at {
				before++
			}
		}
		p = append(p, before)
	}
	return p
}

// noPermutations returns lists that are no permutations.
func noPermutations() [][]int {
	return [][]int{
		{1}, {-1}, {0, 0}, {1, 1}, {1, 2}, {0, 2}, {-1, 0}, {0, -1}, {2, 1}, {0, 1, 1}, {0, 1, 3}, {2, 0, 2}, {0, 1, 2, 4}, {3, 1, 2, 3},
		{math.MaxInt}, {math.MinInt}, {0, math.MaxInt}, {math.MinInt, 0}, {1 << 32}, {1, 1 << 32}, {0, 1<<32 + 1}, {0, 1, 2, 3, 4, 5, 6, 8}, {0, 1, 2, 3, 4, 5, 6, 6}, {1, 2, 3, 4, 5, 6, 7, 8},
		{0, 1, 2, 3, 4, 5, 6, 7, 8}, {8, 7, 6, 5, 4, 3, 2, 1, 0}, {0, 1, 2, 3, 4, 5, 6, 7, 7}, make([]int, 9), make([]int, 100000),
	}
}

func TestIsPermutationOfAllLists(t *testing.T) {
	for _, p := range slices.Concat(listsOf(-1, 5, 5), allPermutations(), noPermutations()) {
		if got, want := impl.IsPermutation(p), isPermutationByHand(p); got != want {
			t.Fatalf("IsPermutation(%v) = %v", p, got)
		}
	}
}

func TestPatternsOfAllPermutations(t *testing.T) {
	for n := range 8 {
		with := map[string]int{}
		all := permutations(n)
		for _, p := range all {
			for pattern, contains := range map[string]func([]int) bool{"231": impl.Contains231, "321": impl.Contains321} {
				want := patternByHand(p, pattern)
				if got := contains(p); got != want {
					t.Fatalf("%v contains %s: %v", p, pattern, got)
				}
				if want {
					with[pattern]++
				}
			}
		}
		if c := len(all) - impl.CatalanNumber(n); with["231"] != c || with["321"] != c {
			t.Errorf("%v of %d permutations contain the patterns", with, len(all))
		}
	}
}

func TestPermutationsOfPaths(t *testing.T) {
	for _, w := range allPaths() {
		p, ok := impl.PermutationOf(w)
		if want := permutationByHand(w); !ok || !slices.Equal(p, want) {
			t.Fatalf("PermutationOf(%q) = %v, %v, want %v", w, p, ok, want)
		}
		if !impl.IsPermutation(p) || impl.Contains231(p) {
			t.Fatalf("PermutationOf(%q) = %v contains 231", w, p)
		}
		if again, ok := impl.PathOfPermutation(p); again != w || !ok {
			t.Fatalf("PathOfPermutation(%v) = %q, %v, want %q", p, again, ok, w)
		}
		// An index lies above another one on the stack when its pair of brackets lies within that of the other one.
		if got := impl.InversionsOf(p); got != impl.AreaOf(w) {
			t.Errorf("InversionsOf(%v) = %d, want the area of %q", p, got, w)
		}
		given := slices.Clone(p)
		scribble(p)
		if again, _ := impl.PermutationOf(w); !slices.Equal(again, given) {
			t.Fatalf("the result of one call is in the next one: %v", again)
		}
	}
}

func TestPathsOfPermutations(t *testing.T) {
	for _, p := range allPermutations() {
		w, ok := impl.PathOfPermutation(p)
		if patternByHand(p, "231") {
			if w != "" || ok {
				t.Fatalf("PathOfPermutation(%v) = %q, %v", p, w, ok)
			}
			continue
		}
		if again := permutationByHand(w); !ok || !shrinksToNothing(w) || !slices.Equal(again, p) {
			t.Fatalf("PathOfPermutation(%v) = %q, %v, of which the permutation is %v", p, w, ok, again)
		}
	}
}

func TestNumbersOfPermutations(t *testing.T) {
	for _, p := range allPermutations() {
		inversions, descents := 0, 0
		for i := range p {
			for j := i + 1; j < len(p); j++ {
				if p[i] > p[j] {
					inversions++
					if j == i+1 {
						descents++
					}
				}
			}
		}
		if got := impl.InversionsOf(p); got != inversions {
			t.Fatalf("InversionsOf(%v) = %d, want %d", p, got, inversions)
		}
		if got := impl.DescentsOf(p); got != descents {
			t.Fatalf("DescentsOf(%v) = %d, want %d", p, got, descents)
		}
	}
}

func TestInverseOf(t *testing.T) {
	for _, p := range allPermutations() {
		q, ok := impl.InverseOf(p)
		if !ok || len(q) != len(p) {
			t.Fatalf("InverseOf(%v) = %v, %v", p, q, ok)
		}
		for i, x := range p {
			if q[x] != i {
				t.Fatalf("InverseOf(%v) = %v", p, q)
			}
		}
		scribble(q)
	}
}

func TestAvoiders(t *testing.T) {
	for _, pattern := range []string{"231", "321"} {
		for n := range 6 {
			var want [][]int
			for _, p := range permutations(n) {
				if !patternByHand(p, pattern) {
					want = append(want, p)
				}
			}
			got, ok := impl.Avoiders(n, pattern)
			if !ok || !sameRows(got, want) || len(got) != impl.CatalanNumber(n) {
				t.Errorf("Avoiders(%d, %q) = %v, %v, want %v", n, pattern, got, ok, want)
			}
			apart(t, got)
			if again, _ := impl.Avoiders(n, pattern); !sameRows(again, want) {
				t.Errorf("the result of one call is in the next one: %v", again)
			}
		}
		for _, n := range append(farNumbers(), -2, -1, 6, 7, 8, 9) {
			if l, ok := impl.Avoiders(n, pattern); len(l) != 0 || ok {
				t.Errorf("Avoiders(%d, %q) = %v, %v", n, pattern, l, ok)
			}
		}
	}
}

func TestAvoidersRefusesOtherPatterns(t *testing.T) {
	for _, pattern := range []string{
		"", "123", "132", "213", "312", "120", "210", "21", "12", "1", "2311", "3210", "0231", "321 ", " 321", "231,321", "231321", "Contains231", "２３１", "\xff", "321\x00", strings.Repeat("231", 10000),
	} {
		for _, n := range []int{-1, 0, 1, 3, 5, 6} {
			if l, ok := impl.Avoiders(n, pattern); len(l) != 0 || ok {
				t.Errorf("Avoiders(%d, %q) = %v, %v", n, pattern[:min(len(pattern), 20)], l, ok)
			}
		}
	}
}

func TestOneNumberAndNone(t *testing.T) {
	for w, p := range map[string][]int{"": {}, "ud": {0}} {
		if got, ok := impl.PermutationOf(w); !slices.Equal(got, p) || !ok {
			t.Errorf("PermutationOf(%q) = %v, %v", w, got, ok)
		}
		if !impl.IsPermutation(p) || impl.Contains231(p) || impl.Contains321(p) || impl.InversionsOf(p) != 0 || impl.DescentsOf(p) != 0 {
			t.Errorf("%v is no permutation, or not in order", p)
		}
		if got, ok := impl.PathOfPermutation(p); got != w || !ok {
			t.Errorf("PathOfPermutation(%v) = %q, %v", p, got, ok)
		}
		if got, ok := impl.InverseOf(p); !slices.Equal(got, p) || !ok {
			t.Errorf("InverseOf(%v) = %v, %v", p, got, ok)
		}
		for _, pattern := range []string{"231", "321"} {
			if l, ok := impl.Avoiders(len(p), pattern); !ok || !sameRows(l, [][]int{p}) {
				t.Errorf("Avoiders(%d, %q) = %v, %v", len(p), pattern, l, ok)
			}
		}
	}
	if w, ok := impl.PathOfPermutation(nil); w != "" || !ok || !impl.IsPermutation(nil) {
		t.Errorf("PathOfPermutation(nil) = %q, %v", w, ok)
	}
}

func TestFunctionsRefuseNoPermutations(t *testing.T) {
	for _, w := range noPaths() {
		if p, ok := impl.PermutationOf(w); len(p) != 0 || ok {
			t.Errorf("PermutationOf(%q) = %v, %v", w, p, ok)
		}
	}
	for _, p := range noPermutations() {
		short := p[:min(len(p), 20)]
		if impl.IsPermutation(p) || impl.Contains231(p) || impl.Contains321(p) {
			t.Errorf("%v: %v, %v, %v", short, impl.IsPermutation(p), impl.Contains231(p), impl.Contains321(p))
		}
		if impl.InversionsOf(p) != -1 || impl.DescentsOf(p) != -1 {
			t.Errorf("%v has %d inversions and %d descents", short, impl.InversionsOf(p), impl.DescentsOf(p))
		}
		if w, ok := impl.PathOfPermutation(p); w != "" || ok {
			t.Errorf("PathOfPermutation(%v) = %q, %v", short, w, ok)
		}
		if q, ok := impl.InverseOf(p); len(q) != 0 || ok {
			t.Errorf("InverseOf(%v) = %v, %v", short, q, ok)
		}
	}
}

func TestListsWithPatternsThatAreNoPermutations(t *testing.T) {
	for _, p := range [][]int{{1, 2, -1}, {2, 3, 1}, {3, 2, 1}, {2, 1, -1}, {1, 2, 0, 0}, {2, 1, 0, 4}, {0, 2, 3, 1, 4, 5, 6, 7, 8}, {0, 3, 2, 1, 4, 5, 6, 7, 8}} {
		if impl.Contains231(p) || impl.Contains321(p) {
			t.Errorf("%v: %v, %v", p, impl.Contains231(p), impl.Contains321(p))
		}
	}
}

func TestPermutationsAreNotChanged(t *testing.T) {
	for _, p := range slices.Concat(permutations(0), permutations(3), permutations(4), noPermutations()[:20]) {
		given, check := guarded(t, p)
		impl.IsPermutation(given)
		impl.Contains231(given)
		impl.Contains321(given)
		impl.InversionsOf(given)
		impl.DescentsOf(given)
		impl.PathOfPermutation(given)
		q, _ := impl.InverseOf(given)
		scribble(q)
		check()
	}
}
