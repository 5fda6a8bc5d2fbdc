package tests

import (
	"slices"
	"strings"
	"testing"

	"loop.example/g03401/impl"
)

// sortedByHand puts what is before the greatest number through the stack, then what is behind it, and then comes this number.
func sortedByHand(p []int) []int {
	if len(p) == 0 {
		return nil
	}
	at := slices.Index(p, slices.Max(p))
	return slices.Concat(sortedByHand(p[:at]), sortedByHand(p[at+1:]), p[at:at+1])
}

// bubbledByHand carries the greatest number to the end, and what is before it is bubbled for itself.
func bubbledByHand(p []int) []int {
	if len(p) == 0 {
		return nil
	}
	at := slices.Index(p, slices.Max(p))
	return slices.Concat(bubbledByHand(p[:at]), p[at+1:], p[at:at+1])
}

func passesByHand(p []int) int {
	passes := 0
	for ; !slices.IsSorted(p); passes++ {
		p = sortedByHand(p)
	}
	return passes
}

// outputByHand takes for each d the number whose u is its partner.
func outputByHand(w string, p []int) []int {
	s := parentheses(w)
	var output []int
	for i := range len(s) {
		if s[i] == ')' {
			output = append(output, p[strings.Count(w[:partner(s, i)], "u")])
		}
	}
	return output
}

// patternPlacesByHand returns the least one of all lists of places.
func patternPlacesByHand(p []int) []int {
	var found [][]int
	for c := range p {
		for b := range c {
			for a := range b {
				if standardized([]int{p[a], p[b], p[c]}) == "231" {
					found = append(found, []int{a, b, c})
				}
			}
		}
	}
	if len(found) == 0 {
		return nil
	}
	return slices.MinFunc(found, slices.Compare[[]int])
}

func TestSortOnceOfAllPermutations(t *testing.T) {
	for _, p := range allPermutations() {
		given, check := guarded(t, p)
		got, ok := impl.SortOnce(given)
		if want := sortedByHand(p); !ok || !slices.Equal(got, want) {
			t.Fatalf("SortOnce(%v) = %v, %v, want %v", p, got, ok, want)
		}
		if sortable, want := impl.IsSortable(given), slices.IsSorted(got); sortable != want {
			t.Fatalf("IsSortable(%v) = %v, but the output is %v", p, sortable, got)
		}
		if passes, want := impl.PassesOf(given), passesByHand(p); passes != want {
			t.Fatalf("PassesOf(%v) = %d, want %d", p, passes, want)
		}
		scribble(got)
		check()
	}
}

func TestStackSortsExactlyPermutationsWithout231(t *testing.T) {
	for n := range impl.MaxSize + 1 {
		sortable := 0
		for _, p := range permutations(n) {
			if impl.IsSortable(p) {
				sortable++
			}
			if got := impl.IsSortable(p); got == patternByHand(p, "231") {
				t.Fatalf("IsSortable(%v) = %v", p, got)
			}
		}
		if sortable != impl.CatalanNumber(n) {
			t.Errorf("%d permutations of %d numbers are sortable", sortable, n)
		}
	}
}

func TestPatternOf231OfAllPermutations(t *testing.T) {
	for _, p := range allPermutations() {
		given, check := guarded(t, p)
		got, ok := impl.PatternOf231(given)
		if want := patternPlacesByHand(p); !slices.Equal(got, want) || ok != (want != nil) {
			t.Fatalf("PatternOf231(%v) = %v, %v, want %v", p, got, ok, want)
		}
		if ok == impl.IsSortable(p) || ok != impl.Contains231(p) {
			t.Fatalf("PatternOf231(%v) = %v, %v", p, got, ok)
		}
		scribble(got)
		check()
	}
}

func TestPathsSortPermutations(t *testing.T) {
	for n, paths := range pathsBySize(6) {
		sorting := map[string]string{}
		for _, p := range permutations(n) {
			given, check := guarded(t, p)
			for _, w := range paths {
				got, ok := impl.OutputOf(w, given)
				if want := outputByHand(w, p); !ok || !slices.Equal(got, want) {
					t.Fatalf("OutputOf(%q, %v) = %v, %v, want %v", w, p, got, ok, want)
				}
				if slices.IsSorted(got) {
					sorting[standardized(p)] = w
				}
				scribble(got)
			}
			check()
			// No path sorts what contains 231, and the path of the permutation sorts the others.
			w, ok := impl.PathOfPermutation(p)
			if found, sorts := sorting[standardized(p)]; sorts != ok || found != w {
				t.Fatalf("%q sorts %v, want %q", found, p, w)
			}
		}
	}
}

func TestPathsOfGreatPermutationsSortThem(t *testing.T) {
	for _, p := range append(permutations(8), permutations(7)...) {
		w, ok := impl.PathOfPermutation(p)
		if !ok {
			continue
		}
		got, ok := impl.OutputOf(w, p)
		if want := slices.Sorted(slices.Values(p)); !ok || !slices.Equal(got, want) {
			t.Fatalf("OutputOf(%q, %v) = %v, %v", w, p, got, ok)
		}
	}
}

func TestBubbleOnceOfAllPermutations(t *testing.T) {
	for _, p := range allPermutations() {
		given, check := guarded(t, p)
		got, ok := impl.BubbleOnce(given)
		if want := bubbledByHand(p); !ok || !slices.Equal(got, want) {
			t.Fatalf("BubbleOnce(%v) = %v, %v, want %v", p, got, ok, want)
		}
		scribble(got)
		check()
	}
}

func TestCountSortable(t *testing.T) {
	for n := range 6 {
		for passes := range 6 {
			want := 0
			for _, p := range permutations(n) {
				if passesByHand(p) <= passes {
					want++
				}
			}
			if got := impl.CountSortable(n, passes); got != want {
				t.Errorf("CountSortable(%d, %d) = %d, want %d", n, passes, got, want)
			}
		}
		if got := impl.CountSortable(n, 1); got != impl.CatalanNumber(n) {
			t.Errorf("CountSortable(%d, 1) = %d", n, got)
		}
		// West has counted what two stacks sort.
		if got, want := impl.CountSortable(n, 2), []int{1, 1, 2, 6, 22, 91}[n]; got != want {
			t.Errorf("CountSortable(%d, 2) = %d, want %d", n, got, want)
		}
	}
	for _, far := range append(farNumbers(), -2, -1, 6, 7, 8, 9) {
		for near := -1; near <= 6; near++ {
			if impl.CountSortable(far, near) != -1 || impl.CountSortable(near, far) != -1 {
				t.Errorf("CountSortable of %d and %d", far, near)
			}
		}
	}
}

func TestMachinesOnNumbersThatAscend(t *testing.T) {
	for n := range impl.MaxSize + 1 {
		p := permutations(n)[0]
		if !slices.IsSorted(p) || len(p) != n {
			t.Fatal(p)
		}
		if got, ok := impl.SortOnce(p); !ok || !slices.Equal(got, p) {
			t.Errorf("SortOnce(%v) = %v, %v", p, got, ok)
		}
		if got, ok := impl.BubbleOnce(p); !ok || !slices.Equal(got, p) {
			t.Errorf("BubbleOnce(%v) = %v, %v", p, got, ok)
		}
		if got, ok := impl.OutputOf(strings.Repeat("ud", n), p); !ok || !slices.Equal(got, p) {
			t.Errorf("OutputOf of %v is %v, %v", p, got, ok)
		}
		if !impl.IsSortable(p) || impl.PassesOf(p) != 0 {
			t.Errorf("%v needs %d passes", p, impl.PassesOf(p))
		}
		if got, ok := impl.PatternOf231(p); len(got) != 0 || ok {
			t.Errorf("PatternOf231(%v) = %v, %v", p, got, ok)
		}
		if impl.CountSortable(min(n, 5), 0) != 1 {
			t.Errorf("CountSortable(%d, 0) = %d", n, impl.CountSortable(n, 0))
		}
	}
}

func TestMachinesRefuseNoPermutations(t *testing.T) {
	lists := noPermutations()
	for _, p := range listsOf(-1, 4, 4) {
		if !isPermutationByHand(p) {
			lists = append(lists, p)
		}
	}
	for _, p := range append(lists, []int{1, 2, -1}, []int{2, 3, 1}, []int{0, 2, 3, 1, 4, 5, 6, 7, 8}) {
		short := p[:min(len(p), 20)]
		if got, ok := impl.SortOnce(p); len(got) != 0 || ok {
			t.Errorf("SortOnce(%v) = %v, %v", short, got, ok)
		}
		if got, ok := impl.BubbleOnce(p); len(got) != 0 || ok {
			t.Errorf("BubbleOnce(%v) = %v, %v", short, got, ok)
		}
		if got, ok := impl.PatternOf231(p); len(got) != 0 || ok {
			t.Errorf("PatternOf231(%v) = %v, %v", short, got, ok)
		}
		if impl.IsSortable(p) || impl.PassesOf(p) != -1 {
			t.Errorf("IsSortable(%v) = %v, and PassesOf is %d", short, impl.IsSortable(p), impl.PassesOf(p))
		}
		for _, n := range []int{len(p), 0, 1, 8} {
			w := strings.Repeat("u", n) + strings.Repeat("d", n)
			if got, ok := impl.OutputOf(w, p); len(got) != 0 || ok {
				t.Errorf("OutputOf(%.20q, %v) = %v, %v", w, short, got, ok)
			}
		}
	}
}

func TestOutputOfRefuses(t *testing.T) {
	for _, w := range noPaths() {
		for n := range 10 {
			p := make([]int, n)
			for i := range p {
				p[i] = i
			}
			if got, ok := impl.OutputOf(w, p); len(got) != 0 || ok {
				t.Errorf("OutputOf(%.20q, %v) = %v, %v", w, p, got, ok)
			}
		}
	}
	for m, paths := range pathsBySize(5) {
		for n := range 6 {
			for _, p := range permutations(n) {
				if got, ok := impl.OutputOf(paths[0], p); m != n && (len(got) != 0 || ok) {
					t.Errorf("OutputOf(%q, %v) = %v, %v", paths[0], p, got, ok)
				}
			}
		}
	}
}
