package tests

import (
	"math"
	"slices"
	"strings"
	"sync"
	"testing"

	"loop.example/g03401/impl"
)

// wishLists returns all lists of n wishes for n places.
func wishLists(n int) [][]int {
	all := [][]int{nil}
	for range n {
		var next [][]int
		for _, f := range all {
			for wish := 1; wish <= n; wish++ {
				next = append(next, append(slices.Clone(f), wish))
			}
		}
		all = next
	}
	return all
}

// placesByHand lets each car drive on from its wish as long as the place is among those of the cars before it; nil if one finds none.
func placesByHand(f []int) []int {
	places := []int{}
	for _, place := range f {
		for slices.Contains(places, place) {
			place++
		}
		if place > len(f) {
			return nil
		}
		places = append(places, place)
	}
	return places
}

// parksByHand reports whether for each k at least k wishes are at most k.
func parksByHand(f []int) bool {
	for k := range len(f) + 1 {
		few := 0
		for _, wish := range f {
			if wish <= k {
				few++
			}
		}
		if few < k {
			return false
		}
	}
	return true
}

// parkings returns the lists of n wishes with which all cars find places.
func parkings(n int) [][]int {
	var all [][]int
	for _, f := range wishLists(n) {
		if parksByHand(f) {
			all = append(all, f)
		}
	}
	return all
}

// wishesByHand returns the path in which the letters u before the d of each place are the wishes for it.
func wishesByHand(f []int) string {
	w := ""
	for i := range f {
		for _, wish := range f {
			if wish == i+1 {
				w += "u"
			}
		}
		w += "d"
	}
	return w
}

func power(base int, exponent int) int {
	product := 1
	for range exponent {
		product *= base
	}
	return product
}

// noParkings returns lists of wishes with which not all cars find places.
func noParkings() [][]int {
	l := [][]int{
		{0}, {2}, {-1}, {1, 0}, {0, 1}, {2, 2}, {1, 3}, {3, 1}, {1, -1}, {-1, 1}, {0, 0}, {3, 3}, {3, 3, 1}, {2, 2, 2}, {2, 3, 2}, {1, 3, 3}, {1, 2, 4}, {4, 1, 2}, {1, 1, 0}, {0, 1, 1}, {1, 1, 4}, {2, 3, 3},
		{math.MaxInt}, {math.MinInt}, {1, math.MaxInt}, {math.MaxInt, 1}, {1, math.MinInt}, {1<<32 + 1}, {1, 1 << 32}, {1 - 1<<32},
		{1, 1, 1, 1, 1, 7}, {1, 1, 1, 1, 1, 0}, {6, 6, 1, 1, 1, 1}, {6, 5, 4, 3, 2, 2}, {2, 2, 3, 4, 5, 6}, {5, 5, 5, 1, 1, 1}, {0, 1, 2, 3, 4, 5},
		{1, 1, 1, 1, 1, 1, 1}, {1, 2, 3, 4, 5, 6, 7}, {7, 6, 5, 4, 3, 2, 1}, {1, 2, 3, 4, 5, 6, 6}, {1, 2, 3, 4, 5, 6, 7, 8},
	}
	return append(l, make([]int, 6), make([]int, 7), make([]int, 100000), slices.Repeat([]int{1}, 100000))
}

func TestPlacesOfAllLists(t *testing.T) {
	for n := range impl.MaxCars + 1 {
		for _, f := range wishLists(n) {
			places, ok := impl.PlacesOf(f)
			want := placesByHand(f)
			if ok != (want != nil) || !slices.Equal(places, want) {
				t.Fatalf("PlacesOf(%v) = %v, %v, want %v", f, places, ok, want)
			}
			if ok != parksByHand(f) || impl.IsParking(f) != ok {
				t.Fatalf("IsParking(%v) = %v, but PlacesOf finds %v, %v", f, impl.IsParking(f), places, ok)
			}
			scribble(places)
		}
	}
}

func TestPlacesOfWishesThatAreNoPlaces(t *testing.T) {
	for _, f := range listsOf(-2, 6, 4) {
		outside := slices.ContainsFunc(f, func(wish int) bool { return wish < 1 || wish > len(f) })
		want := !outside && parksByHand(f)
		if places, ok := impl.PlacesOf(f); ok != want || !ok && len(places) != 0 || impl.IsParking(f) != want {
			t.Fatalf("PlacesOf(%v) = %v, %v", f, places, ok)
		}
	}
}

func TestCountParking(t *testing.T) {
	for n := range impl.MaxCars + 1 {
		want := len(parkings(n))
		if got := impl.CountParking(n); got != want {
			t.Errorf("CountParking(%d) = %d, want %d", n, got, want)
		}
		if formula := power(n+1, max(n-1, 0)); want != formula {
			t.Errorf("%d lists of %d wishes, not %d", want, n, formula)
		}
	}
	for _, n := range append(farNumbers(), -2, -1, 7, 8, 9) {
		if got := impl.CountParking(n); got != -1 {
			t.Errorf("CountParking(%d) = %d", n, got)
		}
	}
}

func TestCountParkingAtTheSameTime(t *testing.T) {
	var counts [40]int
	var group sync.WaitGroup
	for i := range counts {
		group.Add(1)
		go func() {
			defer group.Done()
			counts[i] = impl.CountParking(i % 7)
		}()
	}
	group.Wait()
	for i, count := range counts {
		if count != []int{1, 1, 3, 16, 125, 1296, 16807}[i%7] {
			t.Errorf("CountParking(%d) = %d", i%7, count)
		}
	}
}

func TestDisplacementIsTheAreaOfThePath(t *testing.T) {
	for n := range impl.MaxCars + 1 {
		for _, f := range parkings(n) {
			w, ok := impl.PathOfParking(f)
			if want := wishesByHand(f); w != want || !ok || !shrinksToNothing(w) {
				t.Fatalf("PathOfParking(%v) = %q, %v, want %q", f, w, ok, want)
			}
			moved, lucky := 0, 0
			for car, place := range placesByHand(f) {
				moved += place - f[car]
				if place == f[car] {
					lucky++
				}
			}
			if got := impl.DisplacementOf(f); got != moved || got != impl.AreaOf(w) {
				t.Fatalf("DisplacementOf(%v) = %d, want %d, the area of %q", f, got, moved, w)
			}
			if got := impl.LuckyOf(f); got != lucky {
				t.Fatalf("LuckyOf(%v) = %d, want %d", f, got, lucky)
			}
		}
	}
}

func TestPathsCarryAllParkings(t *testing.T) {
	for n := range impl.MaxCars + 1 {
		lists := map[string]int{}
		for _, f := range parkings(n) {
			lists[wishesByHand(f)]++
		}
		sum := 0
		for _, w := range allPaths() {
			if len(w) != 2*n {
				continue
			}
			got := impl.ParkingsOver(w)
			if got != lists[w] {
				t.Errorf("ParkingsOver(%q) = %d, want %d", w, got, lists[w])
			}
			sum += got
		}
		if sum != impl.CountParking(n) || len(lists) != impl.CatalanNumber(n) {
			t.Errorf("%d paths of size %d carry %d lists", len(lists), n, sum)
		}
	}
	for _, w := range allPaths() {
		if len(w) <= 12 {
			continue
		}
		if got := impl.ParkingsOver(w); got != -1 {
			t.Fatalf("ParkingsOver(%q) = %d", w, got)
		}
	}
}

func TestSortParking(t *testing.T) {
	for n := range impl.MaxCars + 1 {
		for _, f := range parkings(n) {
			got, ok := impl.SortParking(f)
			var want []int
			for i := range f {
				want = append(want, slices.Repeat([]int{i + 1}, strings.Count(strings.Split(wishesByHand(f), "d")[i], "u"))...)
			}
			if !ok || !slices.Equal(got, want) {
				t.Fatalf("SortParking(%v) = %v, %v, want %v", f, got, ok, want)
			}
			scribble(got)
		}
	}
}

func TestNoCars(t *testing.T) {
	for _, f := range [][]int{nil, {}} {
		if places, ok := impl.PlacesOf(f); len(places) != 0 || !ok || !impl.IsParking(f) {
			t.Errorf("places %v, %v", places, ok)
		}
		if w, ok := impl.PathOfParking(f); w != "" || !ok {
			t.Errorf("path %q, %v", w, ok)
		}
		if l, ok := impl.SortParking(f); len(l) != 0 || !ok {
			t.Errorf("sorted %v, %v", l, ok)
		}
		if impl.DisplacementOf(f) != 0 || impl.LuckyOf(f) != 0 {
			t.Errorf("displacement %d, lucky %d", impl.DisplacementOf(f), impl.LuckyOf(f))
		}
	}
	if impl.CountParking(0) != 1 || impl.ParkingsOver("") != 1 {
		t.Errorf("%d lists, %d over the empty path", impl.CountParking(0), impl.ParkingsOver(""))
	}
}

func TestFunctionsRefuseNoParkings(t *testing.T) {
	for _, w := range noPaths() {
		if got := impl.ParkingsOver(w); got != -1 {
			t.Errorf("ParkingsOver(%q) = %d", w, got)
		}
	}
	for _, f := range noParkings() {
		short := f[:min(len(f), 20)]
		if places, ok := impl.PlacesOf(f); len(places) != 0 || ok || impl.IsParking(f) {
			t.Errorf("PlacesOf(%v) = %v, %v", short, places, ok)
		}
		if w, ok := impl.PathOfParking(f); w != "" || ok {
			t.Errorf("PathOfParking(%v) = %q, %v", short, w, ok)
		}
		if l, ok := impl.SortParking(f); len(l) != 0 || ok {
			t.Errorf("SortParking(%v) = %v, %v", short, l, ok)
		}
		if impl.DisplacementOf(f) != -1 || impl.LuckyOf(f) != -1 {
			t.Errorf("%v: displacement %d, lucky %d", short, impl.DisplacementOf(f), impl.LuckyOf(f))
		}
	}
}

func TestWishesAreNotChanged(t *testing.T) {
	for _, f := range slices.Concat(wishLists(0), wishLists(1), wishLists(3), wishLists(4), noParkings()[:40]) {
		given, check := guarded(t, f)
		impl.IsParking(given)
		impl.PathOfParking(given)
		impl.DisplacementOf(given)
		impl.LuckyOf(given)
		places, _ := impl.PlacesOf(given)
		scribble(places)
		sorted, _ := impl.SortParking(given)
		scribble(sorted)
		check()
	}
}
