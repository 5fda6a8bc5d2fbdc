package tests

import (
	"slices"
	"strings"
	"testing"

	"loop.example/g03401/impl"
)

// belowByHand compares the numbers of letters u up to each place.
func belowByHand(a string, b string) bool {
	for i := range len(a) {
		if strings.Count(a[:i], "u") > strings.Count(b[:i], "u") {
			return false
		}
	}
	return len(a) == len(b)
}

// coversByHand exchanges each two letters du.
func coversByHand(w string) []string {
	var l []string
	for i := 1; i < len(w); i++ {
		if w[i-1] == 'd' && w[i] == 'u' {
			letters := []byte(w)
			letters[i-1], letters[i] = letters[i], letters[i-1]
			l = append(l, string(letters))
		}
	}
	return l
}

// distanceByHand counts the squares between two paths: each letter u of one stands so many places behind that of the other.
func distanceByHand(a string, b string) int {
	places := func(w string) []int {
		var l []int
		for i := range len(w) {
			if w[i] == 'u' {
				l = append(l, i)
			}
		}
		return l
	}
	sum := 0
	second := places(b)
	for i, place := range places(a) {
		sum += max(place-second[i], second[i]-place)
	}
	return sum
}

func TestIsBelowOfAllPairs(t *testing.T) {
	for n, paths := range pathsBySize(6) {
		for _, a := range paths {
			for _, b := range paths {
				if got, want := impl.IsBelow(a, b), belowByHand(a, b); got != want {
					t.Fatalf("IsBelow(%q, %q) = %v in size %d", a, b, got, n)
				}
			}
		}
	}
}

func TestLowerAndUpperPathsAreBounds(t *testing.T) {
	for n, paths := range pathsBySize(6) {
		for _, a := range paths {
			for _, b := range paths {
				lower, ok := impl.LowerPath(a, b)
				if !ok || !belowByHand(lower, a) || !belowByHand(lower, b) || !shrinksToNothing(lower) {
					t.Fatalf("LowerPath(%q, %q) = %q, %v", a, b, lower, ok)
				}
				upper, ok := impl.UpperPath(a, b)
				if !ok || !belowByHand(a, upper) || !belowByHand(b, upper) || !shrinksToNothing(upper) {
					t.Fatalf("UpperPath(%q, %q) = %q, %v", a, b, upper, ok)
				}
				if n > 4 {
					continue
				}
				for _, c := range paths {
					if belowByHand(c, a) && belowByHand(c, b) && !belowByHand(c, lower) {
						t.Fatalf("%q is below %q and %q, but not below %q", c, a, b, lower)
					}
					if belowByHand(a, c) && belowByHand(b, c) && !belowByHand(upper, c) {
						t.Fatalf("%q is above %q and %q, but not above %q", c, a, b, upper)
					}
				}
			}
		}
	}
}

func TestLowerAndUpperHeights(t *testing.T) {
	for n, paths := range pathsBySize(8) {
		for i, a := range paths {
			b := paths[(i*i+5*i+2)%len(paths)]
			lower, _ := impl.LowerPath(a, b)
			upper, _ := impl.UpperPath(a, b)
			low, high := letterHeights(lower), letterHeights(upper)
			second := letterHeights(b)
			for place, height := range letterHeights(a) {
				if low[place] != min(height, second[place]) || high[place] != max(height, second[place]) {
					t.Fatalf("%q and %q of size %d lie between %q and %q", a, b, n, lower, upper)
				}
			}
			if impl.RankOfPath(a)+impl.RankOfPath(b) != impl.RankOfPath(lower)+impl.RankOfPath(upper) {
				t.Fatalf("the ranks of %q and %q do not add up to those of %q and %q", a, b, lower, upper)
			}
		}
	}
}

func TestCoversOf(t *testing.T) {
	for n, paths := range pathsBySize(8) {
		for _, w := range paths {
			got := impl.CoversOf(w)
			if want := coversByHand(w); !slices.Equal(got, want) {
				t.Fatalf("CoversOf(%q) = %q, want %q", w, got, want)
			}
			for _, cover := range got {
				if !impl.IsBelow(w, cover) || impl.IsBelow(cover, w) || impl.DistanceBetween(w, cover) != 1 || impl.RankOfPath(cover) != impl.RankOfPath(w)+1 {
					t.Fatalf("%q does not cover %q", cover, w)
				}
			}
			if n > 4 {
				continue
			}
			// What is above w is above one of its covers.
			for _, b := range paths {
				above := slices.ContainsFunc(got, func(cover string) bool { return impl.IsBelow(cover, b) })
				if impl.IsBelow(w, b) != (above || w == b) {
					t.Fatalf("%q and %q, which is above a cover: %v", w, b, above)
				}
			}
			clear(got)
		}
	}
}

func TestCountBelow(t *testing.T) {
	by := pathsBySize(5)
	for n := -2; n <= 9; n++ {
		want := -1
		if 0 <= n && n <= 5 {
			want = 0
			for _, a := range by[n] {
				for _, b := range by[n] {
					if belowByHand(a, b) {
						want++
					}
				}
			}
			// Pairs of paths that do not cross are counted by a determinant of Catalan numbers.
			c := impl.CatalanNumber
			if formula := c(n)*c(n+2) - c(n+1)*c(n+1); want != formula {
				t.Errorf("%d pairs of size %d, not %d", want, n, formula)
			}
		}
		if got := impl.CountBelow(n); got != want {
			t.Errorf("CountBelow(%d) = %d, want %d", n, got, want)
		}
	}
	for _, n := range farNumbers() {
		if got := impl.CountBelow(n); got != -1 {
			t.Errorf("CountBelow(%d) = %d", n, got)
		}
	}
}

func TestDistanceBetween(t *testing.T) {
	for n, paths := range pathsBySize(6) {
		for _, a := range paths {
			for _, b := range paths {
				want := distanceByHand(a, b)
				if got := impl.DistanceBetween(a, b); got != want {
					t.Fatalf("DistanceBetween(%q, %q) = %d, want %d", a, b, got, want)
				}
				if n > 4 {
					continue
				}
				for _, c := range paths {
					if impl.DistanceBetween(a, c)+impl.DistanceBetween(c, b) < want {
						t.Fatalf("from %q to %q it is shorter over %q", a, b, c)
					}
				}
			}
		}
	}
}

func TestRankOfPath(t *testing.T) {
	for n, paths := range pathsBySize(8) {
		for _, w := range paths {
			got := impl.RankOfPath(w)
			if want := distanceByHand(w, strings.Repeat("ud", n)); got != want || got != impl.AreaOf(w) {
				t.Fatalf("RankOfPath(%q) = %d, want %d", w, got, want)
			}
		}
	}
}

func TestTwoEqualPaths(t *testing.T) {
	for _, w := range allPaths() {
		lower, lowerOk := impl.LowerPath(w, w)
		upper, upperOk := impl.UpperPath(w, w)
		if !impl.IsBelow(w, w) || lower != w || !lowerOk || upper != w || !upperOk || impl.DistanceBetween(w, w) != 0 {
			t.Fatalf("%q twice: lower %q, %v, upper %q, %v, distance %d", w, lower, lowerOk, upper, upperOk, impl.DistanceBetween(w, w))
		}
	}
	if impl.RankOfPath("") != 0 || len(impl.CoversOf("")) != 0 {
		t.Errorf("the empty path has the rank %d and the covers %q", impl.RankOfPath(""), impl.CoversOf(""))
	}
}

func TestHeightsRefuse(t *testing.T) {
	refuse := func(a string, b string) {
		t.Helper()
		if impl.IsBelow(a, b) || impl.DistanceBetween(a, b) != -1 {
			t.Errorf("%q and %q are in order, or at the distance %d", a, b, impl.DistanceBetween(a, b))
		}
		if w, ok := impl.LowerPath(a, b); w != "" || ok {
			t.Errorf("LowerPath(%q, %q) = %q, %v", a, b, w, ok)
		}
		if w, ok := impl.UpperPath(a, b); w != "" || ok {
			t.Errorf("UpperPath(%q, %q) = %q, %v", a, b, w, ok)
		}
	}
	for _, w := range noPaths() {
		refuse(w, w)
		for n := range 5 {
			refuse(w, strings.Repeat("ud", n))
			refuse(strings.Repeat("u", n)+strings.Repeat("d", n), w)
		}
		if impl.RankOfPath(w) != -1 || len(impl.CoversOf(w)) != 0 {
			t.Errorf("%q has the rank %d and the covers %q", w, impl.RankOfPath(w), impl.CoversOf(w))
		}
	}
	for m := range 9 {
		for n := range 9 {
			if m != n {
				refuse(strings.Repeat("ud", m), strings.Repeat("ud", n))
			}
		}
	}
}
