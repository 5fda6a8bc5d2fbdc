package tests

import (
	"slices"
	"strings"
	"testing"

	"loop.example/g03401/impl"
)

// neighboursByHand rotates at all nodes to the right, and then to the left.
func neighboursByHand(s string) []string {
	var l []string
	for _, rotated := range []func(t string, v int) string{rightByHand, leftByHand} {
		for v := range strings.Count(s, "(") {
			if next := rotated(s, v); next != "" {
				l = append(l, next)
			}
		}
	}
	return l
}

// waysByHand returns for each tree the first one of the shortest ways to it: ways are made longer all at a time, in order.
func waysByHand(a string) map[string][]string {
	first := map[string][]string{a: {a}}
	for ways := [][]string{{a}}; len(ways) > 0; {
		var longer [][]string
		for _, way := range ways {
			for _, next := range neighboursByHand(way[len(way)-1]) {
				if first[next] == nil {
					first[next] = append(slices.Clone(way), next)
					longer = append(longer, first[next])
				}
			}
		}
		ways = longer
	}
	return first
}

// commonByHand counts the diagonals of the triangles of both trees.
func commonByHand(a string, b string) int {
	n := strings.Count(a, "(") + 2
	second := longSides(n, trianglesByHand(b, 0, n-1))
	count := 0
	for _, d := range longSides(n, trianglesByHand(a, 0, n-1)) {
		for _, e := range second {
			if slices.Equal(d, e) {
				count++
			}
		}
	}
	return count
}

func TestRotationWaysOfAllPairs(t *testing.T) {
	for n, trees := range treesBySize(5) {
		for _, a := range trees {
			ways := waysByHand(a)
			for _, b := range trees {
				way, ok := impl.RotationWay(a, b)
				if !ok || !slices.Equal(way, ways[b]) {
					t.Fatalf("RotationWay(%q, %q) = %q, %v, want %q", a, b, way, ok, ways[b])
				}
				if !impl.IsRotationWay(way) {
					t.Fatalf("%q is no rotation way", way)
				}
				if got := impl.RotationDistance(a, b); got != len(way)-1 {
					t.Fatalf("RotationDistance(%q, %q) = %d in size %d, but the way is %q", a, b, got, n, way)
				}
				clear(way[:cap(way)])
			}
		}
	}
}

func TestDistancesAreThoseOfAMetric(t *testing.T) {
	for n, trees := range treesBySize(5) {
		distances := make([][]int, len(trees))
		for i, a := range trees {
			for _, b := range trees {
				distances[i] = append(distances[i], impl.RotationDistance(a, b))
			}
		}
		for i, a := range trees {
			for j, b := range trees {
				d := distances[i][j]
				if (d == 0) != (i == j) || d < 0 || d != distances[j][i] {
					t.Fatalf("from %q to %q it is %d, and back %d", a, b, d, distances[j][i])
				}
				for k, c := range trees {
					if distances[i][k]+distances[k][j] < d {
						t.Fatalf("from %q to %q it is shorter over %q", a, b, c)
					}
				}
				first, _ := impl.MirrorBinary(a)
				second, _ := impl.MirrorBinary(b)
				if mirrored := impl.RotationDistance(first, second); mirrored != d {
					t.Fatalf("between %q and %q it is %d, in the mirror %d", a, b, d, mirrored)
				}
				// A rotation changes one diagonal of n - 1, so that those that are not common need as many.
				if common := impl.CommonDiagonals(a, b); d < max(n-1, 0)-common || (common == max(n-1, 0)) != (d == 0) {
					t.Fatalf("%q and %q have %d common diagonals and the distance %d", a, b, common, d)
				}
			}
		}
	}
}

func TestDistanceOfNeighbours(t *testing.T) {
	for _, s := range slices.Concat(treesBySize(5)...) {
		for _, next := range neighboursByHand(s) {
			if d := impl.RotationDistance(s, next); d != 1 {
				t.Errorf("RotationDistance(%q, %q) = %d", s, next, d)
			}
		}
	}
}

func TestDistance0(t *testing.T) {
	for n, trees := range treesBySize(impl.MaxSize) {
		for _, s := range trees {
			way, ok := impl.RotationWay(s, s)
			if d := impl.RotationDistance(s, s); n <= 5 && (d != 0 || !ok || !slices.Equal(way, []string{s})) || n > 5 && (d != -1 || ok || len(way) > 0) {
				t.Fatalf("%q is %d from itself, on the way %q, %v", s, d, way, ok)
			}
			if got := impl.CommonDiagonals(s, s); got != max(n-1, 0) {
				t.Fatalf("%q has %d common diagonals with itself", s, got)
			}
			if !impl.IsRotationWay([]string{s}) || impl.IsRotationWay([]string{s, s}) {
				t.Fatalf("the way that stays at %q", s)
			}
		}
	}
}

func TestIsRotationWay(t *testing.T) {
	for _, trees := range treesBySize(4) {
		for _, a := range trees {
			for _, b := range trees {
				if got, want := impl.IsRotationWay([]string{a, b}), slices.Contains(neighboursByHand(a), b); got != want {
					t.Fatalf("IsRotationWay of %q and %q is %v", a, b, got)
				}
				for _, c := range trees {
					want := slices.Contains(neighboursByHand(a), b) && slices.Contains(neighboursByHand(b), c)
					if got := impl.IsRotationWay([]string{a, b, c}); got != want {
						t.Fatalf("IsRotationWay of %q, %q and %q is %v", a, b, c, got)
					}
				}
			}
		}
	}
	for _, s := range treesBySize(impl.MaxSize)[impl.MaxSize] {
		for _, next := range neighboursByHand(s) {
			if !impl.IsRotationWay([]string{s, next, s}) || impl.IsRotationWay([]string{s, next, next}) {
				t.Fatalf("the way from %q to %q and back", s, next)
			}
		}
	}
}

func TestLongRotationWays(t *testing.T) {
	for _, pair := range [][]string{{"((..).)", "(.(..))"}, {"(((..).).)", "((..)(..))"}} {
		way := slices.Repeat(pair, 21)
		for n := range way {
			if got, want := impl.IsRotationWay(way[:n]), 1 <= n && n <= 40; got != want {
				t.Errorf("IsRotationWay of %d trees is %v", n, got)
			}
		}
		for i := range 40 {
			for _, wrong := range []string{"", ".", "x", pair[(i+1)%2], pair[i%2] + " ", "((.(..)).)."} {
				broken := slices.Clone(way[:40])
				broken[i] = wrong
				if impl.IsRotationWay(broken) {
					t.Errorf("%q as station %d is on a rotation way", wrong, i)
				}
			}
		}
	}
	if impl.IsRotationWay(nil) || impl.IsRotationWay([]string{}) || !impl.IsRotationWay([]string{"."}) || impl.IsRotationWay([]string{".", "."}) {
		t.Error("ways of no nodes")
	}
	if impl.IsRotationWay(slices.Repeat([]string{"((..).)", "(.(..))"}, 1<<16)) {
		t.Error("a very long way")
	}
}

func TestDiameterOf(t *testing.T) {
	by := treesBySize(4)
	for n := -2; n <= 9; n++ {
		want := -1
		if 0 <= n && n <= 4 {
			want = 0
			for _, a := range by[n] {
				for _, way := range waysByHand(a) {
					want = max(want, len(way)-1)
				}
			}
		}
		if got := impl.DiameterOf(n); got != want {
			t.Errorf("DiameterOf(%d) = %d, want %d", n, got, want)
		}
	}
	for _, n := range farNumbers() {
		if got := impl.DiameterOf(n); got != -1 {
			t.Errorf("DiameterOf(%d) = %d", n, got)
		}
	}
}

func TestCommonDiagonals(t *testing.T) {
	for n, trees := range treesBySize(impl.MaxSize) {
		for i, a := range trees {
			others := trees
			if n > 5 {
				others = []string{trees[0], trees[len(trees)-1], trees[(i*i+3*i+2)%len(trees)]}
				others = append(others, neighboursByHand(a)[:2]...)
			}
			for _, b := range others {
				if got, want := impl.CommonDiagonals(a, b), commonByHand(a, b); got != want {
					t.Fatalf("CommonDiagonals(%q, %q) = %d, want %d", a, b, got, want)
				}
			}
		}
	}
}

// refuseWay checks that there is no distance, and no common diagonal unless both are trees with as many nodes.
func refuseWay(t *testing.T, a string, b string, alike bool) {
	t.Helper()
	names := a[:min(len(a), 40)] + " and " + b[:min(len(b), 40)]
	if d := impl.RotationDistance(a, b); d != -1 {
		t.Errorf("the distance of %s is %d", names, d)
	}
	if way, ok := impl.RotationWay(a, b); len(way) != 0 || ok {
		t.Errorf("the way between %s is %q, %v", names, way, ok)
	}
	if got := impl.CommonDiagonals(a, b); (got == -1) == alike {
		t.Errorf("%s have %d common diagonals", names, got)
	}
}

func TestDistancesRefuse(t *testing.T) {
	by := treesBySize(impl.MaxSize)
	for _, s := range noTrees() {
		refuseWay(t, s, s, false)
		for _, trees := range by {
			refuseWay(t, s, trees[0], false)
			refuseWay(t, trees[0], s, false)
		}
		if impl.IsRotationWay([]string{s}) || impl.IsRotationWay([]string{"(..)", s}) || impl.IsRotationWay([]string{s, "(..)"}) {
			t.Errorf("%.40q is on a rotation way", s)
		}
	}
	for m, first := range by {
		for n, second := range by {
			if m != n || n > 5 {
				refuseWay(t, first[0], second[len(second)-1], m == n)
				refuseWay(t, first[len(first)/2], second[0], m == n)
			}
		}
	}
}
