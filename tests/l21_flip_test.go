package tests

import (
	"slices"
	"testing"

	"loop.example/g03401/impl"
)

// flippedByHand looks among all diagonals for the other one that crosses none of those that stay.
func flippedByHand(n int, d [][]int, k int) [][]int {
	rest := slices.Concat(d[:k], d[k+1:])
	for _, e := range diagonalsOf(n) {
		if !slices.Equal(e, d[k]) && !slices.ContainsFunc(rest, func(c []int) bool { return slices.Equal(c, e) || crossByHand(c, e) }) {
			flipped := append(rest, e)
			slices.SortFunc(flipped, slices.Compare[[]int])
			return flipped
		}
	}
	panic("no flip")
}

// fanByHand picks the diagonals with one corner.
func fanByHand(n int, v int) [][]int {
	var fan [][]int
	for _, e := range diagonalsOf(n) {
		if slices.Contains(e, v) {
			fan = append(fan, e)
		}
	}
	return fan
}

// diagonalsAt counts the diagonals with a corner.
func diagonalsAt(d [][]int, v int) int {
	count := 0
	for _, e := range d {
		if slices.Contains(e, v) {
			count++
		}
	}
	return count
}

// fanWayByHand tries the diagonals without the corner one after the other, and begins anew after each flip.
func fanWayByHand(n int, d [][]int, v int) [][][]int {
	way := [][][]int{d}
	for k := 0; k < len(d); {
		flipped := flippedByHand(n, d, k)
		if slices.Contains(d[k], v) || diagonalsAt(flipped, v) == diagonalsAt(d, v) {
			k++
			continue
		}
		d, k = flipped, 0
		way = append(way, d)
	}
	return way
}

func sameLists(a [][][]int, b [][][]int) bool {
	return slices.EqualFunc(a, b, sameRows)
}

// apartAll is apart for a list of lists of rows.
func apartAll(t *testing.T, l [][][]int) {
	t.Helper()
	rows := slices.Concat(l...)
	for i, d := range l {
		clear(d[:cap(d)])
		for _, other := range l[i+1:] {
			if slices.ContainsFunc(other, func(row []int) bool { return row == nil }) {
				t.Errorf("list %d shares memory with another list", i)
			}
		}
	}
	apart(t, rows)
}

func TestFlipDiagonalOfAllTriangulations(t *testing.T) {
	for n := 2; n <= 10; n++ {
		for _, d := range triangulations(n) {
			given, check := guardedRows(t, d)
			var all [][][]int
			for k := range d {
				want := flippedByHand(n, d, k)
				got, ok := impl.FlipDiagonal(n, given, k)
				if !ok || !sameRows(got, want) {
					t.Fatalf("FlipDiagonal(%d, %v, %d) = %v, %v, want %v", n, d, k, got, ok, want)
				}
				all = append(all, want)
				apart(t, got)
			}
			got, ok := impl.FlipNeighbours(n, given)
			if !ok || !sameLists(got, all) {
				t.Fatalf("FlipNeighbours(%d, %v) = %v, %v, want %v", n, d, got, ok, all)
			}
			apartAll(t, got)
			check()
		}
	}
}

func TestFlipsAreUndone(t *testing.T) {
	for n := 4; n <= 9; n++ {
		for _, d := range triangulations(n) {
			neighbours, _ := impl.FlipNeighbours(n, d)
			for _, e := range neighbours {
				back, _ := impl.FlipNeighbours(n, e)
				if !slices.ContainsFunc(back, func(f [][]int) bool { return sameRows(f, d) }) {
					t.Fatalf("no flip leads back from %v to %v", e, d)
				}
			}
		}
	}
}

func TestFlipsAreRotations(t *testing.T) {
	for n := 2; n <= 10; n++ {
		for _, d := range triangulations(n) {
			s, _ := impl.BinaryOfTriangles(n, d)
			var flipped []string
			neighbours, _ := impl.FlipNeighbours(n, d)
			for _, e := range neighbours {
				next, _ := impl.BinaryOfTriangles(n, e)
				flipped = append(flipped, next)
			}
			rotated := impl.NeighboursOf(s)
			slices.Sort(flipped)
			slices.Sort(rotated)
			if !slices.Equal(flipped, rotated) {
				t.Fatalf("from %q flips lead to %q, and rotations to %q", s, flipped, rotated)
			}
		}
	}
}

func TestFlipsBetweenAreRotationDistances(t *testing.T) {
	for n := 2; n <= 7; n++ {
		all := triangulations(n)
		for _, d := range all {
			a, _ := impl.BinaryOfTriangles(n, d)
			ways := waysByHand(a)
			for _, e := range all {
				b, _ := impl.BinaryOfTriangles(n, e)
				got := impl.FlipsBetween(n, d, e)
				if got != len(ways[b])-1 || got != impl.RotationDistance(a, b) || (got == 0) != sameRows(d, e) {
					t.Fatalf("FlipsBetween(%d, %v, %v) = %d, but the rotations are %q", n, d, e, got, ways[b])
				}
			}
		}
	}
	for n := 8; n <= 10; n++ {
		d := triangulations(n)[0]
		e, _ := impl.FlipDiagonal(n, d, 0)
		if impl.FlipsBetween(n, d, d) != -1 || impl.FlipsBetween(n, d, e) != -1 {
			t.Errorf("flips of %d corners: %d and %d", n, impl.FlipsBetween(n, d, d), impl.FlipsBetween(n, d, e))
		}
	}
}

func TestFanOf(t *testing.T) {
	for n := 2; n <= 10; n++ {
		for v := range n {
			got, ok := impl.FanOf(n, v)
			if want := fanByHand(n, v); !ok || !sameRows(got, want) || !impl.IsTriangulation(n, got) {
				t.Errorf("FanOf(%d, %d) = %v, %v, want %v", n, v, got, ok, want)
			}
			apart(t, got)
		}
		for _, v := range append(farNumbers(), -2, -1, n, n+1) {
			if got, ok := impl.FanOf(n, v); len(got) != 0 || ok {
				t.Errorf("FanOf(%d, %d) = %v, %v", n, v, got, ok)
			}
		}
	}
	for _, n := range append(farNumbers(), -2, -1, 0, 1, 11, 12) {
		for _, v := range []int{-1, 0, 1, n - 1} {
			if got, ok := impl.FanOf(n, v); len(got) != 0 || ok {
				t.Errorf("FanOf(%d, %d) = %v, %v", n, v, got, ok)
			}
		}
	}
}

func TestFansAreReachedWithoutDetours(t *testing.T) {
	for n := 2; n <= 10; n++ {
		for i, d := range triangulations(n) {
			// There are many triangulations of 9 and 10 corners: not all are tried.
			if n > 8 && i%10 != 0 {
				continue
			}
			given, check := guardedRows(t, d)
			for v := range n {
				way, ok := impl.FlipsToFan(n, given, v)
				if want := fanWayByHand(n, d, v); !ok || !sameLists(way, want) {
					t.Fatalf("FlipsToFan(%d, %v, %d) = %v, %v, want %v", n, d, v, way, ok, want)
				}
				fan, _ := impl.FanOf(n, v)
				// Each flip brings one diagonal to the corner, and no way could bring more.
				if flips := len(way) - 1; !sameRows(way[flips], fan) || flips != max(n-3, 0)-diagonalsAt(d, v) || n <= 7 && flips != impl.FlipsBetween(n, d, fan) {
					t.Fatalf("from %v to %v it is %v", d, fan, way)
				}
				apartAll(t, way)
			}
			check()
		}
	}
}

func TestFlipsOfATriangleAndALine(t *testing.T) {
	for n := 2; n <= 3; n++ {
		for _, d := range [][][]int{nil, {}} {
			for _, k := range append(farNumbers(), -1, 0, 1, 2) {
				if got, ok := impl.FlipDiagonal(n, d, k); len(got) != 0 || ok {
					t.Errorf("FlipDiagonal(%d, none, %d) = %v, %v", n, k, got, ok)
				}
			}
			if got := impl.FlipsBetween(n, d, nil); got != 0 {
				t.Errorf("%d flips of %d corners", got, n)
			}
			if got, ok := impl.FlipNeighbours(n, d); len(got) != 0 || !ok {
				t.Errorf("FlipNeighbours(%d, none) = %v, %v", n, got, ok)
			}
			for v := range n {
				if fan, ok := impl.FanOf(n, v); len(fan) != 0 || !ok {
					t.Errorf("FanOf(%d, %d) = %v, %v", n, v, fan, ok)
				}
				if way, ok := impl.FlipsToFan(n, d, v); len(way) != 1 || len(way[0]) != 0 || !ok {
					t.Errorf("FlipsToFan(%d, none, %d) = %v, %v", n, v, way, ok)
				}
			}
		}
	}
}

func TestFlipsRefuse(t *testing.T) {
	for _, c := range noTriangulations() {
		for _, k := range []int{-1, 0, 1, c.n - 1} {
			if got, ok := impl.FlipDiagonal(c.n, c.d, k); len(got) != 0 || ok {
				t.Errorf("FlipDiagonal(%d, %v, %d) = %v, %v", c.n, c.d, k, got, ok)
			}
			if way, ok := impl.FlipsToFan(c.n, c.d, k); len(way) != 0 || ok {
				t.Errorf("FlipsToFan(%d, %v, %d) = %v, %v", c.n, c.d, k, way, ok)
			}
		}
		if got, ok := impl.FlipNeighbours(c.n, c.d); len(got) != 0 || ok {
			t.Errorf("FlipNeighbours(%d, %v) = %v, %v", c.n, c.d, got, ok)
		}
		fan, _ := impl.FanOf(c.n, 0)
		if impl.FlipsBetween(c.n, c.d, fan) != -1 || impl.FlipsBetween(c.n, fan, c.d) != -1 || impl.FlipsBetween(c.n, c.d, c.d) != -1 {
			t.Errorf("flips between %v and others of %d corners", c.d, c.n)
		}
	}
	for n := 4; n <= 10; n++ {
		d := triangulations(n)[0]
		for _, k := range append(farNumbers(), -2, -1, n-3, n-2, n) {
			if got, ok := impl.FlipDiagonal(n, d, k); len(got) != 0 || ok {
				t.Errorf("FlipDiagonal(%d, %v, %d) = %v, %v", n, d, k, got, ok)
			}
		}
		for _, v := range append(farNumbers(), -2, -1, n, n+1) {
			if way, ok := impl.FlipsToFan(n, d, v); len(way) != 0 || ok {
				t.Errorf("FlipsToFan(%d, %v, %d) = %v, %v", n, d, v, way, ok)
			}
		}
		// Triangulations of other polygons do not fit.
		for m := 2; m <= 10; m++ {
			if other := triangulations(m)[0]; len(other) != len(d) && (impl.FlipsBetween(n, d, other) != -1 || impl.FlipsBetween(n, other, d) != -1) {
				t.Errorf("flips between %v and %v", d, other)
			}
		}
	}
}

func TestFlipsDoNotChangeTheDiagonals(t *testing.T) {
	for n := 2; n <= 7; n++ {
		all := triangulations(n)
		for i, d := range all {
			first, checkFirst := guardedRows(t, d)
			second, checkSecond := guardedRows(t, all[len(all)-1-i])
			impl.FlipsBetween(n, first, second)
			checkFirst()
			checkSecond()
		}
	}
}
