package tests

import (
	"fmt"
	"math"
	"slices"
	"strings"
	"testing"

	"loop.example/g03401/impl"
)

// insideByHand hands the tree of node v to a function, and returns the tree with the result in its place; empty if there is no such node or the result is empty.
func insideByHand(t string, v int, change func(t string) string) string {
	if t == "." {
		return ""
	}
	left, right := partsByHand(t)
	before := strings.Count(left, "(")
	if v == before {
		return change(t)
	}
	inside := ""
	if v < before {
		inside = insideByHand(left, v, change)
		left = inside
	} else {
		inside = insideByHand(right, v-before-1, change)
		right = inside
	}
	if inside == "" {
		return ""
	}
	return "(" + left + right + ")"
}

func rightByHand(t string, v int) string {
	return insideByHand(t, v, func(t string) string {
		inner, c := partsByHand(t)
		if inner == "." {
			return ""
		}
		a, b := partsByHand(inner)
		return "(" + a + "(" + b + c + "))"
	})
}

func leftByHand(t string, v int) string {
	return insideByHand(t, v, func(t string) string {
		a, inner := partsByHand(t)
		if inner == "." {
			return ""
		}
		b, c := partsByHand(inner)
		return "((" + a + b + ")" + c + ")"
	})
}

// weightsByHand follows the order of the nodes.
func weightsByHand(t string) []int {
	if t == "." {
		return nil
	}
	left, right := partsByHand(t)
	return slices.Concat(weightsByHand(left), []int{strings.Count(right, "(")}, weightsByHand(right))
}

// nodesByHand returns the trees of all nodes in order.
func nodesByHand(t string) []string {
	if t == "." {
		return nil
	}
	left, right := partsByHand(t)
	return slices.Concat(nodesByHand(left), []string{t}, nodesByHand(right))
}

func TestRotationsOfAllTrees(t *testing.T) {
	for n, trees := range treesBySize(impl.MaxSize) {
		for _, s := range trees {
			for v := -1; v <= n+1; v++ {
				right, left, at := "", "", ""
				if 0 <= v && v < n {
					right, left, at = rightByHand(s, v), leftByHand(s, v), nodesByHand(s)[v]
				}
				if got, ok := impl.RotateRight(s, v); got != right || ok != (right != "") {
					t.Fatalf("RotateRight(%q, %d) = %q, %v, want %q", s, v, got, ok, right)
				}
				if got, ok := impl.RotateLeft(s, v); got != left || ok != (left != "") {
					t.Fatalf("RotateLeft(%q, %d) = %q, %v, want %q", s, v, got, ok, left)
				}
				if got, ok := impl.NodeAt(s, v); got != at || ok != (at != "") {
					t.Fatalf("NodeAt(%q, %d) = %q, %v, want %q", s, v, got, ok, at)
				}
			}
		}
	}
}

func TestRotationsAreUndone(t *testing.T) {
	for n, trees := range treesBySize(impl.MaxSize) {
		for _, s := range trees {
			for v := range n {
				if right, ok := impl.RotateRight(s, v); ok {
					// The first node of the left part has become the upper one. The nodes of the part b come between it and node v.
					before, _ := impl.NodeAt(s, v)
					inner, _, _ := impl.PartsOfBinary(before)
					_, between, _ := impl.PartsOfBinary(inner)
					if back, ok := impl.RotateLeft(right, v-1-impl.NodesOf(between)); back != s || !ok {
						t.Fatalf("%q becomes %q and then %q, %v", s, right, back, ok)
					}
				}
				if left, ok := impl.RotateLeft(s, v); ok {
					before, _ := impl.NodeAt(s, v)
					_, inner, _ := impl.PartsOfBinary(before)
					between, _, _ := impl.PartsOfBinary(inner)
					if back, ok := impl.RotateRight(left, v+1+impl.NodesOf(between)); back != s || !ok {
						t.Fatalf("%q becomes %q and then %q, %v", s, left, back, ok)
					}
				}
			}
		}
	}
}

func TestNeighboursOf(t *testing.T) {
	for n, trees := range treesBySize(impl.MaxSize) {
		for _, s := range trees {
			var right, left []string
			for v := range n {
				if r := rightByHand(s, v); r != "" {
					right = append(right, r)
				}
				if l := leftByHand(s, v); l != "" {
					left = append(left, l)
				}
			}
			got := impl.NeighboursOf(s)
			if want := slices.Concat(right, left); !slices.Equal(got, want) || len(got) != max(n-1, 0) {
				t.Fatalf("NeighboursOf(%q) = %q, want %q", s, got, want)
			}
			if count := impl.CountRight(s); count != len(right) {
				t.Fatalf("CountRight(%q) = %d, want %d", s, count, len(right))
			}
			for _, other := range got {
				if !slices.Contains(impl.NeighboursOf(other), s) {
					t.Fatalf("%q is no neighbour of %q", s, other)
				}
			}
		}
	}
}

func TestCombs(t *testing.T) {
	right, left := ".", "."
	for n := range 9 {
		if got, ok := impl.RightComb(n); got != right || !ok {
			t.Errorf("RightComb(%d) = %q, %v, want %q", n, got, ok, right)
		}
		if got, ok := impl.LeftComb(n); got != left || !ok {
			t.Errorf("LeftComb(%d) = %q, %v, want %q", n, got, ok, left)
		}
		if impl.CountRight(left) != max(n-1, 0) || impl.CountRight(right) != 0 {
			t.Errorf("%d and %d rotations to the right", impl.CountRight(left), impl.CountRight(right))
		}
		right, left = "(."+right+")", "("+left+".)"
	}
	for _, n := range append(farNumbers(), -2, -1, 9, 10) {
		if got, ok := impl.RightComb(n); got != "" || ok {
			t.Errorf("RightComb(%d) = %q, %v", n, got, ok)
		}
		if got, ok := impl.LeftComb(n); got != "" || ok {
			t.Errorf("LeftComb(%d) = %q, %v", n, got, ok)
		}
	}
}

func TestWeightsGiveTreesBack(t *testing.T) {
	for _, s := range allTrees() {
		want := weightsByHand(s)
		got := impl.WeightsOf(s)
		if !slices.Equal(got, want) {
			t.Fatalf("WeightsOf(%q) = %v, want %v", s, got, want)
		}
		given, check := guarded(t, got)
		if back, ok := impl.BinaryOfWeights(given); back != s || !ok {
			t.Fatalf("BinaryOfWeights(%v) = %q, %v, want %q", given, back, ok, s)
		}
		check()
		scribble(got)
		if again := impl.WeightsOf(s); !slices.Equal(again, want) {
			t.Fatalf("the result of one call is in the next one: %v", again)
		}
	}
}

func TestBinaryOfWeightsOfAllLists(t *testing.T) {
	trees := map[string]string{}
	for _, s := range allTrees() {
		trees[fmt.Sprint(weightsByHand(s))] = s
	}
	check := func(l []int) {
		t.Helper()
		want, valid := trees[fmt.Sprint(l)]
		if got, ok := impl.BinaryOfWeights(l); got != want || ok != valid {
			t.Fatalf("BinaryOfWeights(%v) = %q, %v, want %q", l, got, ok, want)
		}
	}
	for _, l := range listsOf(-1, 5, 5) {
		check(l)
	}
	for _, s := range allTrees() {
		l := weightsByHand(s)
		for _, near := range nearLists(l) {
			check(near)
		}
		for i := range l {
			// Beyond MaxSize there is no tree, also for weights that one would have.
			check(slices.Insert(slices.Clone(l), i, 0))
			check(slices.Insert(slices.Clone(l), i, l[i]+1))
		}
	}
	for _, l := range [][]int{make([]int, 9), {8, 7, 6, 5, 4, 3, 2, 1, 0}, make([]int, 100000), {math.MaxInt}, {math.MinInt}, {math.MaxInt, 0}, {0, math.MaxInt}, {0, math.MinInt}} {
		if s, ok := impl.BinaryOfWeights(l); s != "" || ok {
			t.Errorf("BinaryOfWeights of %d weights = %q, %v", len(l), s, ok)
		}
	}
}

// refuseRotations checks that neither rotation succeeds.
func refuseRotations(t *testing.T, s string, v int) {
	t.Helper()
	name := s[:min(len(s), 40)]
	if got, ok := impl.RotateRight(s, v); got != "" || ok {
		t.Errorf("RotateRight(%q, %d) = %q, %v", name, v, got, ok)
	}
	if got, ok := impl.RotateLeft(s, v); got != "" || ok {
		t.Errorf("RotateLeft(%q, %d) = %q, %v", name, v, got, ok)
	}
}

func refuseNode(t *testing.T, s string, v int) {
	t.Helper()
	if got, ok := impl.NodeAt(s, v); got != "" || ok {
		t.Errorf("NodeAt(%q, %d) = %q, %v", s[:min(len(s), 40)], v, got, ok)
	}
}

func TestTreesOfOneNodeAndOfNone(t *testing.T) {
	for n, s := range []string{".", "(..)"} {
		for _, v := range append(farNumbers(), -2, -1, 0, 1, 2) {
			refuseRotations(t, s, v)
			if n == 0 || v != 0 {
				refuseNode(t, s, v)
			}
		}
		if impl.CountRight(s) != 0 || len(impl.NeighboursOf(s)) != 0 {
			t.Errorf("%q has %d rotations and the neighbours %q", s, impl.CountRight(s), impl.NeighboursOf(s))
		}
		weights := make([]int, n)
		if got := impl.WeightsOf(s); !slices.Equal(got, weights) {
			t.Errorf("WeightsOf(%q) = %v", s, got)
		}
		if got, ok := impl.BinaryOfWeights(weights); got != s || !ok {
			t.Errorf("BinaryOfWeights(%v) = %q, %v", weights, got, ok)
		}
	}
	if s, ok := impl.NodeAt("(..)", 0); s != "(..)" || !ok {
		t.Errorf("NodeAt(\"(..)\", 0) = %q, %v", s, ok)
	}
	if s, ok := impl.BinaryOfWeights(nil); s != "." || !ok {
		t.Errorf("BinaryOfWeights of no weights = %q, %v", s, ok)
	}
}

func TestRotationsRefuse(t *testing.T) {
	for _, s := range noTrees() {
		for _, v := range append(farNumbers(), -1, 0, 1, 4, 8) {
			refuseRotations(t, s, v)
			refuseNode(t, s, v)
		}
		if impl.CountRight(s) != -1 || len(impl.NeighboursOf(s)) != 0 || len(impl.WeightsOf(s)) != 0 {
			t.Errorf("%q has %d rotations, the neighbours %q and the weights %v", s[:min(len(s), 40)], impl.CountRight(s), impl.NeighboursOf(s), impl.WeightsOf(s))
		}
	}
	for _, s := range treesBySize(4)[4] {
		for _, v := range append(farNumbers(), -4, -1, 4, 5, 8) {
			refuseRotations(t, s, v)
			refuseNode(t, s, v)
		}
	}
}
