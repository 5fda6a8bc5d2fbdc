package tests

import (
	"math"
	"slices"
	"strconv"
	"strings"
	"testing"

	"loop.example/g03401/impl"
)

// guarded returns a copy of a list with numbers in its unused capacity, and a check that all of it is still as it was.
func guarded(t *testing.T, l []int) ([]int, func()) {
	t.Helper()
	whole := append(slices.Clone(l), 7001, 7002, 7003)
	before := slices.Clone(whole)
	return whole[:len(l)], func() {
		t.Helper()
		if !slices.Equal(whole, before) {
			t.Errorf("the argument %v has become %v", before, whole)
		}
	}
}

// scribble writes over a list and its unused capacity.
func scribble(l []int) {
	l = l[:cap(l)]
	for i := range l {
		l[i] = -99
	}
}

// listsOf returns all lists of at most n numbers from low to high.
func listsOf(low int, high int, n int) [][]int {
	all := [][]int{nil}
	last := all
	for range n {
		var next [][]int
		for _, l := range last {
			for x := low; x <= high; x++ {
				next = append(next, append(slices.Clone(l), x))
			}
		}
		all = append(all, next...)
		last = next
	}
	return all
}

// lineage returns a vertex and its ancestors.
func lineage(p []int, v int) []int {
	var l []int
	for v >= 0 {
		l = append(l, v)
		v = p[v]
	}
	return l
}

// isPlaneByHand follows the text of the specification.
func isPlaneByHand(p []int) bool {
	if len(p) < 1 || len(p) > 9 || p[0] != -1 {
		return false
	}
	for v := 1; v < len(p); v++ {
		if !slices.Contains(lineage(p, v-1), p[v]) {
			return false
		}
	}
	return true
}

// ascents returns the lists of n numbers that begin with -1 and in which each other one is at least 0 and less than its index.
func ascents(n int) [][]int {
	all := [][]int{{-1}}
	for v := 1; v < n; v++ {
		var next [][]int
		for _, l := range all {
			for x := range v {
				next = append(next, append(slices.Clone(l), x))
			}
		}
		all = next
	}
	return all
}

// planeByHand looks for each u for the last one before it whose pair goes on.
func planeByHand(w string) []int {
	s := parentheses(w)
	p := []int{-1}
	for i := range len(s) {
		if s[i] != '(' {
			continue
		}
		parent := 0
		for j := range i {
			if s[j] == '(' && partner(s, j) > i {
				parent = strings.Count(s[:j+1], "(")
			}
		}
		p = append(p, parent)
	}
	return p
}

// noPlanes returns lists that are no plane trees.
func noPlanes() [][]int {
	return [][]int{
		nil, {}, {0}, {-2}, {1}, {-1, -1}, {-1, 1}, {-1, 2}, {-1, -2}, {0, 0}, {0, -1}, {-1, 0, 2}, {-1, 0, 3}, {-1, 0, -1}, {-1, 0, 0, 1}, {-1, 0, 1, 0, 1}, {-1, 0, 1, 1, 2},
		{math.MinInt}, {math.MaxInt}, {-1, math.MinInt}, {-1, math.MaxInt}, {-1, 0, math.MaxInt}, {-1, 0, math.MinInt, 0}, {-1, 1 << 32}, {1<<32 - 1}, {-1 - 1<<32},
		{-1, 0, 0, 0, 0, 0, 0, 0, 0, 0}, {-1, 0, 1, 2, 3, 4, 5, 6, 7, 8}, append([]int{-1}, make([]int, 1000)...),
		{-1, 0, 1, 2, 3, 4, 5, 6, 7, 9}, {-1, 0, 1, 2, 3, 4, 5, 6, 8}, {-1, 0, 1, 2, 3, 3, 5, 6, 4},
	}
}

func TestIsPlaneOfAllLists(t *testing.T) {
	lists := slices.Concat(listsOf(-2, 5, 5), noPlanes())
	for n := 1; n <= 9; n++ {
		lists = append(lists, ascents(n)...)
	}
	for _, p := range lists {
		if got, want := impl.IsPlane(p), isPlaneByHand(p); got != want {
			t.Fatalf("IsPlane(%v) = %v", p, got)
		}
	}
}

func TestPlanesOfPaths(t *testing.T) {
	for _, w := range allPaths() {
		p, ok := impl.PlaneOf(w)
		if want := planeByHand(w); !ok || !slices.Equal(p, want) {
			t.Fatalf("PlaneOf(%q) = %v, %v, want %v", w, p, ok, want)
		}
		if again, ok := impl.PathOfPlane(p); again != w || !ok {
			t.Fatalf("PathOfPlane(%v) = %q, %v, want %q", p, again, ok, w)
		}
		if !impl.IsPlane(p) {
			t.Errorf("%v is no plane tree", p)
		}
		scribble(p)
		if again, ok := impl.PlaneOf(w); !ok || !slices.Equal(again, planeByHand(w)) {
			t.Fatalf("the result of one call is in the next one: %v", again)
		}
	}
}

func TestPathsOfPlanes(t *testing.T) {
	for n := 1; n <= 9; n++ {
		count := 0
		for _, p := range ascents(n) {
			w, ok := impl.PathOfPlane(p)
			if !isPlaneByHand(p) {
				if w != "" || ok {
					t.Fatalf("PathOfPlane(%v) = %q, %v", p, w, ok)
				}
				continue
			}
			count++
			if again, _ := impl.PlaneOf(w); !ok || !slices.Equal(again, p) {
				t.Fatalf("PathOfPlane(%v) = %q, %v, whose tree is %v", p, w, ok, again)
			}
		}
		if count != impl.CatalanNumber(n-1) {
			t.Errorf("%d plane trees of %d vertices", count, n)
		}
	}
}

func TestPlaneNumbers(t *testing.T) {
	for _, w := range allPaths() {
		p := planeByHand(w)
		var levels []int
		leaves := 0
		for v := range p {
			levels = append(levels, len(lineage(p, v))-1)
			if !slices.Contains(p, v) {
				leaves++
			}
		}
		if got := impl.LevelsOf(p); !slices.Equal(got, levels) {
			t.Errorf("LevelsOf(%v) = %v, want %v", p, got, levels)
		}
		if got := impl.LeavesOf(p); got != leaves {
			t.Errorf("LeavesOf(%v) = %d, want %d", p, got, leaves)
		}
		if w != "" && leaves != impl.PeaksOf(w) {
			t.Errorf("%q has %d peaks, and its tree %d leaves", w, impl.PeaksOf(w), leaves)
		}
	}
}

func TestChildrenOf(t *testing.T) {
	for _, w := range allPaths() {
		p := planeByHand(w)
		for v := range p {
			var children []int
			for c := 1; c < len(p); c++ {
				if p[c] == v {
					children = append(children, c)
				}
			}
			if got := impl.ChildrenOf(p, v); !slices.Equal(got, children) {
				t.Errorf("ChildrenOf(%v, %d) = %v, want %v", p, v, got, children)
			}
		}
		for _, v := range append(farNumbers(), -2, -1, len(p), len(p)+1) {
			if got := impl.ChildrenOf(p, v); len(got) != 0 {
				t.Errorf("ChildrenOf(%v, %d) = %v", p, v, got)
			}
		}
	}
}

// mirroredByHand visits the children of each vertex from the last one to the first one.
func mirroredByHand(p []int) []int {
	var out []int
	var visit func(v int, parent int)
	visit = func(v int, parent int) {
		number := len(out)
		out = append(out, parent)
		for c := len(p) - 1; c > 0; c-- {
			if p[c] == v {
				visit(c, number)
			}
		}
	}
	visit(0, -1)
	return out
}

func TestMirrorPlane(t *testing.T) {
	for _, w := range allPaths() {
		p := planeByHand(w)
		m, ok := impl.MirrorPlane(p)
		if want := mirroredByHand(p); !ok || !slices.Equal(m, want) {
			t.Fatalf("MirrorPlane(%v) = %v, %v, want %v", p, m, ok, want)
		}
		if again, ok := impl.MirrorPlane(m); !ok || !slices.Equal(again, p) {
			t.Errorf("MirrorPlane(%v) = %v, %v, want %v", m, again, ok, p)
		}
	}
}

func TestFormatPlane(t *testing.T) {
	for want, p := range map[string][]int{
		"-1": {-1}, "-1,0": {-1, 0}, "-1,0,0": {-1, 0, 0}, "-1,0,1,0,3": {-1, 0, 1, 0, 3},
		"-1,0,1,2,3,4,5,6,7": {-1, 0, 1, 2, 3, 4, 5, 6, 7}, "-1,0,0,0,0,0,0,0,0": {-1, 0, 0, 0, 0, 0, 0, 0, 0},
	} {
		if got := impl.FormatPlane(p); got != want {
			t.Errorf("FormatPlane(%v) = %q", p, got)
		}
	}
	for _, w := range allPaths() {
		p := planeByHand(w)
		words := strings.Split(impl.FormatPlane(p), ",")
		if len(words) != len(p) {
			t.Fatalf("FormatPlane(%v) has %d words", p, len(words))
		}
		for v, word := range words {
			if word != strconv.Itoa(p[v]) {
				t.Errorf("FormatPlane(%v) has the word %q", p, word)
			}
		}
	}
}

func TestOneVertex(t *testing.T) {
	p, ok := impl.PlaneOf("")
	if !ok || !slices.Equal(p, []int{-1}) {
		t.Fatalf("PlaneOf(%q) = %v, %v", "", p, ok)
	}
	if w, ok := impl.PathOfPlane(p); w != "" || !ok {
		t.Errorf("path %q, %v", w, ok)
	}
	if m, ok := impl.MirrorPlane(p); !ok || !slices.Equal(m, p) {
		t.Errorf("mirrored: %v, %v", m, ok)
	}
	if !impl.IsPlane(p) || impl.LeavesOf(p) != 1 || impl.FormatPlane(p) != "-1" || !slices.Equal(impl.LevelsOf(p), []int{0}) {
		t.Errorf("%d leaves, levels %v, text %q", impl.LeavesOf(p), impl.LevelsOf(p), impl.FormatPlane(p))
	}
	for _, v := range append(farNumbers(), -2, -1, 0, 1, 2) {
		if c := impl.ChildrenOf(p, v); len(c) != 0 {
			t.Errorf("children of %d: %v", v, c)
		}
	}
}

func TestFunctionsRefuseNoPlanes(t *testing.T) {
	for _, w := range noPaths() {
		if p, ok := impl.PlaneOf(w); len(p) != 0 || ok {
			t.Errorf("PlaneOf(%q) = %v, %v", w, p, ok)
		}
	}
	for _, p := range noPlanes() {
		if w, ok := impl.PathOfPlane(p); w != "" || ok {
			t.Errorf("PathOfPlane(%v) = %q, %v", p, w, ok)
		}
		if m, ok := impl.MirrorPlane(p); len(m) != 0 || ok {
			t.Errorf("MirrorPlane(%v) = %v, %v", p, m, ok)
		}
		if l := impl.LevelsOf(p); len(l) != 0 {
			t.Errorf("LevelsOf(%v) = %v", p, l)
		}
		if n := impl.LeavesOf(p); n != 0 {
			t.Errorf("LeavesOf(%v) = %d", p, n)
		}
		if s := impl.FormatPlane(p); s != "" {
			t.Errorf("FormatPlane(%v) = %q", p, s)
		}
		for _, v := range []int{math.MinInt, -2, -1, 0, 1, 2, math.MaxInt} {
			if c := impl.ChildrenOf(p, v); len(c) != 0 {
				t.Errorf("ChildrenOf(%v, %d) = %v", p, v, c)
			}
		}
	}
}

func TestPlanesAreNotChanged(t *testing.T) {
	for _, p := range append(noPlanes(), []int{-1}, []int{-1, 0, 1, 0}, []int{-1, 0, 0, 2, 3, 2, 0, 0, 7}) {
		given, check := guarded(t, p)
		m, _ := impl.MirrorPlane(given)
		scribble(m)
		scribble(impl.LevelsOf(given))
		scribble(impl.ChildrenOf(given, 0))
		impl.IsPlane(given)
		impl.PathOfPlane(given)
		impl.LeavesOf(given)
		impl.FormatPlane(given)
		check()
	}
}
