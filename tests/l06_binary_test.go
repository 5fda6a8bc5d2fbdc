package tests

import (
	"fmt"
	"math"
	"slices"
	"strings"
	"testing"

	"loop.example/g03401/impl"
)

// treesBySize returns the binary trees with 0 to n nodes.
func treesBySize(n int) [][]string {
	by := [][]string{{"."}}
	for nodes := 1; nodes <= n; nodes++ {
		var l []string
		for left := range nodes {
			for _, a := range by[left] {
				for _, b := range by[nodes-1-left] {
					l = append(l, "("+a+b+")")
				}
			}
		}
		by = append(by, l)
	}
	return by
}

func allTrees() []string {
	return slices.Concat(treesBySize(impl.MaxSize)...)
}

// shrinksToLeaf reports whether t is a binary tree of any size: a node with two leaves may be replaced by a leaf.
func shrinksToLeaf(t string) bool {
	for strings.Contains(t, "(..)") {
		t = strings.ReplaceAll(t, "(..)", ".")
	}
	return t == "."
}

// pathByHand writes u for each node and d for each leaf but the last one.
func pathByHand(t string) string {
	w := strings.NewReplacer("(", "u", ".", "d", ")", "").Replace(t)
	return w[:len(w)-1]
}

// levelsByHand counts the parentheses that are open before each leaf.
func levelsByHand(t string) []int {
	var l []int
	for i := range len(t) {
		if t[i] == '.' {
			l = append(l, strings.Count(t[:i], "(")-strings.Count(t[:i], ")"))
		}
	}
	return l
}

// noTrees returns texts that are no binary trees, and trees beyond MaxSize.
func noTrees() []string {
	return []string{
		"", " ", "x", "..", "...", "()", "(.)", "(...)", "(....)", "(..", "..)", "(..))", "((..)", "(", ")", ")(", "(..).", ".(..)", "(..)(..)", "((..))", "(.(.))", "(.,.)", "(. .)", " .", ". ", "(..) ", "(..)\n", "[..]",
		"\x00", ".\x00", "\xff", "(.\xff)", "(.\u2024)", "（..）", "(..)\xff", "(.x)", "(x.)", "(..x)", "(x..)", "ud",
		strings.Repeat("(.", 9) + "." + strings.Repeat(")", 9), strings.Repeat("(", 9) + "." + strings.Repeat(".)", 9), "((((..)(..))((..)(..)))(.(..)))",
		strings.Repeat("(", 8) + "." + strings.Repeat(".)", 8) + ")", strings.Repeat("(", 8) + "." + strings.Repeat(".)", 8) + ".", strings.Repeat("(", 8) + "." + strings.Repeat(".)", 7) + "..",
		strings.Repeat("(", 25), strings.Repeat("(.", 12) + ".", strings.Repeat("(.", 1<<16), strings.Repeat("(", 1<<20), strings.Repeat(".", 1<<16),
		strings.Repeat("(", 30000) + "." + strings.Repeat(".)", 30000),
	}
}

func TestIsBinaryOfAllTexts(t *testing.T) {
	for _, s := range slices.Concat(shortStrings("(.)", 10), shortStrings("(.)x\xff", 6)) {
		if got, want := impl.IsBinary(s), shrinksToLeaf(s); got != want {
			t.Fatalf("IsBinary(%q) = %v", s, got)
		}
	}
	for n, trees := range treesBySize(impl.MaxSize + 1) {
		if len(trees) != impl.CatalanNumber(n) {
			t.Fatalf("%d trees with %d nodes", len(trees), n)
		}
		for _, s := range trees {
			if got, want := impl.IsBinary(s), n <= 8; got != want {
				t.Fatalf("IsBinary(%q) = %v", s, got)
			}
		}
	}
}

func TestBinariesAndPathsCorrespond(t *testing.T) {
	for _, s := range allTrees() {
		w := pathByHand(s)
		if got, ok := impl.PathOfBinary(s); got != w || !ok {
			t.Fatalf("PathOfBinary(%q) = %q, %v, want %q", s, got, ok, w)
		}
		if got, ok := impl.BinaryOf(w); got != s || !ok {
			t.Fatalf("BinaryOf(%q) = %q, %v, want %q", w, got, ok, s)
		}
	}
	for _, w := range allPaths() {
		s, ok := impl.BinaryOf(w)
		if !ok || !shrinksToLeaf(s) || pathByHand(s) != w {
			t.Fatalf("BinaryOf(%q) = %q, %v", w, s, ok)
		}
	}
}

func TestBinaryOfFirstReturn(t *testing.T) {
	for _, w := range allPaths()[1:] {
		a, b, _ := impl.FirstReturn(w)
		left, _ := impl.BinaryOf(a)
		right, _ := impl.BinaryOf(b)
		whole, _ := impl.BinaryOf(w)
		if x, y, ok := impl.PartsOfBinary(whole); x != left || y != right || !ok {
			t.Fatalf("the parts of %q are %q, %q, %v, want %q and %q", whole, x, y, ok, left, right)
		}
	}
}

func TestBinaryNumbers(t *testing.T) {
	for n, trees := range treesBySize(impl.MaxSize) {
		for _, s := range trees {
			levels := levelsByHand(s)
			if got := impl.NodesOf(s); got != n {
				t.Errorf("NodesOf(%q) = %d", s, got)
			}
			if got := impl.LeafLevels(s); !slices.Equal(got, levels) {
				t.Errorf("LeafLevels(%q) = %v, want %v", s, got, levels)
			}
			if got, want := impl.HeightOf(s), slices.Max(levels); got != want {
				t.Errorf("HeightOf(%q) = %d, want %d", s, got, want)
			}
		}
	}
}

func TestMirrorBinary(t *testing.T) {
	for _, s := range allTrees() {
		// A mirrored text is read backwards.
		want := []byte(strings.NewReplacer("(", ")", ")", "(").Replace(s))
		slices.Reverse(want)
		if got, ok := impl.MirrorBinary(s); got != string(want) || !ok {
			t.Fatalf("MirrorBinary(%q) = %q, %v, want %q", s, got, ok, want)
		}
	}
}

func TestBinaryOfLevelsInvertsLeafLevels(t *testing.T) {
	for _, s := range allTrees() {
		given, check := guarded(t, levelsByHand(s))
		if got, ok := impl.BinaryOfLevels(given); got != s || !ok {
			t.Fatalf("BinaryOfLevels(%v) = %q, %v, want %q", given, got, ok, s)
		}
		check()
		scribble(impl.LeafLevels(s))
		if got := impl.LeafLevels(s); !slices.Equal(got, given) {
			t.Fatalf("the result of one call is in the next one: %v", got)
		}
	}
}

// levelTexts returns for each list of levels its tree.
func levelTexts() map[string]string {
	m := map[string]string{}
	for _, s := range allTrees() {
		m[fmt.Sprint(levelsByHand(s))] = s
	}
	return m
}

func TestBinaryOfLevelsOfAllLists(t *testing.T) {
	trees := levelTexts()
	check := func(l []int) {
		t.Helper()
		want, valid := trees[fmt.Sprint(l)]
		if got, ok := impl.BinaryOfLevels(l); got != want || ok != valid {
			t.Fatalf("BinaryOfLevels(%v) = %q, %v, want %q", l, got, ok, want)
		}
	}
	for _, l := range listsOf(-1, 4, 6) {
		check(l)
	}
	for _, s := range allTrees() {
		l := levelsByHand(s)
		check(l[1:])
		check(append(l, 0))
		check(append(l, l[len(l)-1]))
		for _, near := range nearLists(l) {
			check(near)
		}
	}
}

// nearLists returns the lists that come from a list by changing, leaving out or doubling one number.
func nearLists(l []int) [][]int {
	var all [][]int
	for i := range l {
		for _, change := range []int{-2, -1, 1, 2, 8, 256, 1 << 32, math.MinInt, math.MaxInt} {
			near := slices.Clone(l)
			near[i] += change
			all = append(all, near)
		}
		all = append(all, slices.Delete(slices.Clone(l), i, i+1), slices.Insert(slices.Clone(l), i, l[i]))
	}
	return all
}

func TestBinaryOfLevelsRefuses(t *testing.T) {
	for _, l := range [][]int{
		nil, {}, {1}, {-1}, {0, 0}, {1, 1, 1}, {2, 2}, {1, 2}, {2, 1, 1}, {1, 2, 1}, {2, 1}, {math.MaxInt}, {math.MinInt}, {math.MaxInt, math.MaxInt}, {1, math.MaxInt}, {math.MaxInt, 1}, {1, 1 << 32}, {8}, {9}, {9, 9},
		// Trees with more nodes than MaxSize: a comb, and one of no great height.
		{1, 2, 3, 4, 5, 6, 7, 8, 9, 9}, {9, 9, 8, 7, 6, 5, 4, 3, 2, 1}, {3, 3, 3, 3, 3, 3, 3, 4, 5, 5},
		slices.Repeat([]int{4}, 16), slices.Repeat([]int{8}, 256), slices.Repeat([]int{16}, 1<<16), slices.Repeat([]int{1}, 1<<16), make([]int, 1000),
	} {
		if s, ok := impl.BinaryOfLevels(l); s != "" || ok {
			t.Errorf("BinaryOfLevels of %d levels = %q, %v", len(l), s, ok)
		}
	}
}

func TestLeaf(t *testing.T) {
	if s, ok := impl.BinaryOf(""); s != "." || !ok {
		t.Errorf("BinaryOf(%q) = %q, %v", "", s, ok)
	}
	if w, ok := impl.PathOfBinary("."); w != "" || !ok {
		t.Errorf("path %q, %v", w, ok)
	}
	if a, b, ok := impl.PartsOfBinary("."); a != "" || b != "" || ok {
		t.Errorf("parts %q, %q, %v", a, b, ok)
	}
	if m, ok := impl.MirrorBinary("."); m != "." || !ok {
		t.Errorf("mirrored: %q, %v", m, ok)
	}
	if !impl.IsBinary(".") || impl.NodesOf(".") != 0 || impl.HeightOf(".") != 0 || !slices.Equal(impl.LeafLevels("."), []int{0}) {
		t.Errorf("%d nodes, height %d, levels %v", impl.NodesOf("."), impl.HeightOf("."), impl.LeafLevels("."))
	}
	if s, ok := impl.BinaryOfLevels([]int{0}); s != "." || !ok {
		t.Errorf("BinaryOfLevels(0) = %q, %v", s, ok)
	}
}

func TestFunctionsRefuseNoTrees(t *testing.T) {
	for _, w := range noPaths() {
		if s, ok := impl.BinaryOf(w); s != "" || ok {
			t.Errorf("BinaryOf(%q) = %q, %v", w, s, ok)
		}
	}
	for _, s := range noTrees() {
		name := s[:min(len(s), 40)]
		if impl.IsBinary(s) || impl.NodesOf(s) != -1 || impl.HeightOf(s) != -1 {
			t.Errorf("%q: %v, %d nodes, height %d", name, impl.IsBinary(s), impl.NodesOf(s), impl.HeightOf(s))
		}
		if w, ok := impl.PathOfBinary(s); w != "" || ok {
			t.Errorf("PathOfBinary(%q) = %q, %v", name, w, ok)
		}
		if a, b, ok := impl.PartsOfBinary(s); a != "" || b != "" || ok {
			t.Errorf("PartsOfBinary(%q) = %q, %q, %v", name, a, b, ok)
		}
		if m, ok := impl.MirrorBinary(s); m != "" || ok {
			t.Errorf("MirrorBinary(%q) = %q, %v", name, m, ok)
		}
		if l := impl.LeafLevels(s); len(l) != 0 {
			t.Errorf("LeafLevels(%q) = %v", name, l)
		}
	}
}
