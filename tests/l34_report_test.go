package tests

import (
	"fmt"
	"slices"
	"strings"
	"testing"

	"loop.example/g03401/impl"
)

func TestPathLinesOfAllPaths(t *testing.T) {
	for size, placed := range placedBySize(impl.MaxSize) {
		for _, o := range placed {
			want := fmt.Sprintf("path %d rank %d", size, o.place)
			for _, name := range statisticNames() {
				want += fmt.Sprintf(" %s %d", name, statisticByHand(name, o.path))
			}
			if got := impl.PathLine(o.path); got != want {
				t.Fatalf("PathLine(%q) = %q, want %q", o.path, got, want)
			}
		}
	}
}

func TestKindsLinesOfAllPaths(t *testing.T) {
	for _, o := range slices.Concat(placedBySize(impl.MaxSize)...) {
		want := "kinds"
		for _, kind := range kindNames() {
			want += " " + kind + " [" + o.textByHand(kind) + "]"
		}
		if got := impl.KindsLine(o.path); got != want {
			t.Fatalf("KindsLine(%q) = %q, want %q", o.path, got, want)
		}
	}
}

func TestTreeLinesOfAllTrees(t *testing.T) {
	for n, trees := range treesBySize(impl.MaxSize) {
		for _, s := range trees {
			neighbours := neighboursByHand(s)
			right := len(slices.DeleteFunc(slices.Clone(neighbours), func(next string) bool { return !lessByWeights(s, next) }))
			mirror := ""
			for _, letter := range strings.Split(s, "") {
				mirror = map[string]string{"(": ")", ")": "(", ".": "."}[letter] + mirror
			}
			want := fmt.Sprintf("tree %s nodes %d height %d weights %s up %d neighbours %d mirror %s", s, n, slices.Max(levelsByHand(s)), commas(weightsByHand(s)), right, len(neighbours), mirror)
			if got := impl.TreeLine(s); got != want {
				t.Fatalf("TreeLine(%q) = %q, want %q", s, got, want)
			}
		}
	}
}

func TestPairLinesOfAllPairs(t *testing.T) {
	for n, trees := range treesBySize(5) {
		l := tamariOf(n)
		for _, a := range trees {
			ways := waysByHand(a)
			for _, b := range trees {
				between := 0
				for _, s := range trees {
					if l.less(a, s) && l.less(s, b) {
						between++
					}
				}
				meet, join := l.bounds(a, b)
				want := fmt.Sprintf("pair meet %s join %s common %d distance %d between %d", meet, join, commonByHand(a, b), len(ways[b])-1, between)
				if got := impl.PairLine(a, b); got != want {
					t.Fatalf("PairLine(%q, %q) = %q, want %q", a, b, got, want)
				}
			}
		}
	}
}

// bounds returns the greatest lower bound and the least upper bound of two trees.
func (l tamari) bounds(a string, b string) (string, string) {
	meet, join := "", ""
	for _, s := range l.trees {
		if l.less(s, a) && l.less(s, b) && (meet == "" || l.less(meet, s)) {
			meet = s
		}
		if l.less(a, s) && l.less(b, s) && (join == "" || l.less(s, join)) {
			join = s
		}
	}
	return meet, join
}

func TestPairLinesOfGreatTrees(t *testing.T) {
	for n, trees := range treesBySize(impl.MaxSize) {
		if n < 6 {
			continue
		}
		for i, a := range trees {
			b := trees[(5*i+n)%len(trees)]
			meet, _ := impl.TamariMeet(a, b)
			join, _ := impl.TamariJoin(a, b)
			want := fmt.Sprintf("pair meet %s join %s common %d", meet, join, commonByHand(a, b))
			if got := impl.PairLine(a, b); got != want {
				t.Fatalf("PairLine(%q, %q) = %q, want %q", a, b, got, want)
			}
		}
	}
	if got, want := impl.PairLine("((((((..).).).).).)", "(.(.(.(.(.(..))))))"), "pair meet ((((((..).).).).).) join (.(.(.(.(.(..)))))) common 0"; got != want {
		t.Errorf("the line of the combs of six nodes is %q, want %q", got, want)
	}
}

func TestCountLines(t *testing.T) {
	for n, want := range []string{
		"size 0 catalan 1 motzkin 1 schroeder 1 ternary 1 parking 1 intervals 1 loops 1",
		"size 1 catalan 1 motzkin 1 schroeder 2 ternary 1 parking 1 intervals 1 loops 0,1",
		"size 2 catalan 2 motzkin 2 schroeder 6 ternary 3 parking 3 intervals 3 loops 0,2,2",
		"size 3 catalan 5 motzkin 4 schroeder 22 ternary 12 parking 16 intervals 13 loops 0,8,12,5",
		"size 4 catalan 14 motzkin 9 schroeder 90 ternary 55 parking 125 intervals 68 loops 0,42,84,56,14",
		"size 5 catalan 42 motzkin 21 schroeder 394 ternary 273 parking 1296 intervals 399 loops 0,262,640,580,240,42",
	} {
		if got := impl.CountLine(n); got != want {
			t.Errorf("CountLine(%d) = %q, want %q", n, got, want)
		}
	}
	for _, n := range append(farNumbers(), -2, -1, 6, 7, 8, 9) {
		if got := impl.CountLine(n); got != "" {
			t.Errorf("CountLine(%d) = %q", n, got)
		}
	}
}

func TestFriezeLinesOfAllTriangulations(t *testing.T) {
	for n := 3; n <= 10; n++ {
		for _, d := range triangulations(n) {
			// In row r stand the labels of the corners that are r places apart.
			triangles := trianglesWith(n, d)
			var rows []string
			sum := 0
			for r := 1; r < n; r++ {
				var row []int
				for corner := range n {
					row = append(row, entryByHand(triangles, (corner+n-1)%n, (corner+n-1+r)%n))
					sum += row[corner]
				}
				rows = append(rows, commas(row))
			}
			q := quiddityByHand(n, d)
			want := fmt.Sprintf("frieze %s sum %d", strings.Join(rows, " "), sum)
			given, check := guarded(t, q)
			if got := impl.FriezeLine(given); got != want {
				t.Fatalf("FriezeLine(%v) = %q, want %q", q, got, want)
			}
			check()
		}
	}
	if got, want := impl.FriezeLine([]int{1, 1, 1}), "frieze 1,1,1 1,1,1 sum 6"; got != want {
		t.Errorf("the line of a triangle is %q, want %q", got, want)
	}
	for _, q := range badRows() {
		if got := impl.FriezeLine(q); got != "" {
			t.Errorf("FriezeLine(%v) = %q", q[:min(len(q), 20)], got)
		}
	}
}

func TestSieveLinesOfAllFamilies(t *testing.T) {
	for _, f := range kindsOfTurns() {
		for n := 1; n <= 5; n++ {
			p, _ := impl.CatalanPolynomial(n)
			var fixed, orbits []int
			seen := map[string]bool{}
			for k := range f.order(n) {
				count := 0
				for _, w := range pathsBySize(n)[n] {
					if turns := f.turnsByHand(w); slices.Equal(turns[0], turns[k]) {
						count++
					}
				}
				fixed = append(fixed, count)
			}
			for _, w := range pathsBySize(n)[n] {
				size := 0
				for _, object := range f.turnsByHand(w) {
					if !seen[fmt.Sprint(object)] {
						size++
					}
					seen[fmt.Sprint(object)] = true
				}
				if size > 0 {
					orbits = append(orbits, size)
				}
			}
			want := fmt.Sprintf("sieve %s fixed %s orbits %s holds", commas(p), commas(fixed), commas(orbits))
			if got := impl.SieveLine(f.name, n); got != want {
				t.Errorf("SieveLine(%q, %d) = %q, want %q", f.name, n, got, want)
			}
		}
		for _, n := range append(farNumbers(), -2, -1, 0, 6, 7, 8) {
			if got := impl.SieveLine(f.name, n); got != "" {
				t.Errorf("SieveLine(%q, %d) = %q", f.name, n, got)
			}
		}
	}
	for _, name := range noFamilies() {
		for n := -1; n <= 6; n++ {
			if got := impl.SieveLine(name, n); got != "" {
				t.Errorf("SieveLine(%.20q, %d) = %q", name, n, got)
			}
		}
	}
}

func TestLinesOfSizeZero(t *testing.T) {
	for want, got := range map[string]string{
		"path 0 rank 0 peaks 0 returns 0 rise 0 area 0 depth 0 leaves 1 blocks 0 major 0 fall 0":                                     impl.PathLine(""),
		"kinds path [] brackets [] plane [-1] binary [.] diagonals [2: none] partition [] matching [none] permutation [] rank [0:0]": impl.KindsLine(""),
		"tree . nodes 0 height 0 weights none up 0 neighbours 0 mirror .":                                                            impl.TreeLine("."),
		"pair meet . join . common 0 distance 0 between 1":                                                                           impl.PairLine(".", "."),
	} {
		if got != want {
			t.Errorf("%q, want %q", got, want)
		}
	}
}

func TestReportsRefuse(t *testing.T) {
	for _, w := range noPaths() {
		if got := impl.PathLine(w); got != "" {
			t.Errorf("PathLine(%.40q) = %q", w, got)
		}
		if got := impl.KindsLine(w); got != "" {
			t.Errorf("KindsLine(%.40q) = %q", w, got)
		}
	}
	by := treesBySize(impl.MaxSize)
	for _, s := range noTrees() {
		if got := impl.TreeLine(s); got != "" {
			t.Errorf("TreeLine(%.40q) = %q", s, got)
		}
		for _, other := range []string{s, ".", "(..)", by[5][7], by[8][77], "ud", ""} {
			if got := impl.PairLine(s, other) + impl.PairLine(other, s); got != "" {
				t.Errorf("PairLine(%.40q, %.40q) = %q", s, other, got)
			}
		}
	}
	for m, first := range by {
		for n, second := range by {
			if got := impl.PairLine(first[len(first)/2], second[0]); (got == "") != (m != n) {
				t.Errorf("PairLine of trees with %d and %d nodes is %q", m, n, got)
			}
		}
	}
}
