package tests

import (
	"math"
	"slices"
	"strings"
	"testing"

	"loop.example/g03401/impl"
)

// between reports whether v is one of the corners passed on the way up from a to b.
func between(a int, v int, b int) bool {
	return min(a, b) < v && v < max(a, b)
}

// crossByHand reports whether two diagonals cross: neither ends where the other one does, and each has one end on either side of the other.
func crossByHand(c []int, d []int) bool {
	if slices.Contains(c, d[0]) || slices.Contains(c, d[1]) {
		return false
	}
	return between(c[0], d[0], c[1]) != between(c[0], d[1], c[1])
}

// diagonalsOf returns all diagonals in lexicographic order.
func diagonalsOf(n int) [][]int {
	var all [][]int
	for a := range n {
		for b := a + 1; b < n; b++ {
			if b != a+1 && (a+n-b)%n != 1 {
				all = append(all, []int{a, b})
			}
		}
	}
	return all
}

// triangulations picks all greatest sets of diagonals that do not cross, in order.
func triangulations(n int) [][][]int {
	var all [][][]int
	var pick func(chosen [][]int, rest [][]int)
	pick = func(chosen [][]int, rest [][]int) {
		if len(chosen) == max(n-3, 0) {
			all = append(all, slices.Clone(chosen))
			return
		}
		for i, d := range rest {
			if !slices.ContainsFunc(chosen, func(c []int) bool { return crossByHand(c, d) }) {
				pick(append(slices.Clone(chosen), d), rest[i+1:])
			}
		}
	}
	pick(nil, diagonalsOf(n))
	return all
}

// isTriangulationByHand follows the text of the specification.
func isTriangulationByHand(n int, d [][]int) bool {
	if n < 2 || n > 10 || len(d) != max(n-3, 0) {
		return false
	}
	for i, c := range d {
		if !slices.ContainsFunc(diagonalsOf(n), func(e []int) bool { return slices.Equal(c, e) }) {
			return false
		}
		for _, e := range d[:i] {
			if crossByHand(c, e) || slices.Compare(e, c) >= 0 {
				return false
			}
		}
	}
	return true
}

func sameRows(a [][]int, b [][]int) bool {
	return slices.EqualFunc(a, b, slices.Equal[[]int])
}

func copyRows(l [][]int) [][]int {
	var out [][]int
	for _, row := range l {
		out = append(out, slices.Clone(row))
	}
	return out
}

// guardedRows is guarded for a list of lists: the rows lie in one piece of memory, with numbers behind each one.
func guardedRows(t *testing.T, l [][]int) ([][]int, func()) {
	t.Helper()
	var memory []int
	for _, row := range l {
		memory = append(append(memory, row...), 7001)
	}
	rows := make([][]int, len(l), len(l)+1)
	at := 0
	for i, row := range l {
		rows[i] = memory[at : at+len(row)]
		at += len(row) + 1
	}
	before := slices.Clone(memory)
	return rows, func() {
		t.Helper()
		if !slices.Equal(memory, before) || !sameRows(rows, l) || rows[:cap(rows)][len(l)] != nil {
			t.Errorf("the argument %v has become %v", l, rows)
		}
	}
}

// apart writes over the rows of a result, one after the other, and checks that this changes no other row.
func apart(t *testing.T, l [][]int) {
	t.Helper()
	for i := range l {
		others := copyRows(slices.Concat(l[:i], l[i+1:]))
		scribble(l[i])
		if !sameRows(slices.Concat(l[:i], l[i+1:]), others) {
			t.Errorf("row %d shares memory with another row of %v", i, l)
		}
	}
	rows := l[:cap(l)]
	clear(rows)
}

// partsByHand cuts a node into its parts.
func partsByHand(t string) (string, string) {
	for i := 2; i < len(t); i++ {
		if shrinksToLeaf(t[1:i]) {
			return t[1:i], t[i : len(t)-1]
		}
	}
	panic("no node: " + t)
}

// trianglesByHand returns the triangles of a tree between two corners in lexicographic order.
func trianglesByHand(t string, from int, to int) [][]int {
	if t == "." {
		return nil
	}
	left, right := partsByHand(t)
	third := from + 1 + strings.Count(left, "(")
	l := slices.Concat([][]int{{from, third, to}}, trianglesByHand(left, from, third), trianglesByHand(right, third, to))
	slices.SortFunc(l, slices.Compare[[]int])
	return l
}

// longSides returns for a list of triangles their sides that are diagonals.
func longSides(n int, triangles [][]int) [][]int {
	var l [][]int
	for _, c := range diagonalsOf(n) {
		if slices.ContainsFunc(triangles, func(t []int) bool { return slices.Contains(t, c[0]) && slices.Contains(t, c[1]) }) {
			l = append(l, c)
		}
	}
	return l
}

func TestIsTriangulationOfAllLists(t *testing.T) {
	for n := 2; n <= 10; n++ {
		all := triangulations(n)
		if len(all) != impl.CatalanNumber(n-2) {
			t.Fatalf("%d triangulations of %d corners", len(all), n)
		}
		for _, d := range all {
			if !impl.IsTriangulation(n, d) {
				t.Fatalf("IsTriangulation(%d, %v) is false", n, d)
			}
		}
	}
	for n := -1; n <= 5; n++ {
		pairs := listsOf(-1, 5, 2)
		for _, choice := range listsOf(0, len(pairs)-1, 2) {
			var d [][]int
			for _, i := range choice {
				d = append(d, pairs[i])
			}
			if got, want := impl.IsTriangulation(n, d), isTriangulationByHand(n, d); got != want {
				t.Fatalf("IsTriangulation(%d, %v) = %v", n, d, got)
			}
		}
	}
	sides := append(diagonalsOf(6), []int{0, 1}, []int{4, 5}, []int{0, 5}, []int{2, 0})
	for _, choice := range listsOf(0, len(sides)-1, 3) {
		var d [][]int
		for _, i := range choice {
			d = append(d, sides[i])
		}
		if got, want := impl.IsTriangulation(6, d), isTriangulationByHand(6, d); got != want {
			t.Fatalf("IsTriangulation(6, %v) = %v", d, got)
		}
	}
}

// noTriangulation has a number of corners and diagonals that do not triangulate the polygon.
type noTriangulation struct {
	n int
	d [][]int
}

func noTriangulations() []noTriangulation {
	l := []noTriangulation{
		{3, [][]int{{0, 2}}}, {3, [][]int{{}}}, {2, [][]int{{0, 1}}}, {2, [][]int{nil}}, {4, nil}, {4, [][]int{}}, {4, [][]int{nil}}, {4, [][]int{{0}}}, {4, [][]int{{0, 2, 3}}},
		{4, [][]int{{0, 2}, {1, 3}}}, {4, [][]int{{2, 0}}}, {4, [][]int{{0, 1}}}, {4, [][]int{{0, 3}}}, {4, [][]int{{1, 1}}}, {4, [][]int{{0, 4}}}, {4, [][]int{{-1, 2}}}, {4, [][]int{{-2, 0}}},
		{4, [][]int{{math.MinInt, 2}}}, {4, [][]int{{0, math.MaxInt}}}, {4, [][]int{{math.MinInt, math.MaxInt}}}, {4, [][]int{{1, 1<<32 + 3}}},
		{5, [][]int{{1, 3}, {0, 3}}}, {5, [][]int{{0, 3}, {0, 2}}}, {5, [][]int{{0, 2}, {0, 2}}}, {5, [][]int{{0, 2}, {1, 3}}}, {5, [][]int{{0, 2}}}, {5, [][]int{{0, 2}, {0, 3}, {0, 4}}}, {5, [][]int{{0, 2}, {0, 4}}},
		{6, [][]int{{0, 2}, {0, 3}, {1, 4}}}, {6, [][]int{{0, 2}, {2, 4}, {2, 4}}}, {10, make([][]int, 7)},
		{11, [][]int{{0, 2}, {0, 3}, {0, 4}, {0, 5}, {0, 6}, {0, 7}, {0, 8}, {0, 9}}},
		{12, [][]int{{0, 2}, {0, 3}, {0, 4}, {0, 5}, {0, 6}, {0, 7}, {0, 8}, {0, 9}, {0, 10}}},
		{10, make([][]int, 100000)}, {100003, make([][]int, 100000)},
	}
	for _, n := range append(farNumbers(), -2, -1, 0, 1, 11) {
		l = append(l, noTriangulation{n, nil}, noTriangulation{n, [][]int{{0, 2}}})
	}
	return l
}

func TestTriangulationsOfTrees(t *testing.T) {
	for nodes, trees := range treesBySize(impl.MaxSize) {
		n := nodes + 2
		for _, s := range trees {
			want := longSides(n, trianglesByHand(s, 0, n-1))
			d, ok := impl.TriangulationOf(s)
			if !ok || !sameRows(d, want) {
				t.Fatalf("TriangulationOf(%q) = %v, %v, want %v", s, d, ok, want)
			}
			if again, ok := impl.BinaryOfTriangles(n, d); again != s || !ok {
				t.Fatalf("BinaryOfTriangles(%d, %v) = %q, %v, want %q", n, d, again, ok, s)
			}
			apart(t, d)
			if again, _ := impl.TriangulationOf(s); !sameRows(again, want) {
				t.Fatalf("the result of one call is in the next one: %v", again)
			}
		}
	}
}

func TestTreesOfTriangulations(t *testing.T) {
	for n := 2; n <= 10; n++ {
		for _, d := range triangulations(n) {
			s, ok := impl.BinaryOfTriangles(n, d)
			if !ok || !shrinksToLeaf(s) {
				t.Fatalf("BinaryOfTriangles(%d, %v) = %q, %v", n, d, s, ok)
			}
			if again, ok := impl.TriangulationOf(s); !ok || !sameRows(again, d) {
				t.Fatalf("TriangulationOf(%q) = %v, %v, want %v", s, again, ok, d)
			}
		}
	}
}

func TestTrianglesOf(t *testing.T) {
	for nodes, trees := range treesBySize(impl.MaxSize) {
		n := nodes + 2
		for _, s := range trees {
			want := trianglesByHand(s, 0, n-1)
			got, ok := impl.TrianglesOf(n, longSides(n, want))
			if !ok || !sameRows(got, want) || len(got) != nodes {
				t.Fatalf("TrianglesOf(%d, %v) = %v, %v, want %v", n, longSides(n, want), got, ok, want)
			}
			apart(t, got)
		}
	}
}

// turnedByHand picks from all diagonals those that come from a diagonal of d.
func turnedByHand(n int, d [][]int, k int) [][]int {
	var l [][]int
	for _, e := range diagonalsOf(n) {
		for _, c := range d {
			if a, b := (c[0]+k)%n, (c[1]+k)%n; a == e[0] && b == e[1] || a == e[1] && b == e[0] {
				l = append(l, e)
			}
		}
	}
	return l
}

func TestTurnPolygon(t *testing.T) {
	for n := 2; n <= 10; n++ {
		for _, d := range triangulations(n) {
			for k := range n {
				got, ok := impl.TurnPolygon(n, d, k)
				if want := turnedByHand(n, d, k); !ok || !sameRows(got, want) {
					t.Fatalf("TurnPolygon(%d, %v, %d) = %v, %v, want %v", n, d, k, got, ok, want)
				}
				if !impl.IsTriangulation(n, got) {
					t.Fatalf("%v is no triangulation", got)
				}
				apart(t, got)
			}
		}
		d := triangulations(n)[0]
		for _, k := range append(farNumbers(), -2, -1, n, n+1, 2*n) {
			if got, ok := impl.TurnPolygon(n, d, k); len(got) != 0 || ok {
				t.Errorf("TurnPolygon(%d, %v, %d) = %v, %v", n, d, k, got, ok)
			}
		}
	}
}

func TestEarsOf(t *testing.T) {
	for n := 2; n <= 10; n++ {
		for _, d := range triangulations(n) {
			var want []int
			for v := range n {
				if !slices.Contains(slices.Concat(d...), v) {
					want = append(want, v)
				}
			}
			got := impl.EarsOf(n, d)
			if !slices.Equal(got, want) {
				t.Fatalf("EarsOf(%d, %v) = %v, want %v", n, d, got, want)
			}
			scribble(got)
		}
	}
}

func TestTriangleAndLine(t *testing.T) {
	for n, s := range map[int]string{2: ".", 3: "(..)"} {
		if d, ok := impl.TriangulationOf(s); len(d) != 0 || !ok {
			t.Errorf("TriangulationOf(%q) = %v, %v", s, d, ok)
		}
		for _, d := range [][][]int{nil, {}} {
			if !impl.IsTriangulation(n, d) {
				t.Errorf("no diagonals are no triangulation of %d corners", n)
			}
			if got, ok := impl.BinaryOfTriangles(n, d); got != s || !ok {
				t.Errorf("BinaryOfTriangles(%d) = %q, %v", n, got, ok)
			}
			if got := impl.EarsOf(n, d); !slices.Equal(got, []int{0, 1, 2}[:n]) {
				t.Errorf("EarsOf(%d) = %v", n, got)
			}
			for k := range n {
				if got, ok := impl.TurnPolygon(n, d, k); len(got) != 0 || !ok {
					t.Errorf("TurnPolygon(%d, none, %d) = %v, %v", n, k, got, ok)
				}
			}
			if _, ok := impl.TurnPolygon(n, d, n); ok {
				t.Errorf("a polygon of %d corners is turned by %d", n, n)
			}
		}
	}
	if l, ok := impl.TrianglesOf(3, nil); !ok || !sameRows(l, [][]int{{0, 1, 2}}) {
		t.Errorf("triangles of a triangle: %v, %v", l, ok)
	}
	if l, ok := impl.TrianglesOf(2, nil); len(l) != 0 || !ok {
		t.Errorf("triangles of a line: %v, %v", l, ok)
	}
}

func TestFormatDiagonals(t *testing.T) {
	var many [][]int
	for i := range 20 {
		many = append(many, []int{i % 10, i / 10})
	}
	for _, c := range []struct {
		want string
		d    [][]int
	}{
		{"none", nil}, {"none", [][]int{}}, {"02", [][]int{{0, 2}}}, {"03 13", [][]int{{0, 3}, {1, 3}}}, {"13 03 13", [][]int{{1, 3}, {0, 3}, {1, 3}}}, {"90 09 55", [][]int{{9, 0}, {0, 9}, {5, 5}}},
		{"00 10 20 30 40 50 60 70 80 90 01 11 21 31 41 51 61 71 81 91", many}, {"", append(slices.Clone(many), []int{0, 1})}, {"", make([][]int, 21)},
		{"", [][]int{nil}}, {"", [][]int{{}}}, {"", [][]int{{0}}}, {"", [][]int{{0, 1, 2}}}, {"", [][]int{{0, 10}}}, {"", [][]int{{10, 0}}}, {"", [][]int{{-1, 0}}}, {"", [][]int{{0, -1}}},
		{"", [][]int{{0, 2}, {0}}}, {"", [][]int{{0, 2}, {0, 3}, {3, 10}}}, {"", [][]int{{math.MinInt, 0}}}, {"", [][]int{{0, math.MaxInt}}}, {"", [][]int{{1 << 32, 1}}}, {"", make([][]int, 100000)},
	} {
		given, check := guardedRows(t, c.d)
		if got := impl.FormatDiagonals(given); got != c.want {
			t.Errorf("FormatDiagonals(%v) = %q, want %q", c.d[:min(len(c.d), 30)], got, c.want)
		}
		check()
	}
	for n := 4; n <= 10; n++ {
		for _, d := range triangulations(n) {
			words := strings.Split(impl.FormatDiagonals(d), " ")
			if len(words) != len(d) {
				t.Fatalf("FormatDiagonals(%v) has %d words", d, len(words))
			}
			for i, word := range words {
				if word != string([]byte{'0' + byte(d[i][0]), '0' + byte(d[i][1])}) {
					t.Errorf("FormatDiagonals(%v) has the word %q", d, word)
				}
			}
		}
	}
}

func TestFunctionsRefuseNoTriangulations(t *testing.T) {
	for _, s := range noTrees() {
		if d, ok := impl.TriangulationOf(s); len(d) != 0 || ok {
			t.Errorf("TriangulationOf(%q) = %v, %v", s[:min(len(s), 40)], d, ok)
		}
	}
	for _, c := range noTriangulations() {
		if impl.IsTriangulation(c.n, c.d) {
			t.Errorf("IsTriangulation(%d, %v)", c.n, c.d)
		}
		if s, ok := impl.BinaryOfTriangles(c.n, c.d); s != "" || ok {
			t.Errorf("BinaryOfTriangles(%d, %v) = %q, %v", c.n, c.d, s, ok)
		}
		if l, ok := impl.TrianglesOf(c.n, c.d); len(l) != 0 || ok {
			t.Errorf("TrianglesOf(%d, %v) = %v, %v", c.n, c.d, l, ok)
		}
		if l := impl.EarsOf(c.n, c.d); len(l) != 0 {
			t.Errorf("EarsOf(%d, %v) = %v", c.n, c.d, l)
		}
		for _, k := range []int{math.MinInt, -1, 0, 1, c.n - 1, math.MaxInt} {
			if l, ok := impl.TurnPolygon(c.n, c.d, k); len(l) != 0 || ok {
				t.Errorf("TurnPolygon(%d, %v, %d) = %v, %v", c.n, c.d, k, l, ok)
			}
		}
	}
}

func TestDiagonalsAreNotChanged(t *testing.T) {
	use := func(n int, d [][]int) {
		given, check := guardedRows(t, d)
		impl.IsTriangulation(n, given)
		impl.BinaryOfTriangles(n, given)
		l, _ := impl.TrianglesOf(n, given)
		apart(t, l)
		for _, k := range []int{0, 1} {
			l, _ = impl.TurnPolygon(n, given, k)
			apart(t, l)
		}
		scribble(impl.EarsOf(n, given))
		check()
	}
	for n := 2; n <= 7; n++ {
		for _, d := range triangulations(n) {
			use(n, d)
		}
	}
	use(5, [][]int{{1, 3}, {0, 3}})
	use(5, [][]int{{3, 1}, {3}})
}
