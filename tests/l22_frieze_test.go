package tests

import (
	"fmt"
	"math"
	"slices"
	"testing"

	"loop.example/g03401/impl"
)

// trianglesWith picks the triangles whose sides are all sides or diagonals.
func trianglesWith(n int, d [][]int) [][]int {
	joined := func(a int, b int) bool {
		return b == a+1 || a == 0 && b == n-1 || slices.ContainsFunc(d, func(c []int) bool { return slices.Equal(c, []int{a, b}) })
	}
	var l [][]int
	for c := range n {
		for b := range c {
			for a := range b {
				if joined(a, b) && joined(b, c) && joined(a, c) {
					l = append(l, []int{a, b, c})
				}
			}
		}
	}
	return l
}

func quiddityByHand(n int, d [][]int) []int {
	var q []int
	for v := range n {
		q = append(q, 1+diagonalsAt(d, v))
	}
	return q
}

// choicesByHand counts the ways to choose for each of some corners one of its triangles, each triangle at most once.
func choicesByHand(corners []int, triangles [][]int) int {
	if len(corners) == 0 {
		return 1
	}
	count := 0
	for i, triangle := range triangles {
		if slices.Contains(triangle, corners[0]) {
			count += choicesByHand(corners[1:], slices.Concat(triangles[:i], triangles[i+1:]))
		}
	}
	return count
}

// entryByHand is the label by the theorem of Broline, Crowe and Isaacs.
func entryByHand(triangles [][]int, a int, b int) int {
	if a == b {
		return 0
	}
	var corners []int
	for v := min(a, b) + 1; v < max(a, b); v++ {
		corners = append(corners, v)
	}
	return choicesByHand(corners, triangles)
}

// isFriezeByHand follows the text of the specification.
func isFriezeByHand(f [][]int) bool {
	n := len(f) - 1
	if n < 3 || n > 10 {
		return false
	}
	for r, row := range f {
		if len(row) != n {
			return false
		}
		for _, x := range row {
			if edge := min(r, n-r); edge == 0 && x != 0 || edge == 1 && x != 1 || edge > 1 && (x < 1 || x > 100000) {
				return false
			}
		}
	}
	for r := 1; r < n; r++ {
		for i := range n {
			j := (i + 1) % n
			if f[r][i]*f[r][j]-f[r-1][j]*f[r+1][i] != 1 {
				return false
			}
		}
	}
	return true
}

// quidditiesByHand returns for the text of each quiddity its triangulation.
func quidditiesByHand(n int) map[string][][]int {
	m := map[string][][]int{}
	for _, d := range triangulations(n) {
		m[fmt.Sprint(quiddityByHand(n, d))] = d
	}
	return m
}

// badRows returns lists that are not the third row of a frieze.
func badRows() [][]int {
	l := [][]int{
		nil, {}, {1}, {1, 1}, {2, 2}, {1, 1, 1, 1}, {2, 2, 2}, {1, 1, 2}, {0, 1, 1}, {1, 1, 0}, {-1, -1, -1}, {1, 2, 2, 1}, {2, 1, 1, 2}, {0, 0, 0, 0}, {2, 2, 2, 2}, {1, 0, 2, 1}, {3, 1, 1, 3, 1}, {1, 3, 1, 3, 1, 3, 1, 3},
		{100, 100, 100}, {100, 1, 100, 1}, {101, 1, 1}, {1, 101, 1, 101}, {math.MaxInt, math.MaxInt, math.MaxInt}, {math.MinInt, 1, 1}, {1, 1, 1 << 32}, {1 + 1<<32, 1, 1}, {1, math.MinInt, 1, math.MaxInt},
		{1, 2, 1, 2, 1}, {2, 2, 1, 3}, {2, 2, 1, 3, 1, 1}, {1, 2, 2, 2, 2, 2, 2, 2, 2, 1, 9}, {1, 2, 2, 2, 2, 2, 2, 2, 2, 2, 1, 10}, make([]int, 100000), slices.Repeat([]int{1}, 100000), slices.Repeat([]int{2}, 1000),
	}
	for n := 3; n <= 11; n++ {
		for _, x := range []int{-1, 0, 2, 3, 10, 99, 100, 101, math.MaxInt, math.MinInt, 3037000500} {
			// Equal numbers are those of a triangle only, and these are not all 1.
			l = append(l, slices.Repeat([]int{x}, n), append(slices.Repeat([]int{x}, n-1), 1))
		}
	}
	return l
}

func TestQuiddityOfAllTriangulations(t *testing.T) {
	for n := 3; n <= 10; n++ {
		for _, d := range triangulations(n) {
			given, check := guardedRows(t, d)
			q := impl.QuiddityOf(n, given)
			check()
			want := quiddityByHand(n, d)
			if !slices.Equal(q, want) {
				t.Fatalf("QuiddityOf(%d, %v) = %v, want %v", n, d, q, want)
			}
			if !impl.IsQuiddity(q) {
				t.Fatalf("%v is no quiddity", q)
			}
			numbers, checkNumbers := guarded(t, want)
			back, ok := impl.TriangulationOfQuiddity(numbers)
			if !ok || !sameRows(back, d) {
				t.Fatalf("TriangulationOfQuiddity(%v) = %v, %v, want %v", want, back, ok, d)
			}
			apart(t, back)
			impl.IsQuiddity(numbers)
			checkNumbers()
			scribble(q)
		}
	}
}

func TestFriezesBelongToTriangulations(t *testing.T) {
	for n := 3; n <= 10; n++ {
		for _, d := range triangulations(n) {
			q := quiddityByHand(n, d)
			given, check := guarded(t, q)
			f, ok := impl.FriezeOf(given)
			if !ok || !isFriezeByHand(f) || !slices.Equal(f[2], q) {
				t.Fatalf("FriezeOf(%v) = %v, %v", q, f, ok)
			}
			rows, checkRows := guardedRows(t, f)
			if !impl.IsFrieze(rows) {
				t.Fatalf("%v is no frieze", f)
			}
			sum := 0
			for _, x := range slices.Concat(f...) {
				sum += x
			}
			if got := impl.SumOfFrieze(rows); got != sum {
				t.Fatalf("SumOfFrieze(%v) = %d, want %d", f, got, sum)
			}
			checkRows()
			apart(t, f)
			check()
		}
	}
}

func TestLabelsCountTheNumbersOfFriezes(t *testing.T) {
	for n := 3; n <= 10; n++ {
		for i, d := range triangulations(n) {
			// There are many triangulations of 9 and 10 corners: not all are tried.
			if n > 8 && i%20 != 0 {
				continue
			}
			triangles := trianglesWith(n, d)
			f, _ := impl.FriezeOf(quiddityByHand(n, d))
			given, check := guardedRows(t, d)
			for a := range n {
				for b := range n {
					got := impl.FriezeEntry(n, given, a, b)
					if want := entryByHand(triangles, a, b); got != want {
						t.Fatalf("FriezeEntry(%d, %v, %d, %d) = %d, want %d", n, d, a, b, got, want)
					}
					// The third row has the label of the next corner but one.
					if row := f[(b-a+n)%n]; row[(a+1)%n] != got {
						t.Fatalf("FriezeEntry(%d, %v, %d, %d) = %d, but the frieze is %v", n, d, a, b, got, f)
					}
				}
			}
			check()
		}
	}
}

func TestQuidditiesOfAllLists(t *testing.T) {
	check := func(q []int, known map[string][][]int) {
		t.Helper()
		d, valid := known[fmt.Sprint(q)]
		if got := impl.IsQuiddity(q); got != valid {
			t.Fatalf("IsQuiddity(%v) = %v", q, got)
		}
		if got, ok := impl.TriangulationOfQuiddity(q); ok != valid || !sameRows(got, d) {
			t.Fatalf("TriangulationOfQuiddity(%v) = %v, %v, want %v", q, got, ok, d)
		}
		if f, ok := impl.FriezeOf(q); ok != valid || ok != isFriezeByHand(f) || !ok && len(f) != 0 {
			t.Fatalf("FriezeOf(%v) = %v, %v", q, f, ok)
		}
	}
	all := map[string][][]int{}
	for n := 3; n <= 10; n++ {
		quiddities := quidditiesByHand(n)
		if len(quiddities) != impl.CatalanNumber(n-2) {
			t.Fatalf("%d quiddities of %d corners", len(quiddities), n)
		}
		for text, d := range quiddities {
			all[text] = d
		}
	}
	for _, q := range slices.Concat(listsOf(-1, 4, 5), listsOf(1, 4, 7)) {
		check(q, all)
	}
	for n := 3; n <= 10; n++ {
		for i, d := range triangulations(n) {
			if n > 8 && i%10 != 0 {
				continue
			}
			for _, near := range nearLists(quiddityByHand(n, d)) {
				check(near, all)
			}
		}
	}
	for _, q := range badRows() {
		check(q, all)
	}
}

// nearFriezes returns the tables that come from a frieze by changing one number, or by leaving out or doubling a row or a column.
func nearFriezes(f [][]int) [][][]int {
	var all [][][]int
	for r := range f {
		for i := range f[r] {
			for _, change := range []int{-1, 1, 100000, 1 << 32, math.MaxInt, math.MinInt} {
				near := copyRows(f)
				near[r][i] += change
				all = append(all, near)
			}
		}
		shorter := copyRows(f)
		shorter[r] = shorter[r][1:]
		longer := copyRows(f)
		longer[r] = append(longer[r], longer[r][0])
		turned := copyRows(f)
		turned[r] = append(turned[r][1:], turned[r][0])
		without := slices.Delete(copyRows(f), r, r+1)
		doubled := slices.Insert(copyRows(f), r, slices.Clone(f[r]))
		all = append(all, shorter, longer, turned, without, doubled)
	}
	upsideDown := copyRows(f)
	slices.Reverse(upsideDown)
	return append(all, upsideDown, f[1:], f[:len(f)-1], append(copyRows(f), f[0]))
}

func TestIsFriezeOfTablesNearFriezes(t *testing.T) {
	valid, invalid := 0, 0
	for n := 3; n <= 8; n++ {
		for _, d := range triangulations(n) {
			f, _ := impl.FriezeOf(quiddityByHand(n, d))
			for _, near := range nearFriezes(f) {
				want := isFriezeByHand(near)
				if got := impl.IsFrieze(near); got != want {
					t.Fatalf("IsFrieze(%v) = %v", near, got)
				}
				if got := impl.SumOfFrieze(near); (got == -1) == want {
					t.Fatalf("SumOfFrieze(%v) = %d", near, got)
				}
				if want {
					valid++
				} else {
					invalid++
				}
			}
		}
	}
	if valid == 0 || invalid == 0 {
		t.Errorf("%d friezes, %d others", valid, invalid)
	}
}

func TestIsFriezeOfAllSmallTables(t *testing.T) {
	// The rows of zeros and ones are those of a frieze, so that only the numbers between them decide.
	found := map[int]int{}
	for _, q := range listsOf(0, 4, 4) {
		n := len(q)
		f := [][]int{make([]int, n), slices.Repeat([]int{1}, n), q, slices.Repeat([]int{1}, n), make([]int, n)}
		if got, want := impl.IsFrieze(f), isFriezeByHand(f); got != want {
			t.Fatalf("IsFrieze(%v) = %v", f, got)
		} else if got {
			found[n]++
		}
	}
	if len(found) != 1 || found[4] != 2 {
		t.Errorf("friezes by their numbers in a row: %v", found)
	}
}

func TestThreeOnes(t *testing.T) {
	ones := []int{1, 1, 1}
	want := [][]int{{0, 0, 0}, {1, 1, 1}, {1, 1, 1}, {0, 0, 0}}
	if f, ok := impl.FriezeOf(ones); !ok || !sameRows(f, want) {
		t.Errorf("FriezeOf(%v) = %v, %v", ones, f, ok)
	}
	if !impl.IsFrieze(want) || impl.SumOfFrieze(want) != 6 || !impl.IsQuiddity(ones) {
		t.Errorf("%v: %v, %d, %v", ones, impl.IsFrieze(want), impl.SumOfFrieze(want), impl.IsQuiddity(ones))
	}
	if d, ok := impl.TriangulationOfQuiddity(ones); len(d) != 0 || !ok {
		t.Errorf("TriangulationOfQuiddity(%v) = %v, %v", ones, d, ok)
	}
	for _, d := range [][][]int{nil, {}} {
		if q := impl.QuiddityOf(3, d); !slices.Equal(q, ones) {
			t.Errorf("QuiddityOf(3, none) = %v", q)
		}
		for a := range 3 {
			for b := range 3 {
				label := 1
				if a == b {
					label = 0
				}
				if got := impl.FriezeEntry(3, d, a, b); got != label {
					t.Errorf("FriezeEntry(3, none, %d, %d) = %d", a, b, got)
				}
			}
		}
	}
}

func TestFriezesRefuse(t *testing.T) {
	for _, c := range append(noTriangulations(), noTriangulation{2, nil}) {
		if q := impl.QuiddityOf(c.n, c.d); len(q) != 0 {
			t.Errorf("QuiddityOf(%d, %v) = %v", c.n, c.d, q)
		}
		for _, v := range []int{-1, 0, 1, 2, c.n - 1} {
			if got := impl.FriezeEntry(c.n, c.d, v, 0); got != -1 {
				t.Errorf("FriezeEntry(%d, %v, %d, 0) = %d", c.n, c.d, v, got)
			}
		}
	}
	for n := 3; n <= 10; n++ {
		d := triangulations(n)[0]
		for _, v := range append(farNumbers(), -2, -1, n, n+1) {
			if impl.FriezeEntry(n, d, v, 0) != -1 || impl.FriezeEntry(n, d, 0, v) != -1 || impl.FriezeEntry(n, d, v, v) != -1 {
				t.Errorf("the label of the corner %d of %d", v, n)
			}
		}
	}
	for _, q := range badRows() {
		n := len(q)
		tables := [][][]int{{q}, {q, q}, {q, q, q}, {nil, nil, q}, {make([]int, n), slices.Repeat([]int{1}, n), q}, {make([]int, n), slices.Repeat([]int{1}, n), q, make([]int, n)}}
		for _, f := range tables {
			if impl.IsFrieze(f) || impl.SumOfFrieze(f) != -1 {
				t.Errorf("a table with the third row %v is a frieze with the sum %d", q[:min(n, 12)], impl.SumOfFrieze(f))
			}
		}
	}
	for _, f := range [][][]int{nil, {}, {nil}, {nil, nil}, {nil, nil, nil}, {nil, nil, nil, nil}, {{0}, {1}}, {{0, 0}, {1, 1}, {0, 0}}, make([][]int, 100000), slices.Repeat([][]int{{1, 1, 1}}, 100000)} {
		if impl.IsFrieze(f) || impl.SumOfFrieze(f) != -1 {
			t.Errorf("%v is a frieze with the sum %d", f[:min(len(f), 5)], impl.SumOfFrieze(f))
		}
	}
}
