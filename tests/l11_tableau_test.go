package tests

import (
	"math"
	"slices"
	"strings"
	"testing"

	"loop.example/g03401/impl"
)

// tableaux returns all tableaux of n columns, whose numbers are put into a row one after the other.
func tableaux(n int) [][][]int {
	all := [][][]int{{nil, nil}}
	for number := 1; number <= 2*n; number++ {
		var next [][][]int
		for _, t := range all {
			if len(t[0]) < n {
				next = append(next, [][]int{append(slices.Clone(t[0]), number), t[1]})
			}
			if len(t[1]) < len(t[0]) {
				next = append(next, [][]int{t[0], append(slices.Clone(t[1]), number)})
			}
		}
		all = next
	}
	return all
}

func allTableaux() [][][]int {
	var all [][][]int
	for n := range impl.MaxSize + 1 {
		all = append(all, tableaux(n)...)
	}
	return all
}

func isTableauByHand(t [][]int) bool {
	if len(t) != 2 || len(t[0]) != len(t[1]) || len(t[0]) > 8 {
		return false
	}
	for i := range t[0] {
		if t[0][i] >= t[1][i] || i > 0 && (t[0][i-1] >= t[0][i] || t[1][i-1] >= t[1][i]) {
			return false
		}
	}
	for number := 1; number <= 2*len(t[0]); number++ {
		if !slices.Contains(t[0], number) && !slices.Contains(t[1], number) {
			return false
		}
	}
	return true
}

// tableauByHand puts the place of each letter into its row.
func tableauByHand(w string) [][]int {
	rows := make([][]int, 2)
	for i := range len(w) {
		row := strings.IndexByte("ud", w[i])
		rows[row] = append(rows[row], i+1)
	}
	return rows
}

// promotedByHand looks at the numbers around the hole in a frame that is greater than all of them.
func promotedByHand(t [][]int) [][]int {
	n := len(t[0])
	far := 1000
	frame := [][]int{append(slices.Clone(t[0]), far), append(slices.Clone(t[1]), far), slices.Repeat([]int{far}, n+1)}
	row, column := 0, 0
	for n > 0 && min(frame[row][column+1], frame[row+1][column]) < far {
		if frame[row][column+1] < frame[row+1][column] {
			frame[row][column] = frame[row][column+1]
			column++
		} else {
			frame[row][column] = frame[row+1][column]
			row++
		}
	}
	frame[row][column] = 2*n + 1
	out := [][]int{frame[0][:n], frame[1][:n]}
	for _, l := range out {
		for i := range l {
			l[i]--
		}
	}
	return out
}

// evacuatedByHand turns the tableau by half a circle and counts the numbers from the other end.
func evacuatedByHand(t [][]int) [][]int {
	out := make([][]int, 2)
	for r, row := range t {
		for _, number := range slices.Backward(row) {
			out[1-r] = append(out[1-r], 2*len(row)+1-number)
		}
	}
	return out
}

// noTableaux returns rows that are no tableaux.
func noTableaux() [][][]int {
	var odd, even []int
	for i := range 9 {
		odd, even = append(odd, 2*i+1), append(even, 2*i+2)
	}
	return [][][]int{
		nil, {}, {{}}, {nil}, {{1}}, {{1, 2}}, {{}, {}, {}}, {{1}, {2}, {}}, {{}, {1}, {2}}, {{1}, {2}, {3}}, {{1, 3}, {2, 4}, {}}, {{}, {1}}, {{1}, {}}, {{1, 2}, {3}}, {{1}, {2, 3}}, {{1, 2, 3}, {4}},
		{{2}, {1}}, {{1}, {1}}, {{2}, {2}}, {{0}, {1}}, {{1}, {3}}, {{2}, {3}}, {{1}, {0}}, {{-1}, {2}}, {{1}, {-2}}, {{0}, {0}}, {{0}, {2}}, {{3}, {4}}, {{3}, {2}},
		{{1, 2}, {2, 4}}, {{2, 1}, {3, 4}}, {{1, 2}, {4, 3}}, {{2, 1}, {4, 3}}, {{1, 4}, {2, 3}}, {{2, 3}, {1, 4}}, {{1, 1}, {2, 2}}, {{1, 1}, {3, 4}}, {{1, 3}, {2, 5}}, {{1, 5}, {2, 6}}, {{0, 2}, {1, 3}}, {{1, 2}, {3, 3}}, {{3, 4}, {1, 2}},
		{{math.MinInt}, {2}}, {{math.MaxInt}, {2}}, {{1}, {math.MaxInt}}, {{1}, {math.MinInt}}, {{1<<32 + 1}, {2}}, {{1}, {1<<32 + 2}}, {{1, math.MaxInt}, {2, 4}}, {{1, math.MinInt}, {3, 4}},
		{odd, even}, {odd[:8], even}, {odd, even[:8]}, {odd[:8], even[:7]}, {odd[:7], even[:8]}, {even[:8], odd[:8]}, {odd[:8], odd[1:]}, {even, odd},
		{make([]int, 8), make([]int, 8)}, {make([]int, 100000), make([]int, 100000)}, {{}, make([]int, 100000)}, make([][]int, 3), make([][]int, 100000),
	}
}

func TestIsTableauOfAllRows(t *testing.T) {
	rows := listsOf(-1, 5, 2)
	for _, first := range rows {
		for _, second := range rows {
			x := [][]int{first, second}
			if got, want := impl.IsTableau(x), isTableauByHand(x); got != want {
				t.Fatalf("IsTableau(%v) = %v", x, got)
			}
		}
	}
	// The rows of three columns are permutations, cut in the middle.
	found := 0
	for _, p := range permutations(6) {
		for i := range p {
			p[i]++
		}
		x := [][]int{p[:3], p[3:]}
		got := impl.IsTableau(x)
		if got != isTableauByHand(x) {
			t.Fatalf("IsTableau(%v) = %v", x, got)
		}
		if got {
			found++
		}
	}
	if found != impl.CatalanNumber(3) {
		t.Errorf("%d tableaux of 3 columns", found)
	}
}

func TestTableauxOfPaths(t *testing.T) {
	for _, w := range allPaths() {
		x, ok := impl.TableauOf(w)
		if want := tableauByHand(w); !ok || !sameRows(x, want) {
			t.Fatalf("TableauOf(%q) = %v, %v, want %v", w, x, ok, want)
		}
		if !impl.IsTableau(x) {
			t.Fatalf("TableauOf(%q) = %v is no tableau", w, x)
		}
		if again, ok := impl.PathOfTableau(x); again != w || !ok {
			t.Fatalf("PathOfTableau(%v) = %q, %v, want %q", x, again, ok, w)
		}
		apart(t, x)
		if again, _ := impl.TableauOf(w); !sameRows(again, tableauByHand(w)) {
			t.Fatalf("the result of one call is in the next one: %v", again)
		}
	}
}

func TestPathsOfTableaux(t *testing.T) {
	for n := range impl.MaxSize + 1 {
		all := tableaux(n)
		if len(all) != impl.CatalanNumber(n) {
			t.Fatalf("%d tableaux of %d columns", len(all), n)
		}
		for _, x := range all {
			w, ok := impl.PathOfTableau(x)
			if !ok || !impl.IsTableau(x) || !shrinksToNothing(w) || !sameRows(tableauByHand(w), x) {
				t.Fatalf("PathOfTableau(%v) = %q, %v", x, w, ok)
			}
		}
	}
}

func TestPromoteTableau(t *testing.T) {
	for _, x := range allTableaux() {
		got, ok := impl.PromoteTableau(x)
		if want := promotedByHand(x); !ok || !sameRows(got, want) || !isTableauByHand(got) {
			t.Fatalf("PromoteTableau(%v) = %v, %v, want %v", x, got, ok, want)
		}
		apart(t, got)
	}
}

func TestPromotionTurnsTheMatching(t *testing.T) {
	for _, w := range allPaths()[1:] {
		x, _ := impl.TableauOf(w)
		promoted, _ := impl.PromoteTableau(x)
		path, ok := impl.PathOfTableau(promoted)
		got, _ := impl.MatchingOf(path)
		m, _ := impl.MatchingOf(w)
		if want, _ := impl.TurnMatching(m, 1); !ok || !slices.Equal(got, want) {
			t.Fatalf("the matching of %v is %v, that of %v is %v", x, m, promoted, got)
		}
		if shifted, _ := impl.ShiftBrackets(parentheses(w)); parentheses(path) != shifted {
			t.Fatalf("the brackets of %v are %q, those of %v are %q", x, parentheses(w), promoted, parentheses(path))
		}
	}
}

func TestPromotionGoesRound(t *testing.T) {
	for n := range 7 {
		for _, x := range tableaux(n) {
			turned := x
			for range 2 * n {
				turned, _ = impl.PromoteTableau(turned)
			}
			if !sameRows(turned, x) {
				t.Errorf("%v becomes %v", x, turned)
			}
		}
	}
}

func TestEvacuateTableau(t *testing.T) {
	for _, x := range allTableaux() {
		got, ok := impl.EvacuateTableau(x)
		if want := evacuatedByHand(x); !ok || !sameRows(got, want) {
			t.Fatalf("EvacuateTableau(%v) = %v, %v, want %v", x, got, ok, want)
		}
		w, _ := impl.PathOfTableau(x)
		reversed, _ := impl.ReversePath(w)
		if path, ok := impl.PathOfTableau(got); path != reversed || !ok {
			t.Fatalf("PathOfTableau(%v) = %q, %v, want %q", got, path, ok, reversed)
		}
		if again, ok := impl.EvacuateTableau(got); !ok || !sameRows(again, x) {
			t.Fatalf("EvacuateTableau(%v) = %v, %v, want %v", got, again, ok, x)
		}
		apart(t, got)
	}
}

func TestDescentsOfTableau(t *testing.T) {
	for _, x := range allTableaux() {
		var want []int
		for number := range 17 {
			if slices.Contains(x[0], number) && slices.Contains(x[1], number+1) {
				want = append(want, number)
			}
		}
		got := impl.DescentsOfTableau(x)
		if !slices.Equal(got, want) {
			t.Fatalf("DescentsOfTableau(%v) = %v, want %v", x, got, want)
		}
		if w, _ := impl.PathOfTableau(x); len(got) != impl.PeaksOf(w) {
			t.Errorf("%v has %d descents", x, len(got))
		}
		scribble(got)
	}
}

func TestMajorOf(t *testing.T) {
	for _, w := range allPaths() {
		sum := 0
		for i := 1; i < len(w); i++ {
			if w[i-1:i+1] == "du" {
				sum += i
			}
		}
		if got := impl.MajorOf(w); got != sum {
			t.Fatalf("MajorOf(%q) = %d, want %d", w, got, sum)
		}
	}
	for w, want := range map[string]int{"uuuddd": 0, "uududd": 3, "uuddud": 4, "uduudd": 2, "ududud": 6, "uuuddduudd": 6, "udududududududud": 56} {
		if got := impl.MajorOf(w); got != want {
			t.Errorf("MajorOf(%q) = %d, want %d", w, got, want)
		}
	}
}

func TestNoColumns(t *testing.T) {
	none := [][]int{nil, nil}
	if x, ok := impl.TableauOf(""); !ok || !sameRows(x, none) {
		t.Errorf("TableauOf(\"\") = %v, %v", x, ok)
	}
	for _, x := range [][][]int{none, {{}, {}}, make([][]int, 2), {nil, {}}} {
		if !impl.IsTableau(x) {
			t.Errorf("%v is no tableau", x)
		}
		if w, ok := impl.PathOfTableau(x); w != "" || !ok {
			t.Errorf("PathOfTableau(%v) = %q, %v", x, w, ok)
		}
		if got, ok := impl.PromoteTableau(x); !ok || !sameRows(got, none) {
			t.Errorf("PromoteTableau(%v) = %v, %v", x, got, ok)
		}
		if got, ok := impl.EvacuateTableau(x); !ok || !sameRows(got, none) {
			t.Errorf("EvacuateTableau(%v) = %v, %v", x, got, ok)
		}
		if got := impl.DescentsOfTableau(x); len(got) != 0 {
			t.Errorf("DescentsOfTableau(%v) = %v", x, got)
		}
	}
	if got := impl.MajorOf(""); got != 0 {
		t.Errorf("MajorOf(\"\") = %d", got)
	}
}

func TestFunctionsRefuseNoTableaux(t *testing.T) {
	for _, w := range noPaths() {
		if x, ok := impl.TableauOf(w); len(x) != 0 || ok {
			t.Errorf("TableauOf(%q) = %v, %v", w, x, ok)
		}
		if got := impl.MajorOf(w); got != -1 {
			t.Errorf("MajorOf(%q) = %d", w, got)
		}
	}
	for i, x := range noTableaux() {
		if impl.IsTableau(x) {
			t.Errorf("rows %d are a tableau", i)
		}
		if w, ok := impl.PathOfTableau(x); w != "" || ok {
			t.Errorf("PathOfTableau of rows %d is %q, %v", i, w, ok)
		}
		if got, ok := impl.PromoteTableau(x); len(got) != 0 || ok {
			t.Errorf("PromoteTableau of rows %d is %v, %v", i, got, ok)
		}
		if got, ok := impl.EvacuateTableau(x); len(got) != 0 || ok {
			t.Errorf("EvacuateTableau of rows %d is %v, %v", i, got, ok)
		}
		if got := impl.DescentsOfTableau(x); len(got) != 0 {
			t.Errorf("DescentsOfTableau of rows %d is %v", i, got)
		}
	}
}

func TestTableauxAreNotChanged(t *testing.T) {
	for _, x := range slices.Concat(tableaux(0), tableaux(1), tableaux(3), tableaux(4), noTableaux()[:50]) {
		given, check := guardedRows(t, x)
		impl.IsTableau(given)
		impl.PathOfTableau(given)
		scribble(impl.DescentsOfTableau(given))
		for _, change := range []func([][]int) ([][]int, bool){impl.PromoteTableau, impl.EvacuateTableau} {
			got, _ := change(given)
			for _, row := range got {
				scribble(row)
			}
			clear(got[:cap(got)])
		}
		check()
	}
}
