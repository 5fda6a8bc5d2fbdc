package tests

import (
	"math"
	"slices"
	"testing"

	"loop.example/g03401/impl"
)

// diagrams returns the diagrams with n strands in the order of their paths.
func diagrams(n int) [][]int {
	var all [][]int
	for _, w := range pathsBySize(n)[n] {
		all = append(all, matchingByHand(w))
	}
	return all
}

// place is a point of one of several diagrams.
type place struct {
	diagram, point int
}

// partsOfTies returns the parts that hang together if each place is tied to some others.
func partsOfTies(ties map[place][]place) [][]place {
	var parts [][]place
	found := map[place]bool{}
	for begin := range ties {
		if found[begin] {
			continue
		}
		part := []place{begin}
		found[begin] = true
		for i := 0; i < len(part); i++ {
			for _, next := range ties[part[i]] {
				if !found[next] {
					found[next] = true
					part = append(part, next)
				}
			}
		}
		parts = append(parts, part)
	}
	return parts
}

// stackedByHand ties the points of two diagrams together: what hangs together has two outer ends, or is a loop.
func stackedByHand(a []int, b []int) ([]int, int) {
	n := len(a) / 2
	ties := map[place][]place{}
	for i := range 2 * n {
		ties[place{0, i}] = append(ties[place{0, i}], place{0, a[i]})
		ties[place{1, i}] = append(ties[place{1, i}], place{1, b[i]})
	}
	for left := range n {
		below, above := place{0, 2*n - 1 - left}, place{1, left}
		ties[below] = append(ties[below], above)
		ties[above] = append(ties[above], below)
	}
	product, loops := make([]int, 2*n), 0
	for _, part := range partsOfTies(ties) {
		var ends []int
		for _, p := range part {
			if len(ties[p]) == 1 {
				ends = append(ends, p.point)
			}
		}
		if len(ends) == 0 {
			loops++
			continue
		}
		product[ends[0]], product[ends[1]] = ends[1], ends[0]
	}
	return product, loops
}

// loopsByHand ties the points of two matchings together by the arcs of both.
func loopsByHand(a []int, b []int) int {
	ties := map[place][]place{}
	for i := range a {
		ties[place{0, i}] = []place{{0, a[i]}, {0, b[i]}}
	}
	return len(partsOfTies(ties))
}

func identityByHand(n int) []int {
	var m []int
	for i := range 2 * n {
		m = append(m, 2*n-1-i)
	}
	return m
}

func hookByHand(n int, i int) []int {
	m := identityByHand(n)
	for _, left := range []int{i, 2*n - 2 - i} {
		m[left], m[left+1] = left+1, left
	}
	return m
}

func upsideDownByHand(m []int) []int {
	// Reading the points backwards is to look from below.
	var l []int
	for _, partner := range slices.Backward(m) {
		l = append(l, len(m)-1-partner)
	}
	return l
}

func throughByHand(m []int) int {
	through := 0
	for i, partner := range m {
		if 2*i < len(m) && 2*partner >= len(m) {
			through++
		}
	}
	return through
}

// noDiagrams returns lists that are no matchings, have no points, or cross.
func noDiagrams() [][]int {
	l := append(noMatchings(), nil, []int{}, []int{2, 3, 0, 1}, []int{3, 4, 5, 0, 1, 2}, []int{2, 5, 0, 4, 3, 1}, []int{8, 9, 10, 11, 12, 13, 14, 15, 0, 1, 2, 3, 4, 5, 6, 7})
	for _, m := range slices.Concat(matchings(3), matchings(4)) {
		if crossings, _ := pairsByHand(m); crossings > 0 {
			l = append(l, m)
		}
	}
	return l
}

func TestIsDiagramOfAllMatchings(t *testing.T) {
	for n := range 6 {
		found := 0
		for _, m := range matchings(n) {
			crossings, _ := pairsByHand(m)
			want := crossings == 0 && n > 0
			if got := impl.IsDiagram(m); got != want {
				t.Fatalf("IsDiagram(%v) = %v", m, got)
			}
			if want {
				found++
			}
		}
		if n > 0 && found != impl.CatalanNumber(n) {
			t.Errorf("%d diagrams of %d strands", found, n)
		}
	}
	for _, m := range diagrams(8) {
		if !impl.IsDiagram(m) {
			t.Fatalf("%v is no diagram", m)
		}
	}
}

func TestIdentitiesAndHooks(t *testing.T) {
	for n := 1; n <= 8; n++ {
		want := identityByHand(n)
		got, ok := impl.IdentityDiagram(n)
		if !ok || !slices.Equal(got, want) || !impl.IsDiagram(got) || impl.ThroughOf(got) != n || impl.TraceLoops(got) != n || impl.DiagramNumber(got) != 0 {
			t.Errorf("IdentityDiagram(%d) = %v, %v", n, got, ok)
		}
		scribble(got)
		for i := range n - 1 {
			want := hookByHand(n, i)
			got, ok := impl.HookDiagram(n, i)
			if !ok || !slices.Equal(got, want) || !impl.IsDiagram(got) || impl.ThroughOf(got) != n-2 || impl.TraceLoops(got) != n-1 {
				t.Errorf("HookDiagram(%d, %d) = %v, %v, want %v", n, i, got, ok, want)
			}
			if flipped, ok := impl.FlipDiagram(got); !ok || !slices.Equal(flipped, want) {
				t.Errorf("the hook %v upside down is %v, %v", want, flipped, ok)
			}
			scribble(got)
		}
		for _, i := range append(farNumbers(), -2, -1, n-1, n, n+1) {
			if got, ok := impl.HookDiagram(n, i); len(got) != 0 || ok {
				t.Errorf("HookDiagram(%d, %d) = %v, %v", n, i, got, ok)
			}
		}
	}
	for _, n := range append(farNumbers(), -2, -1, 0, 9, 10) {
		if got, ok := impl.IdentityDiagram(n); len(got) != 0 || ok {
			t.Errorf("IdentityDiagram(%d) = %v, %v", n, got, ok)
		}
		for _, i := range []int{math.MinInt, -2, -1, 0, 1, 7} {
			if got, ok := impl.HookDiagram(n, i); len(got) != 0 || ok {
				t.Errorf("HookDiagram(%d, %d) = %v, %v", n, i, got, ok)
			}
		}
	}
}

func TestProductsOfAllDiagrams(t *testing.T) {
	for n := 1; n <= 5; n++ {
		all := diagrams(n)
		for _, a := range all {
			for _, b := range all {
				checkProduct(t, a, b)
			}
		}
	}
	for n := 6; n <= 8; n++ {
		all := diagrams(n)
		for i, a := range all {
			checkProduct(t, a, all[(i*i+3*i+1)%len(all)])
		}
	}
}

func checkProduct(t *testing.T, a []int, b []int) {
	t.Helper()
	first, checkFirst := guarded(t, a)
	second, checkSecond := guarded(t, b)
	got, loops, ok := impl.MultiplyDiagrams(first, second)
	checkFirst()
	checkSecond()
	want, closed := stackedByHand(a, b)
	if !ok || !slices.Equal(got, want) || loops != closed || !impl.IsDiagram(got) {
		t.Fatalf("MultiplyDiagrams(%v, %v) = %v, %d, %v, want %v, %d", a, b, got, loops, ok, want, closed)
	}
	if through := impl.ThroughOf(got); through > min(throughByHand(a), throughByHand(b)) || (throughByHand(a)-through)%2 != 0 {
		t.Fatalf("%d strands of the product of %v and %v go through", through, a, b)
	}
	// The closed product does not tell which one is above.
	back, backLoops, _ := impl.MultiplyDiagrams(b, a)
	if impl.TraceLoops(got)+loops != impl.TraceLoops(back)+backLoops {
		t.Fatalf("%v and %v multiplied both ways have other traces", a, b)
	}
	upside, upsideLoops, _ := impl.MultiplyDiagrams(upsideDownByHand(b), upsideDownByHand(a))
	if !slices.Equal(upside, upsideDownByHand(got)) || upsideLoops != loops {
		t.Fatalf("%v and %v multiplied upside down are %v with %d loops", a, b, upside, upsideLoops)
	}
	scribble(got)
}

func TestProductsDoNotDependOnBrackets(t *testing.T) {
	check := func(a []int, b []int, c []int) {
		t.Helper()
		ab, first, _ := impl.MultiplyDiagrams(a, b)
		left, second, leftOk := impl.MultiplyDiagrams(ab, c)
		bc, third, _ := impl.MultiplyDiagrams(b, c)
		right, fourth, rightOk := impl.MultiplyDiagrams(a, bc)
		if !leftOk || !rightOk || !slices.Equal(left, right) || first+second != third+fourth {
			t.Fatalf("%v, %v and %v are multiplied to %v and %d loops, or to %v and %d", a, b, c, left, first+second, right, third+fourth)
		}
	}
	for n := 1; n <= 4; n++ {
		all := diagrams(n)
		for _, a := range all {
			for _, b := range all {
				for _, c := range all {
					check(a, b, c)
				}
			}
		}
	}
	for n := 5; n <= 8; n++ {
		all := diagrams(n)
		for i, a := range all {
			for step := range 5 {
				check(a, all[(i*i+step)%len(all)], all[(7*i+step*step+3)%len(all)])
			}
		}
	}
}

func TestHooksObeyTheirRelations(t *testing.T) {
	for n := 1; n <= 8; n++ {
		word := func(w ...int) ([]int, int) {
			t.Helper()
			m, loops, ok := impl.DiagramOfWord(n, w)
			if !ok {
				t.Fatalf("DiagramOfWord(%d, %v) fails", n, w)
			}
			return m, loops
		}
		for i := range n - 1 {
			hook := hookByHand(n, i)
			if m, loops := word(i); !slices.Equal(m, hook) || loops != 0 {
				t.Errorf("the hook %d of %d strands is %v with %d loops", i, n, m, loops)
			}
			if m, loops := word(i, i); !slices.Equal(m, hook) || loops != 1 {
				t.Errorf("the hook %d of %d strands twice is %v with %d loops", i, n, m, loops)
			}
			for j := range n - 1 {
				there, thereLoops := word(i, j)
				back, backLoops := word(j, i)
				if i-j == 1 || j-i == 1 {
					if m, loops := word(i, j, i); !slices.Equal(m, hook) || loops != 0 || slices.Equal(there, back) {
						t.Errorf("the hooks %d, %d and %d of %d strands are %v with %d loops", i, j, i, n, m, loops)
					}
				} else if i != j && (!slices.Equal(there, back) || thereLoops != 0 || backLoops != 0) {
					t.Errorf("the hooks %d and %d of %d strands: %v or %v", i, j, n, there, back)
				}
			}
		}
		identity := identityByHand(n)
		for _, m := range diagrams(n) {
			left, leftLoops, _ := impl.MultiplyDiagrams(identity, m)
			right, rightLoops, _ := impl.MultiplyDiagrams(m, identity)
			if !slices.Equal(left, m) || !slices.Equal(right, m) || leftLoops != 0 || rightLoops != 0 {
				t.Fatalf("%v becomes %v or %v by the identity", m, left, right)
			}
		}
	}
}

func TestDiagramOfWord(t *testing.T) {
	for n := 1; n <= 5; n++ {
		found := map[int]bool{}
		for _, w := range listsOf(0, n-2, 10/n+2) {
			want, closed := identityByHand(n), 0
			for _, i := range w {
				next, loops := stackedByHand(want, hookByHand(n, i))
				want = next
				closed += loops
			}
			given, check := guarded(t, w)
			got, loops, ok := impl.DiagramOfWord(n, given)
			if !ok || !slices.Equal(got, want) || loops != closed {
				t.Fatalf("DiagramOfWord(%d, %v) = %v, %d, %v, want %v, %d", n, w, got, loops, ok, want, closed)
			}
			check()
			found[impl.DiagramNumber(got)] = true
			scribble(got)
		}
		// With few strands, all diagrams are products of few hooks.
		if n <= 4 && len(found) != impl.CatalanNumber(n) {
			t.Errorf("%d diagrams of %d strands come from words", len(found), n)
		}
	}
	for n := 2; n <= 8; n++ {
		for length := range 50 {
			got, loops, ok := impl.DiagramOfWord(n, make([]int, length))
			if length > 40 {
				if len(got) != 0 || loops != 0 || ok {
					t.Errorf("DiagramOfWord of %d strands and %d hooks = %v, %d, %v", n, length, got, loops, ok)
				}
			} else if !ok || loops != max(length-1, 0) {
				t.Errorf("DiagramOfWord of %d strands and %d hooks = %v, %d, %v", n, length, got, loops, ok)
			}
		}
	}
}

func TestDiagramOfWordRefuses(t *testing.T) {
	refuse := func(n int, w []int) {
		t.Helper()
		if got, loops, ok := impl.DiagramOfWord(n, w); len(got) != 0 || loops != 0 || ok {
			t.Errorf("DiagramOfWord(%d, %v) = %v, %d, %v", n, w[:min(len(w), 10)], got, loops, ok)
		}
	}
	for _, n := range append(farNumbers(), -2, -1, 0, 9, 10) {
		refuse(n, nil)
		refuse(n, []int{0})
	}
	for n := 1; n <= 8; n++ {
		for _, wrong := range append(farNumbers(), -2, -1, n-1, n, n+1) {
			refuse(n, []int{wrong})
			if n > 1 {
				// Loops that are closed before the wrong hook are not counted.
				refuse(n, []int{0, 0, 0, wrong})
				refuse(n, []int{wrong, 0, 0})
				refuse(n, slices.Concat(make([]int, 39), []int{wrong}))
			}
		}
		refuse(n, make([]int, 41))
		refuse(n, make([]int, 100000))
	}
}

func TestNumbersOfDiagrams(t *testing.T) {
	for n := 1; n <= 8; n++ {
		for number, m := range diagrams(n) {
			given, check := guarded(t, m)
			if got := impl.DiagramNumber(given); got != number {
				t.Fatalf("DiagramNumber(%v) = %d, want %d", m, got, number)
			}
			if got, want := impl.ThroughOf(given), throughByHand(m); got != want {
				t.Fatalf("ThroughOf(%v) = %d, want %d", m, got, want)
			}
			if got, want := impl.TraceLoops(given), loopsByHand(m, identityByHand(n)); got != want {
				t.Fatalf("TraceLoops(%v) = %d, want %d", m, got, want)
			}
			got, ok := impl.FlipDiagram(given)
			if !ok || !slices.Equal(got, upsideDownByHand(m)) {
				t.Fatalf("FlipDiagram(%v) = %v, %v", m, got, ok)
			}
			if again, ok := impl.FlipDiagram(got); !ok || !slices.Equal(again, m) {
				t.Fatalf("FlipDiagram(%v) = %v, %v, want %v", got, again, ok, m)
			}
			scribble(got)
			check()
		}
	}
}

func TestOneStrand(t *testing.T) {
	strand := []int{1, 0}
	if m, ok := impl.IdentityDiagram(1); !ok || !slices.Equal(m, strand) {
		t.Errorf("IdentityDiagram(1) = %v, %v", m, ok)
	}
	if m, ok := impl.HookDiagram(1, 0); len(m) != 0 || ok {
		t.Errorf("HookDiagram(1, 0) = %v, %v", m, ok)
	}
	if m, loops, ok := impl.MultiplyDiagrams(strand, strand); !ok || loops != 0 || !slices.Equal(m, strand) {
		t.Errorf("one strand twice: %v, %d, %v", m, loops, ok)
	}
	for _, w := range [][]int{nil, {}} {
		if m, loops, ok := impl.DiagramOfWord(1, w); !ok || loops != 0 || !slices.Equal(m, strand) {
			t.Errorf("DiagramOfWord(1, none) = %v, %d, %v", m, loops, ok)
		}
	}
	if m, ok := impl.FlipDiagram(strand); !ok || !slices.Equal(m, strand) {
		t.Errorf("one strand upside down: %v, %v", m, ok)
	}
	if !impl.IsDiagram(strand) || impl.TraceLoops(strand) != 1 || impl.ThroughOf(strand) != 1 || impl.DiagramNumber(strand) != 0 {
		t.Errorf("one strand: %d loops, %d through, number %d", impl.TraceLoops(strand), impl.ThroughOf(strand), impl.DiagramNumber(strand))
	}
}

func TestDiagramsRefuse(t *testing.T) {
	refuse := func(a []int, b []int) {
		t.Helper()
		if m, loops, ok := impl.MultiplyDiagrams(a, b); len(m) != 0 || loops != 0 || ok {
			t.Errorf("MultiplyDiagrams(%v, %v) = %v, %d, %v", a[:min(len(a), 10)], b[:min(len(b), 10)], m, loops, ok)
		}
	}
	for _, m := range noDiagrams() {
		short := m[:min(len(m), 10)]
		if impl.IsDiagram(m) || impl.TraceLoops(m) != -1 || impl.ThroughOf(m) != -1 || impl.DiagramNumber(m) != -1 {
			t.Errorf("%v: %v, %d, %d, %d", short, impl.IsDiagram(m), impl.TraceLoops(m), impl.ThroughOf(m), impl.DiagramNumber(m))
		}
		if flipped, ok := impl.FlipDiagram(m); len(flipped) != 0 || ok {
			t.Errorf("FlipDiagram(%v) = %v, %v", short, flipped, ok)
		}
		refuse(m, m)
		for n := 1; n <= 8; n++ {
			refuse(m, identityByHand(n))
			refuse(identityByHand(n), m)
		}
	}
	for m := 1; m <= 8; m++ {
		for n := 1; n <= 8; n++ {
			if m != n {
				refuse(identityByHand(m), identityByHand(n))
			}
		}
	}
}

func TestRefusedDiagramsAreNotChanged(t *testing.T) {
	for _, m := range noDiagrams()[:24] {
		first, checkFirst := guarded(t, m)
		second, checkSecond := guarded(t, []int{3, 2, 1, 0})
		impl.MultiplyDiagrams(first, second)
		impl.MultiplyDiagrams(second, first)
		impl.MultiplyDiagrams(first, first)
		impl.FlipDiagram(first)
		impl.TraceLoops(first)
		impl.ThroughOf(first)
		impl.DiagramNumber(first)
		impl.DiagramOfWord(3, first)
		checkFirst()
		checkSecond()
	}
}
