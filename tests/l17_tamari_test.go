package tests

import (
	"math/big"
	"runtime"
	"slices"
	"strings"
	"sync"
	"testing"
	"time"

	"loop.example/g03401/impl"
)

// tamari knows for the trees of n nodes which ones can be reached by rotations to the right, and with how many.
type tamari struct {
	trees []string
	// steps has for each tree and each one that is reached from it the least and the greatest number of rotations.
	steps map[string]map[string][2]int
}

func tamariOf(n int) tamari {
	l := tamari{treesBySize(n)[n], map[string]map[string][2]int{}}
	for _, s := range l.trees {
		l.follow(s)
	}
	return l
}

func (l tamari) follow(s string) map[string][2]int {
	if found, ok := l.steps[s]; ok {
		return found
	}
	reached := map[string][2]int{s: {0, 0}}
	for v := range strings.Count(s, "(") {
		next := rightByHand(s, v)
		if next == "" {
			continue
		}
		for end, steps := range l.follow(next) {
			old, ok := reached[end]
			if !ok {
				old = [2]int{steps[0] + 1, steps[1] + 1}
			}
			reached[end] = [2]int{min(old[0], steps[0]+1), max(old[1], steps[1]+1)}
		}
	}
	l.steps[s] = reached
	return reached
}

func (l tamari) less(a string, b string) bool {
	_, ok := l.steps[a][b]
	return ok
}

func TestTamariOrderIsThatOfRotations(t *testing.T) {
	for n := range 7 {
		l := tamariOf(n)
		for _, a := range l.trees {
			for _, b := range l.trees {
				if got, want := impl.IsTamariLess(a, b), l.less(a, b); got != want {
					t.Fatalf("IsTamariLess(%q, %q) = %v", a, b, got)
				}
			}
		}
	}
	for n := range 9 {
		low, _ := impl.LeftComb(n)
		high, _ := impl.RightComb(n)
		for _, s := range treesBySize(n)[n] {
			if !impl.IsTamariLess(low, s) || !impl.IsTamariLess(s, high) || impl.IsTamariLess(s, low) != (s == low) || impl.IsTamariLess(high, s) != (s == high) {
				t.Fatalf("%q is not between the combs", s)
			}
			for v := range n {
				if next := rightByHand(s, v); next != "" && (!impl.IsTamariLess(s, next) || impl.IsTamariLess(next, s)) {
					t.Fatalf("%q and %q are not in order", s, next)
				}
			}
		}
	}
}

func TestMeetsAndJoinsAreBounds(t *testing.T) {
	for n := range 6 {
		l := tamariOf(n)
		for _, a := range l.trees {
			for _, b := range l.trees {
				meet, ok := impl.TamariMeet(a, b)
				if !ok || !l.less(meet, a) || !l.less(meet, b) {
					t.Fatalf("TamariMeet(%q, %q) = %q, %v", a, b, meet, ok)
				}
				join, ok := impl.TamariJoin(a, b)
				if !ok || !l.less(a, join) || !l.less(b, join) {
					t.Fatalf("TamariJoin(%q, %q) = %q, %v", a, b, join, ok)
				}
				for _, c := range l.trees {
					if l.less(c, a) && l.less(c, b) && !l.less(c, meet) {
						t.Fatalf("%q is below %q and %q, but not below their meet %q", c, a, b, meet)
					}
					if l.less(a, c) && l.less(b, c) && !l.less(join, c) {
						t.Fatalf("%q is above %q and %q, but not above their join %q", c, a, b, join)
					}
				}
			}
		}
	}
}

func TestMeetsAndJoinsOfGreaterTrees(t *testing.T) {
	for n := 6; n <= 8; n++ {
		trees := treesBySize(n)[n]
		for i, a := range trees {
			b := trees[(i*i+7*i+3)%len(trees)]
			meet, ok := impl.TamariMeet(a, b)
			if !ok || !impl.IsTamariLess(meet, a) || !impl.IsTamariLess(meet, b) {
				t.Fatalf("TamariMeet(%q, %q) = %q, %v", a, b, meet, ok)
			}
			join, ok := impl.TamariJoin(a, b)
			if !ok || !impl.IsTamariLess(a, join) || !impl.IsTamariLess(b, join) {
				t.Fatalf("TamariJoin(%q, %q) = %q, %v", a, b, join, ok)
			}
			if again, _ := impl.TamariJoin(a, meet); again != a {
				t.Fatalf("the join of %q and %q is %q", a, meet, again)
			}
			if again, _ := impl.TamariMeet(b, join); again != b {
				t.Fatalf("the meet of %q and %q is %q", b, join, again)
			}
			for v := range n {
				if c := rightByHand(meet, v); impl.IsTamariLess(c, a) && impl.IsTamariLess(c, b) {
					t.Fatalf("%q is a greater bound of %q and %q than their meet %q", c, a, b, meet)
				}
				if c := leftByHand(join, v); impl.IsTamariLess(a, c) && impl.IsTamariLess(b, c) {
					t.Fatalf("%q is a lesser bound of %q and %q than their join %q", c, a, b, join)
				}
			}
		}
	}
}

func TestIntervalsAreCountedByTheFormula(t *testing.T) {
	for n := -2; n <= 10; n++ {
		counted, formula := impl.CountIntervals(n), impl.IntervalFormula(n)
		want := -1
		if 0 <= n && n <= 7 {
			// The formula multiplied by n (n + 1).
			product := new(big.Int).Mul(big.NewInt(2), new(big.Int).Binomial(int64(4*n+1), int64(max(n-1, 0))))
			want = 1
			if n > 0 {
				want = int(product.Int64()) / (n * (n + 1))
			}
		}
		if formula != want {
			t.Errorf("IntervalFormula(%d) = %d, want %d", n, formula, want)
		}
		if n > 5 {
			want = -1
		}
		if counted != want {
			t.Errorf("CountIntervals(%d) = %d, want %d", n, counted, want)
		}
	}
	for n, want := range []int{1, 1, 3, 13, 68, 399, 2530, 16965} {
		if got := impl.IntervalFormula(n); got != want {
			t.Errorf("IntervalFormula(%d) = %d, want %d", n, got, want)
		}
	}
	for _, n := range farNumbers() {
		if impl.CountIntervals(n) != -1 || impl.IntervalFormula(n) != -1 {
			t.Errorf("intervals of %d nodes: %d, by the formula %d", n, impl.CountIntervals(n), impl.IntervalFormula(n))
		}
	}
}

func TestIntervalSize(t *testing.T) {
	for n := range 6 {
		l := tamariOf(n)
		intervals := 0
		for _, a := range l.trees {
			for _, b := range l.trees {
				want := 0
				for _, c := range l.trees {
					if l.less(a, c) && l.less(c, b) {
						want++
					}
				}
				if want > 0 {
					intervals++
				}
				if got := impl.IntervalSize(a, b); got != want {
					t.Fatalf("IntervalSize(%q, %q) = %d, want %d", a, b, got, want)
				}
			}
		}
		if got := impl.CountIntervals(n); got != intervals {
			t.Errorf("CountIntervals(%d) = %d, but there are %d", n, got, intervals)
		}
	}
}

func TestChains(t *testing.T) {
	for n := range 5 {
		l := tamariOf(n)
		for _, a := range l.trees {
			for _, b := range l.trees {
				want, ok := l.steps[a][b]
				if !ok {
					want = [2]int{-1, -1}
				}
				if got := impl.ShortestChain(a, b); got != want[0] {
					t.Fatalf("ShortestChain(%q, %q) = %d, want %d", a, b, got, want[0])
				}
				if got := impl.LongestChain(a, b); got != want[1] {
					t.Fatalf("LongestChain(%q, %q) = %d, want %d", a, b, got, want[1])
				}
			}
		}
		low, _ := impl.LeftComb(n)
		high, _ := impl.RightComb(n)
		if impl.LongestChain(low, high) != n*(n-1)/2 || impl.ShortestChain(low, high) != max(n-1, 0) {
			t.Errorf("from %q to %q: %d to %d rotations", low, high, impl.ShortestChain(low, high), impl.LongestChain(low, high))
		}
	}
}

func TestTwoEqualTrees(t *testing.T) {
	for n, trees := range treesBySize(8) {
		for _, s := range trees {
			meet, meetOk := impl.TamariMeet(s, s)
			join, joinOk := impl.TamariJoin(s, s)
			if !impl.IsTamariLess(s, s) || meet != s || !meetOk || join != s || !joinOk {
				t.Fatalf("%q twice: meet %q, %v, join %q, %v", s, meet, meetOk, join, joinOk)
			}
			size, chain := 1, 0
			if n > 5 {
				size = -1
			}
			if n > 4 {
				chain = -1
			}
			if impl.IntervalSize(s, s) != size || impl.LongestChain(s, s) != chain || impl.ShortestChain(s, s) != chain {
				t.Fatalf("%q twice: interval %d, chains %d and %d", s, impl.IntervalSize(s, s), impl.LongestChain(s, s), impl.ShortestChain(s, s))
			}
		}
	}
}

func TestTamariRefuses(t *testing.T) {
	refuse := func(a string, b string) {
		t.Helper()
		names := a[:min(len(a), 40)] + " and " + b[:min(len(b), 40)]
		if impl.IsTamariLess(a, b) {
			t.Errorf("%s are in order", names)
		}
		if meet, ok := impl.TamariMeet(a, b); meet != "" || ok {
			t.Errorf("the meet of %s is %q, %v", names, meet, ok)
		}
		if join, ok := impl.TamariJoin(a, b); join != "" || ok {
			t.Errorf("the join of %s is %q, %v", names, join, ok)
		}
		if impl.IntervalSize(a, b) != -1 || impl.LongestChain(a, b) != -1 || impl.ShortestChain(a, b) != -1 {
			t.Errorf("%s: interval %d, chains %d and %d", names, impl.IntervalSize(a, b), impl.LongestChain(a, b), impl.ShortestChain(a, b))
		}
	}
	by := treesBySize(5)
	for _, s := range noTrees() {
		refuse(s, s)
		for _, trees := range by[:4] {
			refuse(s, trees[0])
			refuse(trees[0], s)
		}
	}
	for m, first := range by {
		for n, second := range by {
			if m != n {
				refuse(first[0], second[0])
				refuse(first[len(first)-1], second[len(second)-1])
			}
		}
	}
	for n := 5; n <= 8; n++ {
		low, _ := impl.LeftComb(n)
		high, _ := impl.RightComb(n)
		if impl.LongestChain(low, high) != -1 || impl.ShortestChain(low, high) != -1 {
			t.Errorf("chains of %d nodes: %d and %d", n, impl.LongestChain(low, high), impl.ShortestChain(low, high))
		}
		if got := impl.IntervalSize(low, high); (got == -1) != (n > 5) || impl.IntervalSize(high, low) != min(got, 0) {
			t.Errorf("interval of %d nodes: %d", n, got)
		}
	}
}

func TestTamariLeavesNoGoroutines(t *testing.T) {
	before := runtime.NumGoroutine()
	var group sync.WaitGroup
	var counts [8]int
	for i := range counts {
		group.Add(1)
		go func() {
			defer group.Done()
			counts[i] = impl.CountIntervals(4)
			impl.IntervalSize("(..)", "(..)")
			impl.IntervalSize("(..)", "x")
			impl.CountIntervals(6)
		}()
	}
	group.Wait()
	if !slices.Equal(counts[:], slices.Repeat([]int{68}, 8)) {
		t.Errorf("%v", counts)
	}
	// A goroutine that has closed its channel may still need a moment to end.
	for range 1000 {
		if runtime.NumGoroutine() <= before {
			return
		}
		time.Sleep(time.Millisecond)
	}
	t.Errorf("%d goroutines before, %d after", before, runtime.NumGoroutine())
}
