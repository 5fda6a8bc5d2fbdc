package tests

import (
	"math"
	"slices"
	"strings"
	"sync"
	"testing"

	"loop.example/g03401/impl"
)

// turnedBack carries each point to the one before it, and the first one to the end.
func turnedBack(m []int) []int {
	turned := make([]int, len(m))
	for point, partner := range m {
		turned[(point+len(m)-1)%len(m)] = (partner + len(m) - 1) % len(m)
	}
	return turned
}

func TestLoopsOfAllPairs(t *testing.T) {
	check := func(a []int, b []int) {
		t.Helper()
		first, checkFirst := guarded(t, a)
		second, checkSecond := guarded(t, b)
		want := loopsByHand(a, b)
		if got := impl.LoopsOf(first, second); got != want {
			t.Fatalf("LoopsOf(%v, %v) = %d, want %d", a, b, got, want)
		}
		if got := impl.LoopsOf(second, first); got != want {
			t.Fatalf("LoopsOf(%v, %v) = %d, want %d", b, a, got, want)
		}
		if got := impl.IsMeander(first, second); got != (want == 1) {
			t.Fatalf("IsMeander(%v, %v) = %v", a, b, got)
		}
		// Each arc is on one loop, and only equal arcs are loops by themselves.
		if (want == len(a)/2) != slices.Equal(a, b) {
			t.Fatalf("%v and %v have %d loops", a, b, want)
		}
		checkFirst()
		checkSecond()
	}
	for n := 1; n <= 5; n++ {
		all := diagrams(n)
		for i, a := range all {
			for _, b := range all[i:] {
				check(a, b)
			}
		}
	}
	for n := 6; n <= 8; n++ {
		all := diagrams(n)
		for i, a := range all {
			check(a, all[(i*i+5*i+2)%len(all)])
			check(a, a)
		}
	}
}

func TestLoopsAreKeptByTurns(t *testing.T) {
	check := func(a []int, b []int) {
		t.Helper()
		loops := impl.LoopsOf(a, b)
		first, checkFirst := guarded(t, a)
		second, checkSecond := guarded(t, b)
		x, y, ok := impl.TurnMeander(first, second)
		if !ok || !slices.Equal(x, turnedBack(a)) || !slices.Equal(y, turnedBack(b)) {
			t.Fatalf("TurnMeander(%v, %v) = %v, %v, %v", a, b, x, y, ok)
		}
		if got := impl.LoopsOf(x, y); got != loops || got != loopsByHand(x, y) {
			t.Fatalf("%v and %v have %d loops, turned to %v and %v they have %d", a, b, loops, x, y, got)
		}
		scribble(x)
		if !slices.Equal(y, turnedBack(b)) {
			t.Fatal("both results share memory")
		}
		scribble(y)
		checkFirst()
		checkSecond()
		// A matching may be both of them.
		x, y, _ = impl.TurnMeander(first, first)
		scribble(x)
		if !slices.Equal(y, turnedBack(a)) {
			t.Fatal("both results share memory")
		}
		scribble(y)
		checkFirst()
	}
	for n := 1; n <= 4; n++ {
		for _, a := range diagrams(n) {
			for _, b := range diagrams(n) {
				check(a, b)
			}
		}
	}
	for n := 5; n <= 8; n++ {
		all := diagrams(n)
		for i, a := range all {
			check(a, all[(i*i+7*i+3)%len(all)])
		}
	}
}

func TestTurnsGoRound(t *testing.T) {
	a, b := []int{5, 2, 1, 4, 3, 0}, []int{1, 0, 3, 2, 5, 4}
	x, y := a, b
	for range a {
		if !impl.IsMeander(x, y) {
			t.Errorf("%v and %v are no meander", x, y)
		}
		x, y, _ = impl.TurnMeander(x, y)
	}
	if !slices.Equal(x, a) || !slices.Equal(y, b) {
		t.Errorf("%v and %v have become %v and %v", a, b, x, y)
	}
}

// loopTableByHand counts the pairs of matchings by their loops.
func loopTableByHand(n int) []int {
	table := make([]int, n+1)
	all := diagrams(n)
	for _, a := range all {
		for _, b := range all {
			table[loopsByHand(a, b)]++
		}
	}
	return table
}

func TestLoopTables(t *testing.T) {
	known := []int{0, 1, 2, 8, 42, 262}
	for n := range 6 {
		want := loopTableByHand(n)
		got, ok := impl.LoopTable(n)
		if !ok || !slices.Equal(got, want) {
			t.Errorf("LoopTable(%d) = %v, %v, want %v", n, got, ok, want)
		}
		if want[n] != impl.CatalanNumber(n) || n > 0 && want[1] != known[n] {
			t.Errorf("%v for %d arcs", want, n)
		}
		scribble(got)
		if n > 0 {
			if got := impl.CountMeanders(n); got != known[n] {
				t.Errorf("CountMeanders(%d) = %d, want %d", n, got, known[n])
			}
		}
	}
	for _, n := range append(farNumbers(), -2, -1, 6, 7, 8) {
		if table, ok := impl.LoopTable(n); len(table) != 0 || ok {
			t.Errorf("LoopTable(%d) = %v, %v", n, table, ok)
		}
	}
	for _, n := range append(farNumbers(), -2, -1, 0, 6, 7, 8) {
		if got := impl.CountMeanders(n); got != -1 {
			t.Errorf("CountMeanders(%d) = %d", n, got)
		}
	}
}

func TestLoopTablesAtTheSameTime(t *testing.T) {
	var tables [24][]int
	var group sync.WaitGroup
	for i := range tables {
		group.Add(1)
		go func() {
			defer group.Done()
			tables[i], _ = impl.LoopTable(i % 6)
		}()
	}
	group.Wait()
	for i, table := range tables {
		if want, _ := impl.LoopTable(i % 6); !slices.Equal(table, want) {
			t.Errorf("LoopTable(%d) = %v, want %v", i%6, table, want)
		}
	}
}

func TestMeanderPartner(t *testing.T) {
	for n := 1; n <= 6; n++ {
		all := diagrams(n)
		for _, a := range all {
			want := all[slices.IndexFunc(all, func(b []int) bool { return loopsByHand(a, b) == 1 })]
			given, check := guarded(t, a)
			got, ok := impl.MeanderPartner(given)
			if !ok || !slices.Equal(got, want) || !impl.IsMeander(a, got) {
				t.Fatalf("MeanderPartner(%v) = %v, %v, want %v", a, got, ok, want)
			}
			scribble(got)
			check()
		}
	}
	for n := 7; n <= 8; n++ {
		for _, a := range diagrams(n) {
			if got, ok := impl.MeanderPartner(a); len(got) != 0 || ok {
				t.Fatalf("MeanderPartner(%v) = %v, %v", a, got, ok)
			}
		}
	}
}

func TestTwoPoints(t *testing.T) {
	arc := []int{1, 0}
	if impl.LoopsOf(arc, arc) != 1 || !impl.IsMeander(arc, arc) || impl.CountMeanders(1) != 1 {
		t.Errorf("one arc twice: %d loops", impl.LoopsOf(arc, arc))
	}
	if table, ok := impl.LoopTable(1); !ok || !slices.Equal(table, []int{0, 1}) {
		t.Errorf("LoopTable(1) = %v, %v", table, ok)
	}
	if partner, ok := impl.MeanderPartner(arc); !ok || !slices.Equal(partner, arc) {
		t.Errorf("MeanderPartner(%v) = %v, %v", arc, partner, ok)
	}
	if x, y, ok := impl.TurnMeander(arc, arc); !ok || !slices.Equal(x, arc) || !slices.Equal(y, arc) {
		t.Errorf("TurnMeander(%v, %v) = %v, %v, %v", arc, arc, x, y, ok)
	}
}

func TestMeandersWithoutPoints(t *testing.T) {
	for _, a := range [][]int{nil, {}} {
		for _, b := range [][]int{nil, {}} {
			if impl.LoopsOf(a, b) != 0 || impl.IsMeander(a, b) {
				t.Errorf("no points: %d loops", impl.LoopsOf(a, b))
			}
			if x, y, ok := impl.TurnMeander(a, b); len(x) != 0 || len(y) != 0 || ok {
				t.Errorf("no points turned: %v, %v, %v", x, y, ok)
			}
		}
		if partner, ok := impl.MeanderPartner(a); len(partner) != 0 || ok {
			t.Errorf("the partner of no points: %v, %v", partner, ok)
		}
	}
	if table, ok := impl.LoopTable(0); !ok || !slices.Equal(table, []int{1}) {
		t.Errorf("LoopTable(0) = %v, %v", table, ok)
	}
}

func TestMeandersRefuse(t *testing.T) {
	refuse := func(a []int, b []int) {
		t.Helper()
		names := [][]int{a[:min(len(a), 10)], b[:min(len(b), 10)]}
		if loops := impl.LoopsOf(a, b); loops != -1 || impl.IsMeander(a, b) {
			t.Errorf("%v have %d loops", names, loops)
		}
		if x, y, ok := impl.TurnMeander(a, b); len(x) != 0 || len(y) != 0 || ok {
			t.Errorf("%v are turned to %v, %v, %v", names, x, y, ok)
		}
	}
	for _, m := range noDiagrams() {
		if len(m) == 0 {
			continue
		}
		refuse(m, m)
		for n := range 9 {
			refuse(m, identityByHand(n))
			refuse(identityByHand(n), m)
		}
		if partner, ok := impl.MeanderPartner(m); len(partner) != 0 || ok {
			t.Errorf("MeanderPartner(%v) = %v, %v", m[:min(len(m), 10)], partner, ok)
		}
		given, check := guarded(t, m[:min(len(m), 20)])
		impl.LoopsOf(given, given)
		impl.TurnMeander(given, given)
		impl.MeanderPartner(given)
		check()
	}
	for m := range 9 {
		for n := range 9 {
			if m != n {
				refuse(identityByHand(m), matchingByHand(strings.Repeat("ud", n)))
			}
		}
	}
	refuse([]int{1, 0}, []int{1, math.MaxInt})
}
