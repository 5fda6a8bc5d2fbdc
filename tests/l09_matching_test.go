package tests

import (
	"math"
	"slices"
	"strconv"
	"strings"
	"testing"

	"loop.example/g03401/impl"
)

// matchings returns all matchings of 2n points.
func matchings(n int) [][]int {
	var all [][]int
	m := slices.Repeat([]int{-1}, 2*n)
	var choose func()
	choose = func() {
		first := slices.Index(m, -1)
		if first < 0 {
			all = append(all, slices.Clone(m))
			return
		}
		for other := first + 1; other < 2*n; other++ {
			if m[other] < 0 {
				m[first], m[other] = other, first
				choose()
				m[first], m[other] = -1, -1
			}
		}
	}
	choose()
	return all
}

func isMatchingByHand(m []int) bool {
	for i := range m {
		if slices.Index(m, i) < 0 || m[i] == i || slices.Index(m, i) != m[i] {
			return false
		}
	}
	return len(m) <= 16
}

// pairsByHand counts the four ascending points of which the arc of the first one ends at the one, and that of the second one at the other.
func pairsByHand(m []int) (int, int) {
	crossings, nestings := 0, 0
	quadruple(m, func(a, b, c, d int) bool {
		if m[a] == c && m[b] == d {
			crossings++
		}
		if m[a] == d && m[b] == c {
			nestings++
		}
		return false
	})
	return crossings, nestings
}

// matchingByHand looks for the partner of each letter by itself.
func matchingByHand(w string) []int {
	var m []int
	s := parentheses(w)
	for i := range len(s) {
		m = append(m, partner(s, i))
	}
	return m
}

// noMatchings returns lists that are no matchings.
func noMatchings() [][]int {
	far := make([]int, 18)
	for i := range far {
		far[i] = i ^ 1
	}
	l := [][]int{
		{0}, {1}, {-1}, {0, 1}, {0, 0}, {1, 1}, {1, 2}, {-1, 0}, {1, -1}, {2, 0}, {1, 0, 2}, {1, 2, 0}, {2, 1, 0}, {1, 0, 3, 1}, {1, 0, 1, 0}, {1, 0, 3, 3}, {1, 2, 3, 0}, {2, 3, 0, 2}, {3, 2, 1, 4},
		{1, math.MaxInt}, {1, math.MinInt}, {math.MinInt, 0}, {math.MaxInt, 0}, {1<<32 + 1, 0}, {1, 1 << 32}, far, far[:17],
		make([]int, 16), make([]int, 17), make([]int, 100000),
	}
	return append(l, slices.Concat(far[:16], []int{16}), slices.Concat(far[:15], []int{15}))
}

func TestIsMatchingOfAllLists(t *testing.T) {
	for _, m := range slices.Concat(listsOf(-1, 5, 5), matchings(4), matchings(5), noMatchings()) {
		if got, want := impl.IsMatching(m), isMatchingByHand(m); got != want {
			t.Fatalf("IsMatching(%v) = %v", m, got)
		}
	}
	// Matchings of three arcs are few among all lists of six points.
	found := 0
	for _, m := range listsOf(0, 5, 6) {
		if len(m) == 6 && impl.IsMatching(m) {
			found++
		}
	}
	if found != len(matchings(3)) {
		t.Errorf("%d matchings of 6 points", found)
	}
}

func TestArcsOfAllMatchings(t *testing.T) {
	double := 1
	for n := range 7 {
		if n > 0 {
			double *= 2*n - 1
		}
		all := matchings(n)
		if len(all) != double {
			t.Fatalf("%d matchings of %d points", len(all), 2*n)
		}
		noncrossing, nonnesting := 0, 0
		for _, m := range all {
			crossings, nestings := pairsByHand(m)
			if got := impl.CrossingsOf(m); got != crossings {
				t.Fatalf("CrossingsOf(%v) = %d, want %d", m, got, crossings)
			}
			if got := impl.NestingsOf(m); got != nestings {
				t.Fatalf("NestingsOf(%v) = %d, want %d", m, got, nestings)
			}
			if got := impl.IsNoncrossingMatching(m); got != (crossings == 0) {
				t.Fatalf("IsNoncrossingMatching(%v) = %v", m, got)
			}
			w, ok := impl.PathOfMatching(m)
			if ok != (crossings == 0) || !ok && w != "" {
				t.Fatalf("PathOfMatching(%v) = %q, %v", m, w, ok)
			}
			if ok && (!shrinksToNothing(w) || !slices.Equal(matchingByHand(w), m)) {
				t.Fatalf("PathOfMatching(%v) = %q", m, w)
			}
			if crossings == 0 {
				noncrossing++
			}
			if nestings == 0 {
				nonnesting++
			}
		}
		if c := impl.CatalanNumber(n); noncrossing != c || nonnesting != c {
			t.Errorf("of %d points, %d matchings do not cross and %d do not nest", 2*n, noncrossing, nonnesting)
		}
	}
}

func TestGreatestMatchings(t *testing.T) {
	var across, around, beside []int
	for i := range 16 {
		across = append(across, (i+8)%16)
		around = append(around, 15-i)
		beside = append(beside, i^1)
	}
	for _, c := range []struct {
		m                   []int
		crossings, nestings int
	}{{across, 28, 0}, {around, 0, 28}, {beside, 0, 0}} {
		if !impl.IsMatching(c.m) || impl.CrossingsOf(c.m) != c.crossings || impl.NestingsOf(c.m) != c.nestings {
			t.Errorf("%v: %v, %d, %d", c.m, impl.IsMatching(c.m), impl.CrossingsOf(c.m), impl.NestingsOf(c.m))
		}
	}
}

func TestMatchingsOfPaths(t *testing.T) {
	for _, w := range allPaths() {
		m, ok := impl.MatchingOf(w)
		if want := matchingByHand(w); !ok || !slices.Equal(m, want) {
			t.Fatalf("MatchingOf(%q) = %v, %v, want %v", w, m, ok, want)
		}
		if again, ok := impl.PathOfMatching(m); again != w || !ok {
			t.Fatalf("PathOfMatching(%v) = %q, %v, want %q", m, again, ok, w)
		}
		if !impl.IsMatching(m) || !impl.IsNoncrossingMatching(m) || impl.CrossingsOf(m) != 0 || impl.NestingsOf(m) != impl.AreaOf(w) {
			t.Errorf("%v has %d crossings and %d nestings", m, impl.CrossingsOf(m), impl.NestingsOf(m))
		}
		given := slices.Clone(m)
		scribble(m)
		if again, _ := impl.MatchingOf(w); !slices.Equal(again, given) {
			t.Fatalf("the result of one call is in the next one: %v", again)
		}
	}
}

func TestTurnMatching(t *testing.T) {
	for n := range 6 {
		for _, m := range matchings(n) {
			for k := range 2 * n {
				turned, ok := impl.TurnMatching(m, k)
				if !ok || !isMatchingByHand(turned) || len(turned) != len(m) {
					t.Fatalf("TurnMatching(%v, %d) = %v, %v", m, k, turned, ok)
				}
				for i, j := range m {
					from, to := i-k, j-k
					if from < 0 {
						from += 2 * n
					}
					if to < 0 {
						to += 2 * n
					}
					if turned[from] != to {
						t.Fatalf("TurnMatching(%v, %d) = %v: %d has another partner", m, k, turned, from)
					}
				}
				scribble(turned)
			}
			for _, k := range append(farNumbers(), -2*n-1, -2, -1, max(2*n, 1), 2*n+1, 4*n+1) {
				if turned, ok := impl.TurnMatching(m, k); len(turned) != 0 || ok {
					t.Fatalf("TurnMatching(%v, %d) = %v, %v", m, k, turned, ok)
				}
			}
		}
	}
	far, _ := impl.MatchingOf(strings.Repeat("ud", 8))
	if turned, ok := impl.TurnMatching(far, 15); !ok || !slices.Equal(turned, matchingByHand("u"+strings.Repeat("ud", 7)+"d")) {
		t.Errorf("turned by 15: %v, %v", turned, ok)
	}
}

func TestShiftedBracketsTurnTheMatching(t *testing.T) {
	for _, w := range allPaths()[1:] {
		shifted, _ := impl.ShiftBrackets(parentheses(w))
		m, _ := impl.MatchingOf(w)
		turned, ok := impl.TurnMatching(m, 1)
		again, _ := impl.PathOfMatching(turned)
		if !ok || parentheses(again) != shifted {
			t.Errorf("the brackets %q of %v are shifted to %q", parentheses(w), m, shifted)
		}
	}
}

func TestMatchingOfPartition(t *testing.T) {
	for _, p := range allPartitions() {
		m, ok := impl.MatchingOfPartition(p)
		if crossesByHand(p) {
			if len(m) != 0 || ok {
				t.Fatalf("MatchingOfPartition(%v) = %v, %v", p, m, ok)
			}
			continue
		}
		if !ok || len(m) != 2*len(p) || !isMatchingByHand(m) || !impl.IsNoncrossingMatching(m) {
			t.Fatalf("MatchingOfPartition(%v) = %v, %v", p, m, ok)
		}
		for i, block := range p {
			next := slices.Index(p, block)
			if k := slices.Index(p[i+1:], block); k >= 0 {
				next = i + 1 + k
			}
			if m[2*i+1] != 2*next {
				t.Fatalf("MatchingOfPartition(%v) = %v: %d has another partner", p, m, 2*i+1)
			}
		}
		if n := len(p); n > 0 {
			moved, _ := impl.TurnPartition(p)
			want, _ := impl.TurnMatching(m, 2*n-2)
			if got, ok := impl.MatchingOfPartition(moved); !ok || !slices.Equal(got, want) {
				t.Fatalf("%v turned is %v, but their matchings are %v and %v", p, moved, m, got)
			}
		}
		scribble(m)
	}
	for _, p := range noPartitions() {
		if m, ok := impl.MatchingOfPartition(p); len(m) != 0 || ok {
			t.Errorf("MatchingOfPartition(%v) = %v, %v", p[:min(len(p), 20)], m, ok)
		}
	}
}

func TestFormatMatching(t *testing.T) {
	for n := 1; n <= 5; n++ {
		for _, m := range matchings(n) {
			var words []string
			for i, j := range m {
				if i < j {
					words = append(words, strconv.Itoa(i)+"-"+strconv.Itoa(j))
				}
			}
			if got, want := impl.FormatMatching(m), strings.Join(words, " "); got != want {
				t.Fatalf("FormatMatching(%v) = %q, want %q", m, got, want)
			}
		}
	}
	m, _ := impl.MatchingOf("uuuuuuuudddddddd")
	if s := impl.FormatMatching(m); s != "0-15 1-14 2-13 3-12 4-11 5-10 6-9 7-8" {
		t.Errorf("text %q", s)
	}
}

func TestNoPoints(t *testing.T) {
	if m, ok := impl.MatchingOf(""); len(m) != 0 || !ok {
		t.Errorf("matching %v, %v", m, ok)
	}
	for _, p := range [][]int{nil, {}} {
		if m, ok := impl.MatchingOfPartition(p); len(m) != 0 || !ok {
			t.Errorf("matching %v, %v", m, ok)
		}
	}
	for _, m := range [][]int{nil, {}} {
		if !impl.IsMatching(m) || !impl.IsNoncrossingMatching(m) || impl.CrossingsOf(m) != 0 || impl.NestingsOf(m) != 0 {
			t.Error("no points are no matching")
		}
		if w, ok := impl.PathOfMatching(m); w != "" || !ok {
			t.Errorf("path %q, %v", w, ok)
		}
		if s := impl.FormatMatching(m); s != "none" {
			t.Errorf("text %q", s)
		}
		if turned, ok := impl.TurnMatching(m, 0); len(turned) != 0 || !ok {
			t.Errorf("turned: %v, %v", turned, ok)
		}
		for _, k := range append(farNumbers(), -1, 1, 2) {
			if turned, ok := impl.TurnMatching(m, k); len(turned) != 0 || ok {
				t.Errorf("turned by %d: %v, %v", k, turned, ok)
			}
		}
	}
}

func TestFunctionsRefuseNoMatchings(t *testing.T) {
	for _, w := range noPaths() {
		if m, ok := impl.MatchingOf(w); len(m) != 0 || ok {
			t.Errorf("MatchingOf(%q) = %v, %v", w, m, ok)
		}
	}
	for _, m := range noMatchings() {
		short := m[:min(len(m), 20)]
		if impl.IsMatching(m) || impl.IsNoncrossingMatching(m) {
			t.Errorf("%v: %v, %v", short, impl.IsMatching(m), impl.IsNoncrossingMatching(m))
		}
		if impl.CrossingsOf(m) != -1 || impl.NestingsOf(m) != -1 {
			t.Errorf("%v has %d crossings and %d nestings", short, impl.CrossingsOf(m), impl.NestingsOf(m))
		}
		if w, ok := impl.PathOfMatching(m); w != "" || ok {
			t.Errorf("PathOfMatching(%v) = %q, %v", short, w, ok)
		}
		for _, k := range []int{-1, 0, 1, len(m)} {
			if turned, ok := impl.TurnMatching(m, k); len(turned) != 0 || ok {
				t.Errorf("TurnMatching(%v, %d) = %v, %v", short, k, turned, ok)
			}
		}
		if s := impl.FormatMatching(m); s != "" {
			t.Errorf("FormatMatching(%v) = %q", short, s)
		}
	}
}

func TestMatchingsAreNotChanged(t *testing.T) {
	for _, m := range slices.Concat(matchings(0), matchings(1), matchings(2), matchings(3), noMatchings()[:20], partitions(4)) {
		given, check := guarded(t, m)
		impl.IsMatching(given)
		impl.IsNoncrossingMatching(given)
		impl.CrossingsOf(given)
		impl.NestingsOf(given)
		impl.PathOfMatching(given)
		impl.FormatMatching(given)
		for _, k := range []int{0, 1} {
			turned, _ := impl.TurnMatching(given, k)
			scribble(turned)
		}
		points, _ := impl.MatchingOfPartition(given)
		scribble(points)
		check()
	}
}
