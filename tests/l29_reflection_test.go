package tests

import (
	"slices"
	"strings"
	"testing"

	"loop.example/g03401/impl"
)

// areLetters reports whether there are at most 16 letters u and d, and so many d more than u.
func areLetters(w string, more int) bool {
	return len(w) <= 16 && strings.Trim(w, "ud") == "" && strings.Count(w, "d")-strings.Count(w, "u") == more
}

func isBadByHand(w string) bool {
	return areLetters(w, 0) && !shrinksToNothing(w)
}

// reflectedByHand looks for the shortest beginning with one d more than u.
func reflectedByHand(w string) string {
	cut := 1
	for !areLetters(w[:cut], 1) {
		cut++
	}
	exchanged := ""
	for _, letter := range w[cut:] {
		exchanged += map[rune]string{'u': "d", 'd': "u"}[letter]
	}
	return w[:cut] + exchanged
}

// noReflections returns words that have other letters, or are too long.
func noReflections() []string {
	return []string{
		"x", "xx", "dxu", "dxd", "dux", "ddx", "DU", "Dd", "d u", " du", "du ", "dd\n", "dd\x00", "\x00", "du\xff", "\xff", "d\xffu", "ďu", "ｄｕ", "ld", "dlu", ")(", "))",
		strings.Repeat("du", 9), strings.Repeat("d", 9) + strings.Repeat("u", 9), strings.Repeat("du", 8) + "dd", strings.Repeat("d", 10) + strings.Repeat("u", 8), strings.Repeat("ud", 8) + "d", strings.Repeat("d", 18),
		strings.Repeat("d", 256), strings.Repeat("du", 128), strings.Repeat("d", 258) + strings.Repeat("u", 256), strings.Repeat("du", 5000), strings.Repeat("du", 5000) + "dd",
	}
}

func TestIsBadOfAllWords(t *testing.T) {
	for _, w := range slices.Concat(shortStrings("ud", 18), shortStrings("udx\xff", 5), noReflections()) {
		if got, want := impl.IsBad(w), isBadByHand(w); got != want {
			t.Fatalf("IsBad(%.40q) = %v", w, got)
		}
	}
}

func TestReflectionsCorrespond(t *testing.T) {
	reached := map[string]bool{}
	low := 0
	for _, w := range shortStrings("ud", 16) {
		want, wantOk := "", isBadByHand(w)
		if wantOk {
			want = reflectedByHand(w)
		}
		got, ok := impl.ReflectBad(w)
		if got != want || ok != wantOk {
			t.Fatalf("ReflectBad(%q) = %q, %v, want %q", w, got, ok, want)
		}
		if ok {
			reached[got] = true
			if back, ok := impl.UnreflectWord(got); back != w || !ok {
				t.Fatalf("UnreflectWord(%q) = %q, %v, want %q", got, back, ok, w)
			}
		}
		want, wantOk = "", areLetters(w, 2)
		if wantOk {
			low++
			want = reflectedByHand(w)
		}
		got, ok = impl.UnreflectWord(w)
		if got != want || ok != wantOk {
			t.Fatalf("UnreflectWord(%q) = %q, %v, want %q", w, got, ok, want)
		}
		if again, isBad := impl.ReflectBad(got); ok && (again != w || !isBad) {
			t.Fatalf("ReflectBad(%q) = %q, %v, want %q", got, again, isBad, w)
		}
	}
	if len(reached) != low {
		t.Errorf("%d words have been reached by reflections, want %d", len(reached), low)
	}
}

func TestReflectionOfPaths(t *testing.T) {
	for _, w := range allPaths() {
		if impl.IsBad(w) {
			t.Errorf("IsBad(%q)", w)
		}
		if got, ok := impl.ReflectBad(w); got != "" || ok {
			t.Errorf("ReflectBad(%q) = %q, %v", w, got, ok)
		}
		if got, ok := impl.UnreflectWord(w); got != "" || ok {
			t.Errorf("UnreflectWord(%q) = %q, %v", w, got, ok)
		}
	}
}

func TestReflectionsRefuse(t *testing.T) {
	for _, w := range slices.Concat(noReflections(), shortStrings("udx", 7)) {
		if got, ok := impl.ReflectBad(w); !isBadByHand(w) && (got != "" || ok) {
			t.Errorf("ReflectBad(%.40q) = %q, %v", w, got, ok)
		}
		if got, ok := impl.UnreflectWord(w); !areLetters(w, 2) && (got != "" || ok) {
			t.Errorf("UnreflectWord(%.40q) = %q, %v", w, got, ok)
		}
	}
	// Words with one or more than two d more than u are low enough, but no reflections.
	for _, w := range []string{"d", "ddd", "dddd", "ddudd", strings.Repeat("d", 16), strings.Repeat("d", 15)} {
		if got, ok := impl.UnreflectWord(w); got != "" || ok {
			t.Errorf("UnreflectWord(%q) = %q, %v", w, got, ok)
		}
	}
}

func TestCountWords(t *testing.T) {
	counts := map[[2]int]int{}
	for _, w := range shortStrings("ud", 14) {
		counts[[2]int{strings.Count(w, "u"), strings.Count(w, "d")}]++
	}
	for up := -2; up <= 18; up++ {
		for down := -2; down <= 18; down++ {
			want := -1
			if 0 <= up && up <= 15 && 0 <= down && down <= 15 {
				want = choose(up+down, up)
			}
			got := impl.CountWords(up, down)
			if got != want {
				t.Errorf("CountWords(%d, %d) = %d, want %d", up, down, got, want)
			}
			if up >= 0 && down >= 0 && up+down <= 14 && got != counts[[2]int{up, down}] {
				t.Errorf("CountWords(%d, %d) = %d, but there are %d", up, down, got, counts[[2]int{up, down}])
			}
		}
	}
	for _, far := range farNumbers() {
		for _, near := range []int{-1, 0, 1, 15, 16, far} {
			if impl.CountWords(far, near) != -1 || impl.CountWords(near, far) != -1 {
				t.Errorf("CountWords of %d and %d", far, near)
			}
		}
	}
}

func TestCountBad(t *testing.T) {
	counts := make([]int, 9)
	for _, w := range shortStrings("ud", 16) {
		if isBadByHand(w) {
			counts[len(w)/2]++
		}
	}
	for n := range 15 {
		got := impl.CountBad(n)
		if want := choose(2*n, n) - impl.CatalanNumber(n); got != want {
			t.Errorf("CountBad(%d) = %d, want %d", n, got, want)
		}
		if n <= 8 && got != counts[n] {
			t.Errorf("CountBad(%d) = %d, but there are %d", n, got, counts[n])
		}
	}
	for _, n := range append(farNumbers(), -2, -1, 15, 16) {
		if got := impl.CountBad(n); got != -1 {
			t.Errorf("CountBad(%d) = %d", n, got)
		}
	}
}

func TestBallotByReflection(t *testing.T) {
	for up := -3; up <= 18; up++ {
		for down := -3; down <= 18; down++ {
			want := 0
			if 0 <= up && up <= down && down <= 14 {
				want = impl.BallotNumber(up, down)
				if up+down <= 16 && want != countWords(up, down, down-up) {
					t.Errorf("BallotNumber(%d, %d) = %d", up, down, want)
				}
			}
			if got := impl.BallotByReflection(up, down); got != want {
				t.Errorf("BallotByReflection(%d, %d) = %d, want %d", up, down, got, want)
			}
		}
	}
	for _, far := range farNumbers() {
		for _, near := range []int{-1, 0, 1, 14, 15, far} {
			if impl.BallotByReflection(far, near) != 0 || impl.BallotByReflection(near, far) != 0 {
				t.Errorf("BallotByReflection of %d and %d", far, near)
			}
		}
	}
}

// withinByHand goes from the heights at one place to those at the next one.
func withinByHand(n int, h int) int {
	ways := make([]int, h+1)
	ways[0] = 1
	for range 2 * n {
		next := make([]int, h+1)
		for height, count := range ways {
			if height > 0 {
				next[height-1] += count
			}
			if height < h {
				next[height+1] += count
			}
		}
		ways = next
	}
	return ways[0]
}

func TestCountWithin(t *testing.T) {
	for n := range 15 {
		for h := range 16 {
			if got, want := impl.CountWithin(n, h), withinByHand(n, h); got != want {
				t.Errorf("CountWithin(%d, %d) = %d, want %d", n, h, got, want)
			}
		}
		if got := impl.CountWithin(n, n); got != impl.CatalanNumber(n) {
			t.Errorf("CountWithin(%d, %d) = %d", n, n, got)
		}
	}
	for n, paths := range pathsBySize(8) {
		counts := make([]int, 16)
		for _, w := range paths {
			for h := slices.Max(letterHeights(w)); h < 16; h++ {
				counts[h]++
			}
		}
		for h, want := range counts {
			if got := impl.CountWithin(n, h); got != want {
				t.Errorf("CountWithin(%d, %d) = %d, but there are %d", n, h, got, want)
			}
		}
	}
}

func TestCountWithinOutOfRange(t *testing.T) {
	for _, far := range append(farNumbers(), -2, -1, 16, 17) {
		for near := -1; near <= 16; near++ {
			if impl.CountWithin(far, near) != -1 || impl.CountWithin(near, far) != -1 {
				t.Errorf("CountWithin of %d and %d", far, near)
			}
		}
	}
	for h := range 16 {
		if got := impl.CountWithin(15, h); got != -1 {
			t.Errorf("CountWithin(15, %d) = %d", h, got)
		}
	}
}
