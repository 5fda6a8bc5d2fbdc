package tests

import (
	"math"
	"slices"
	"strings"
	"testing"

	"loop.example/g03401/impl"
)

// widthByHand counts the letters of a word, where l counts twice.
func widthByHand(w string) int {
	return len(w) + strings.Count(w, "l")
}

// schroederByHand returns the paths of Schroeder of a width of at most 2n, by width and in order.
func schroederByHand(n int) [][]string {
	by := make([][]string, n+1)
	for _, w := range shortStrings("uld", 2*n) {
		if width := widthByHand(w); isLevelWord(w) && width <= 2*n {
			by[width/2] = append(by[width/2], w)
		}
	}
	inOrder := strings.NewReplacer("u", "1", "l", "2", "d", "3")
	for _, words := range by {
		slices.SortFunc(words, func(v string, w string) int { return strings.Compare(inOrder.Replace(v), inOrder.Replace(w)) })
	}
	return by
}

// flattenedByHand puts l in place of the peaks of a set from the last one on, so that the places before stay.
func flattenedByHand(w string, set int) string {
	for peak := strings.Count(w, "ud") - 1; peak >= 0; peak-- {
		if set/(1<<peak)%2 == 0 {
			continue
		}
		place := 0
		for range peak {
			place += strings.Index(w[place:], "ud") + 2
		}
		place += strings.Index(w[place:], "ud")
		w = w[:place] + "l" + w[place+2:]
	}
	return w
}

func TestIsSchroederOfAllWords(t *testing.T) {
	check := func(w string) {
		t.Helper()
		want := widthByHand(w) <= 16 && isLevelWord(w)
		if got := impl.IsSchroeder(w); got != want {
			t.Fatalf("IsSchroeder(%q) = %v", w, got)
		}
		if _, _, ok := impl.LiftLevels(w); ok != want {
			t.Fatalf("LiftLevels(%q) is %v", w, ok)
		}
	}
	for _, w := range slices.Concat(shortStrings("uld", 10), shortStrings("uldx\xff", 6), longLevelWords(), noLevelWords(), allPaths(), noPaths()) {
		check(w)
	}
}

func TestSchroederNumber(t *testing.T) {
	for n := range 13 {
		// The letters u and d are a path, and each level stands at one of its places.
		want := 0
		for size := range n + 1 {
			want += choose(n+size, 2*size) * impl.CatalanNumber(size)
		}
		if got := impl.SchroederNumber(n); got != want {
			t.Errorf("SchroederNumber(%d) = %d, want %d", n, got, want)
		}
		half := max(want/2, 1)
		if got := impl.LittleSchroeder(n); got != half || n > 0 && 2*half != want {
			t.Errorf("LittleSchroeder(%d) = %d, want %d", n, got, half)
		}
	}
	if got := impl.SchroederNumber(12); got != 27297738 {
		t.Errorf("SchroederNumber(12) = %d", got)
	}
	for _, n := range append(farNumbers(), -2, -1, 13, 14) {
		if impl.SchroederNumber(n) != -1 || impl.LittleSchroeder(n) != -1 {
			t.Errorf("the numbers of %d are %d and %d", n, impl.SchroederNumber(n), impl.LittleSchroeder(n))
		}
	}
}

func TestSchroederListsHaveAsManyWordsAsTheirNumbers(t *testing.T) {
	for n, want := range schroederByHand(4) {
		got, ok := impl.SchroederPaths(n)
		if !ok || !slices.Equal(got, want) {
			t.Errorf("SchroederPaths(%d) = %q, %v, want %q", n, got, ok, want)
		}
		if number := impl.SchroederNumber(n); len(got) != number {
			t.Errorf("%d paths, but SchroederNumber(%d) is %d", len(got), n, number)
		}
		// Without levels on the ground there are half as many.
		grounded := 0
		for _, w := range got {
			if !impl.IsSchroeder(w) || strings.Count(w, "u")+strings.Count(w, "l") != n {
				t.Errorf("%q is listed for %d", w, n)
			}
			for i := range len(w) {
				if w[i] == 'l' && isLevelWord(w[:i]) {
					grounded++
					break
				}
			}
		}
		if little := impl.LittleSchroeder(n); len(got)-grounded != little {
			t.Errorf("%d paths without levels on the ground, but LittleSchroeder(%d) is %d", len(got)-grounded, n, little)
		}
		clear(got[:cap(got)])
	}
	for _, n := range append(farNumbers(), -2, -1, 5, 6, 8, 12) {
		if got, ok := impl.SchroederPaths(n); len(got) != 0 || ok {
			t.Errorf("SchroederPaths(%d) has %d words, %v", n, len(got), ok)
		}
	}
}

func TestPeaksAreFlattenedAndLifted(t *testing.T) {
	for _, w := range allPaths() {
		for set := range 1 << strings.Count(w, "ud") {
			want := flattenedByHand(w, set)
			got, ok := impl.FlattenPeaks(w, set)
			if got != want || !ok {
				t.Fatalf("FlattenPeaks(%q, %b) = %q, %v, want %q", w, set, got, ok, want)
			}
			if lifted, found, ok := impl.LiftLevels(got); lifted != w || found != set || !ok {
				t.Fatalf("LiftLevels(%q) = %q, %b, %v, want %q, %b", got, lifted, found, ok, w, set)
			}
		}
	}
}

func TestLevelsAreLiftedAndFlattened(t *testing.T) {
	for _, w := range slices.Concat(schroederByHand(5)...) {
		path, set, ok := impl.LiftLevels(w)
		if !ok || path != strings.ReplaceAll(w, "l", "ud") || flattenedByHand(path, set) != w {
			t.Fatalf("LiftLevels(%q) = %q, %b, %v", w, path, set, ok)
		}
		if again, ok := impl.FlattenPeaks(path, set); again != w || !ok {
			t.Fatalf("FlattenPeaks(%q, %b) = %q, %v, want %q", path, set, again, ok, w)
		}
	}
	// Eight levels are eight peaks on the ground.
	if path, set, ok := impl.LiftLevels("llllllll"); path != strings.Repeat("ud", 8) || set != 255 || !ok {
		t.Errorf("eight levels are lifted to %q, %b, %v", path, set, ok)
	}
}

func TestPathWithoutPeaks(t *testing.T) {
	if w, ok := impl.FlattenPeaks("", 0); w != "" || !ok {
		t.Errorf("the empty path is flattened to %q, %v", w, ok)
	}
	for _, set := range append(farNumbers(), -2, -1, 1, 2, 3) {
		if w, ok := impl.FlattenPeaks("", set); w != "" || ok {
			t.Errorf("FlattenPeaks of the empty path and %d is %q, %v", set, w, ok)
		}
	}
	if w, set, ok := impl.LiftLevels(""); w != "" || set != 0 || !ok {
		t.Errorf("the empty path is lifted to %q, %d, %v", w, set, ok)
	}
	if l, ok := impl.SchroederPaths(0); !ok || !slices.Equal(l, []string{""}) || !impl.IsSchroeder("") {
		t.Errorf("SchroederPaths(0) = %q, %v", l, ok)
	}
	// With all peaks flattened a path has none, and all of them come back.
	for _, w := range allPaths() {
		all := 1<<strings.Count(w, "ud") - 1
		flat, ok := impl.FlattenPeaks(w, all)
		if !ok || strings.Contains(flat, "ud") {
			t.Fatalf("FlattenPeaks(%q, %b) = %q, %v", w, all, flat, ok)
		}
		if path, set, ok := impl.LiftLevels(flat); path != w || set != all || !ok {
			t.Fatalf("LiftLevels(%q) = %q, %b, %v", flat, path, set, ok)
		}
		if same, ok := impl.FlattenPeaks(w, 0); same != w || !ok {
			t.Fatalf("FlattenPeaks(%q, 0) = %q, %v", w, same, ok)
		}
		if path, set, ok := impl.LiftLevels(w); path != w || set != 0 || !ok {
			t.Fatalf("LiftLevels(%q) = %q, %b, %v", w, path, set, ok)
		}
	}
}

func TestFlattenPeaksRefuses(t *testing.T) {
	for _, w := range append(noPaths(), noLevelWords()...) {
		for _, set := range []int{math.MinInt, -1, 0, 1, math.MaxInt} {
			if got, ok := impl.FlattenPeaks(w, set); got != "" || ok {
				t.Errorf("FlattenPeaks(%.40q, %d) = %q, %v", w, set, got, ok)
			}
		}
	}
	// A path of Schroeder with levels is no path.
	for _, w := range []string{"l", "uld", "udl", "uudld", "lud"} {
		if got, ok := impl.FlattenPeaks(w, 0); got != "" || ok {
			t.Errorf("FlattenPeaks(%q, 0) = %q, %v", w, got, ok)
		}
	}
	for _, w := range allPaths() {
		sets := 1 << strings.Count(w, "ud")
		for _, set := range append(farNumbers(), -sets, -2, -1, sets, sets+1, 2*sets, 1<<32) {
			if set >= 0 && set < sets {
				continue
			}
			if got, ok := impl.FlattenPeaks(w, set); got != "" || ok {
				t.Fatalf("FlattenPeaks(%q, %d) = %q, %v", w, set, got, ok)
			}
		}
	}
}

func TestLiftLevelsRefuses(t *testing.T) {
	for _, w := range append(noLevelWords(), longLevelWords()...) {
		if widthByHand(w) <= 16 && isLevelWord(w) {
			continue
		}
		if path, set, ok := impl.LiftLevels(w); path != "" || set != 0 || ok {
			t.Errorf("LiftLevels(%.40q) = %q, %d, %v", w, path, set, ok)
		}
	}
}
