package tests

import (
	"slices"
	"strings"
	"testing"

	"loop.example/g03401/impl"
)

// isLevelWord reports whether w is a path of any size without its letters l.
func isLevelWord(w string) bool {
	return shrinksToNothing(strings.ReplaceAll(w, "l", ""))
}

// noLevelWords returns words that are paths neither of Motzkin nor of Schroeder.
func noLevelWords() []string {
	l := []string{
		"x", "uxd", "ULD", "Uld", "u l d", " uld", "uld ", "uld\n", "uld\x00", "\x00", "l\x00", "()", "uld\xff", "\xff", "l\xff", "ûld", "uľd", "ｕｌｄ", "ul\u0064\u0301", "uId", "u1d", "|", "lL",
		"du", "dl", "ld", "ul", "lu", "u", "d", "udd", "uud", "lduul", "dlu", "uldd", "uuld", "uldul", "uddul",
		strings.Repeat("l", 17), strings.Repeat("l", 256), strings.Repeat("uld", 100), strings.Repeat("u", 9) + strings.Repeat("d", 9), strings.Repeat("ud", 9),
		strings.Repeat("u", 256), strings.Repeat("d", 256) + strings.Repeat("u", 256), strings.Repeat("ud", 128), strings.Repeat("ul", 5000) + strings.Repeat("d", 5000),
	}
	for _, w := range shortStrings("uld", 5) {
		if !isLevelWord(w) {
			l = append(l, w)
		}
	}
	return l
}

// longLevelWords returns words of the lengths from 9 to 19 that are paths but for their lengths, or nearly so.
func longLevelWords() []string {
	var l []string
	for _, w := range shortStrings("uld", 4) {
		for n := range 16 {
			for _, part := range []string{"l", "ud", "uld"} {
				l = append(l, w+strings.Repeat(part, n), strings.Repeat(part, n)+w)
			}
			l = append(l, strings.Repeat("u", n)+w+strings.Repeat("d", n))
		}
	}
	return l
}

// motzkinByHand returns the paths of Motzkin of n letters in order.
func motzkinByHand(n int) []string {
	// The letters of the alphabet stand in the order of the lists.
	all := shortStrings("uld", n)
	return slices.DeleteFunc(all, func(w string) bool { return len(w) < n || !isLevelWord(w) })
}

func TestIsMotzkinOfAllWords(t *testing.T) {
	check := func(w string) {
		t.Helper()
		want := len(w) <= 12 && isLevelWord(w)
		if got := impl.IsMotzkin(w); got != want {
			t.Fatalf("IsMotzkin(%q) = %v", w, got)
		}
		levels := -1
		if want {
			levels = strings.Count(w, "l")
		}
		if got := impl.LevelSteps(w); got != levels {
			t.Fatalf("LevelSteps(%q) = %d, want %d", w, got, levels)
		}
	}
	for _, w := range slices.Concat(shortStrings("uld", 10), shortStrings("uldx\xff", 6), longLevelWords(), noLevelWords()) {
		check(w)
	}
}

func TestMotzkinNumber(t *testing.T) {
	for n := range 21 {
		// The letters u and d are a path that stands at some of the places.
		want := 0
		for size := 0; 2*size <= n; size++ {
			want += choose(n, 2*size) * impl.CatalanNumber(size)
		}
		if got := impl.MotzkinNumber(n); got != want {
			t.Errorf("MotzkinNumber(%d) = %d, want %d", n, got, want)
		}
	}
	if got := impl.MotzkinNumber(20); got != 50852019 {
		t.Errorf("MotzkinNumber(20) = %d", got)
	}
	for _, n := range append(farNumbers(), -2, -1, 21, 22) {
		if got := impl.MotzkinNumber(n); got != -1 {
			t.Errorf("MotzkinNumber(%d) = %d", n, got)
		}
	}
}

func TestMotzkinListsHaveAsManyWordsAsTheirNumbers(t *testing.T) {
	for n := range 8 {
		got, ok := impl.MotzkinPaths(n)
		if !ok || !slices.Equal(got, motzkinByHand(n)) {
			t.Errorf("MotzkinPaths(%d) = %q, %v", n, got, ok)
		}
		if number := impl.MotzkinNumber(n); len(got) != number {
			t.Errorf("%d paths of %d letters, but MotzkinNumber is %d", len(got), n, number)
		}
		for _, w := range got {
			if !impl.IsMotzkin(w) {
				t.Errorf("%q is listed", w)
			}
		}
		clear(got[:cap(got)])
	}
	for _, n := range append(farNumbers(), -2, -1, 8, 9, 12, 13, 20) {
		if got, ok := impl.MotzkinPaths(n); len(got) != 0 || ok {
			t.Errorf("MotzkinPaths(%d) has %d words, %v", n, len(got), ok)
		}
	}
}

func TestMotzkinOfAllPaths(t *testing.T) {
	found := map[string]bool{}
	for _, w := range allPaths() {
		want, wantOk := "", true
		for i := 0; i < len(w); i += 2 {
			letter := map[string]string{"uu": "u", "ud": "l", "dd": "d"}[w[i:i+2]]
			want += letter
			wantOk = wantOk && letter != ""
		}
		if !wantOk {
			want = ""
		}
		got, ok := impl.MotzkinOf(w)
		if got != want || ok != wantOk {
			t.Fatalf("MotzkinOf(%q) = %q, %v, want %q", w, got, ok, want)
		}
		if !ok {
			continue
		}
		found[got] = true
		if !impl.IsMotzkin(got) || len(got) != len(w)/2 {
			t.Fatalf("MotzkinOf(%q) = %q", w, got)
		}
		if again, ok := impl.DyckOfMotzkin(got); again != w || !ok {
			t.Fatalf("DyckOfMotzkin(%q) = %q, %v, want %q", got, again, ok, w)
		}
	}
	want := 0
	for n := range 9 {
		want += impl.MotzkinNumber(n)
	}
	if len(found) != want {
		t.Errorf("%d paths of Motzkin have been found, want %d", len(found), want)
	}
}

func TestDyckOfMotzkinIsReadBack(t *testing.T) {
	for n := range 11 {
		for _, w := range motzkinByHand(n) {
			want := ""
			for _, letter := range w {
				want += map[rune]string{'u': "uu", 'l': "ud", 'd': "dd"}[letter]
			}
			if n > 8 {
				want = ""
			}
			got, ok := impl.DyckOfMotzkin(w)
			if got != want || ok != (n <= 8) {
				t.Fatalf("DyckOfMotzkin(%q) = %q, %v, want %q", w, got, ok, want)
			}
			if again, readOk := impl.MotzkinOf(got); ok && (again != w || !readOk) {
				t.Fatalf("MotzkinOf(%q) = %q, %v, want %q", got, again, readOk, w)
			}
		}
	}
}

func TestEmptyMotzkinWord(t *testing.T) {
	if !impl.IsMotzkin("") || impl.LevelSteps("") != 0 || impl.MotzkinNumber(0) != 1 {
		t.Error("the empty word is no path of Motzkin")
	}
	if l, ok := impl.MotzkinPaths(0); !ok || !slices.Equal(l, []string{""}) {
		t.Errorf("MotzkinPaths(0) = %q, %v", l, ok)
	}
	if w, ok := impl.MotzkinOf(""); w != "" || !ok {
		t.Errorf("MotzkinOf of the empty path is %q, %v", w, ok)
	}
	if w, ok := impl.DyckOfMotzkin(""); w != "" || !ok {
		t.Errorf("DyckOfMotzkin of the empty word is %q, %v", w, ok)
	}
}

func TestMotzkinRefuses(t *testing.T) {
	for _, w := range noPaths() {
		if got, ok := impl.MotzkinOf(w); got != "" || ok {
			t.Errorf("MotzkinOf(%.40q) = %q, %v", w, got, ok)
		}
	}
	for _, w := range append(noLevelWords(), longLevelWords()...) {
		if len(w) <= 8 && isLevelWord(w) {
			continue
		}
		if got, ok := impl.DyckOfMotzkin(w); got != "" || ok {
			t.Errorf("DyckOfMotzkin(%.40q) = %q, %v", w, got, ok)
		}
	}
	for _, w := range []string{"uld", "l", "uudl", "udud!"} {
		if got, ok := impl.MotzkinOf(w); got != "" || ok {
			t.Errorf("MotzkinOf(%q) = %q, %v", w, got, ok)
		}
	}
}
