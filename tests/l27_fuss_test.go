package tests

import (
	"math"
	"slices"
	"strings"
	"testing"

	"loop.example/g03401/impl"
)

// isFussByHand counts the letters before each place anew.
func isFussByHand(m int, w string) bool {
	if m < 1 || m > 4 || len(w) > 24 || strings.Trim(w, "ud") != "" {
		return false
	}
	height := 0
	for i := range len(w) + 1 {
		height = (m-1)*strings.Count(w[:i], "u") - strings.Count(w[:i], "d")
		if height < 0 {
			return false
		}
	}
	return height == 0
}

// fussByHand returns the words with at most n letters u by their number, in order; words with n letters u have m times n letters.
func fussByHand(m int, n int) [][]string {
	by := make([][]string, n+1)
	for _, w := range shortStrings("ud", m*n) {
		if isFussByHand(m, w) {
			by[len(w)/m] = append(by[len(w)/m], w)
		}
	}
	return by
}

// joinedByHand puts d between the words, and u before all.
func joinedByHand(l []string) string {
	return "u" + strings.Join(l, "d")
}

// fussTuples returns all lists of m of the words.
func fussTuples(m int, words []string) [][]string {
	tuples := [][]string{nil}
	for range m {
		var longer [][]string
		for _, tuple := range tuples {
			for _, w := range words {
				longer = append(longer, append(slices.Clone(tuple), w))
			}
		}
		tuples = longer
	}
	return tuples
}

// noFuss returns words that are no words of Fuss for any m.
func noFuss() []string {
	return []string{
		"x", "uxd", "UD", "u d", " ", "ud ", "udd\n", "udd\x00", "\x00", "udd\xff", "\xff", "ûd", "ｕｄ", "l", "uld", "0", "d", "du", "ddu", "dud", "dduu", "udddd", "uddddd", "uudud",
		strings.Repeat("u", 25), strings.Repeat("ud", 13), strings.Repeat("udd", 9), strings.Repeat("uddd", 7), strings.Repeat("u", 256), strings.Repeat("ud", 5000), strings.Repeat("d", 25), strings.Repeat("d", 1<<16) + strings.Repeat("u", 1<<16),
	}
}

func TestIsFussOfAllWords(t *testing.T) {
	words := slices.Concat(shortStrings("ud", 12), shortStrings("udx\xff", 4), noFuss())
	for m := 1; m <= 4; m++ {
		part := "u" + strings.Repeat("d", m-1)
		for n := range 27 {
			words = append(words, strings.Repeat(part, n), strings.Repeat("u", n)+strings.Repeat("d", (m-1)*n), strings.Repeat(part, n)+"u", strings.Repeat(part, n)+"d")
		}
	}
	for _, m := range append(farNumbers(), -4, -3, -2, -1, 0, 1, 2, 3, 4, 5, 6, 1<<32+2, 1<<32+3) {
		for _, w := range words {
			if got, want := impl.IsFuss(m, w), isFussByHand(m, w); got != want {
				t.Fatalf("IsFuss(%d, %.40q) = %v", m, w, got)
			}
		}
	}
}

func TestFussNumber(t *testing.T) {
	for m := 1; m <= 4; m++ {
		// Behind the first u stand m words with the other letters u.
		numbers := []int{1}
		for n := 1; n <= 6; n++ {
			lists := []int{1}
			for range m {
				next := make([]int, n)
				for i, count := range lists {
					for k := 0; i+k < n; k++ {
						next[i+k] += count * numbers[k]
					}
				}
				lists = next
			}
			numbers = append(numbers, lists[n-1])
		}
		for n, want := range numbers {
			if got := impl.FussNumber(m, n); got != want {
				t.Errorf("FussNumber(%d, %d) = %d, want %d", m, n, got, want)
			}
		}
	}
	for n := range 7 {
		if got := impl.FussNumber(2, n); got != impl.CatalanNumber(n) {
			t.Errorf("FussNumber(2, %d) = %d", n, got)
		}
	}
	for m := -2; m <= 7; m++ {
		for _, n := range append(farNumbers(), -2, -1, 0, 1, 6, 7, 8) {
			if m >= 1 && m <= 4 && n >= 0 && n <= 6 {
				continue
			}
			if got := impl.FussNumber(m, n); got != -1 {
				t.Errorf("FussNumber(%d, %d) = %d", m, n, got)
			}
			if got := impl.FussNumber(n, m); (n < 1 || n > 4) && got != -1 {
				t.Errorf("FussNumber(%d, %d) = %d", n, m, got)
			}
		}
	}
}

func TestFussListsHaveAsManyWordsAsTheirNumbers(t *testing.T) {
	for m := 1; m <= 4; m++ {
		for n, want := range fussByHand(m, 4) {
			got, ok := impl.FussPaths(m, n)
			if !ok || !slices.Equal(got, want) {
				t.Errorf("FussPaths(%d, %d) = %q, %v", m, n, got, ok)
			}
			if number := impl.FussNumber(m, n); len(got) != number {
				t.Errorf("%d words, but FussNumber(%d, %d) is %d", len(got), m, n, number)
			}
			for k, w := range got {
				if !impl.IsFuss(m, w) || strings.Count(w, "u") != n {
					t.Errorf("FussPaths(%d, %d) has %q", m, n, w)
				}
				if rank := impl.FussRank(m, w); rank != k {
					t.Errorf("FussRank(%d, %q) = %d, want %d", m, w, rank, k)
				}
			}
			clear(got[:cap(got)])
		}
		for _, n := range append(farNumbers(), -2, -1, 5, 6, 7) {
			if got, ok := impl.FussPaths(m, n); len(got) != 0 || ok {
				t.Errorf("FussPaths(%d, %d) has %d words, %v", m, n, len(got), ok)
			}
		}
	}
	for _, m := range append(farNumbers(), -2, -1, 0, 5, 6) {
		for n := -1; n <= 5; n++ {
			if got, ok := impl.FussPaths(m, n); len(got) != 0 || ok {
				t.Errorf("FussPaths(%d, %d) has %d words, %v", m, n, len(got), ok)
			}
		}
	}
}

func TestFussWordsOfTwoAreTheirPaths(t *testing.T) {
	for n := range 5 {
		got, _ := impl.FussPaths(2, n)
		if !slices.Equal(got, impl.PathsOf(n)) {
			t.Errorf("FussPaths(2, %d) = %q", n, got)
		}
	}
	for _, w := range allPaths() {
		if !impl.IsFuss(2, w) {
			t.Errorf("IsFuss(2, %q)", w)
		}
	}
}

func TestSplitFussIsJoinedAgain(t *testing.T) {
	for m := 1; m <= 4; m++ {
		for _, w := range slices.Concat(fussByHand(m, 4)[1:]...) {
			l, ok := impl.SplitFuss(m, w)
			if !ok || len(l) != m || joinedByHand(l) != w {
				t.Fatalf("SplitFuss(%d, %q) = %q, %v", m, w, l, ok)
			}
			for _, part := range l {
				if !isFussByHand(m, part) {
					t.Fatalf("SplitFuss(%d, %q) = %q", m, w, l)
				}
			}
			if again, ok := impl.JoinFuss(m, l); again != w || !ok {
				t.Fatalf("JoinFuss(%d, %q) = %q, %v, want %q", m, l, again, ok, w)
			}
			clear(l[:cap(l)])
		}
	}
}

func TestJoinedFussWordsAreSplitAgain(t *testing.T) {
	for m := 1; m <= 4; m++ {
		for _, l := range fussTuples(m, slices.Concat(fussByHand(m, 2)...)) {
			given := append(slices.Clone(l), "behind", "it")
			want := joinedByHand(l)
			wantOk := len(want) <= 24
			if !wantOk {
				want = ""
			}
			got, ok := impl.JoinFuss(m, given[:m])
			if got != want || ok != wantOk {
				t.Fatalf("JoinFuss(%d, %q) = %q, %v, want %q", m, l, got, ok, want)
			}
			if !slices.Equal(given, append(slices.Clone(l), "behind", "it")) {
				t.Fatalf("the argument %q has become %q", l, given)
			}
			if !ok {
				continue
			}
			if again, ok := impl.SplitFuss(m, got); !ok || !slices.Equal(again, l) {
				t.Fatalf("SplitFuss(%d, %q) = %q, %v, want %q", m, got, again, ok, l)
			}
		}
	}
}

func TestJoinedFussWordsOfTheGreatestLength(t *testing.T) {
	for m := 1; m <= 4; m++ {
		part := "u" + strings.Repeat("d", m-1)
		for place := range m {
			for n := range 24/m + 2 {
				l := make([]string, m)
				l[place] = strings.Repeat(part, n)
				w, ok := impl.JoinFuss(m, l)
				if fits := m*(n+1) <= 24; ok != fits || fits && w != joinedByHand(l) || !fits && w != "" {
					t.Errorf("JoinFuss(%d, %q) = %q, %v", m, l, w, ok)
				}
				if !ok {
					continue
				}
				if again, ok := impl.SplitFuss(m, w); !ok || !slices.Equal(again, l) {
					t.Errorf("SplitFuss(%d, %q) = %q, %v, want %q", m, w, again, ok, l)
				}
			}
		}
	}
}

func TestFussOfNumber1(t *testing.T) {
	for n := range 27 {
		w := strings.Repeat("u", n)
		if got := impl.IsFuss(1, w); got != (n <= 24) {
			t.Errorf("IsFuss(1, %q) = %v", w, got)
		}
		want := -1
		if n <= 4 {
			want = 0
		}
		if got := impl.FussRank(1, w); got != want {
			t.Errorf("FussRank(1, %q) = %d", w, got)
		}
		if l, ok := impl.FussPaths(1, n); ok != (n <= 4) || ok && !slices.Equal(l, []string{w}) {
			t.Errorf("FussPaths(1, %d) = %q, %v", n, l, ok)
		}
		if l, ok := impl.SplitFuss(1, w); ok != (1 <= n && n <= 24) || ok && !slices.Equal(l, []string{w[1:]}) {
			t.Errorf("SplitFuss(1, %q) = %q, %v", w, l, ok)
		}
		if joined, ok := impl.JoinFuss(1, []string{w}); ok != (n <= 23) || ok && joined != w+"u" {
			t.Errorf("JoinFuss(1, %q) = %q, %v", w, joined, ok)
		}
		for _, other := range []string{w + "d", "d" + w, "u" + w + "d"} {
			if impl.IsFuss(1, other) || impl.FussRank(1, other) != -1 {
				t.Errorf("IsFuss(1, %q)", other)
			}
		}
		number := -1
		if n <= 6 {
			number = 1
		}
		if got := impl.FussNumber(1, n); got != number {
			t.Errorf("FussNumber(1, %d) = %d", n, got)
		}
	}
}

// refuseFuss checks that a word is none for m.
func refuseFuss(t *testing.T, m int, w string) {
	t.Helper()
	if impl.IsFuss(m, w) {
		t.Errorf("IsFuss(%d, %.40q)", m, w)
	}
	if l, ok := impl.SplitFuss(m, w); len(l) != 0 || ok {
		t.Errorf("SplitFuss(%d, %.40q) = %q, %v", m, w, l, ok)
	}
	if got := impl.FussRank(m, w); got != -1 {
		t.Errorf("FussRank(%d, %.40q) = %d", m, w, got)
	}
	for place := range min(max(m, 0), 4) {
		l := make([]string, m)
		l[place] = w
		if got, ok := impl.JoinFuss(m, l); got != "" || ok {
			t.Errorf("JoinFuss(%d) of %.40q at place %d is %q, %v", m, w, place, got, ok)
		}
	}
}

func TestFussRefuses(t *testing.T) {
	for m := 1; m <= 4; m++ {
		for _, w := range noFuss() {
			refuseFuss(t, m, w)
		}
		for _, w := range shortStrings("ud", 9) {
			if !isFussByHand(m, w) {
				refuseFuss(t, m, w)
			}
		}
		if l, ok := impl.SplitFuss(m, ""); len(l) != 0 || ok || impl.FussRank(m, "") != 0 {
			t.Errorf("SplitFuss(%d) of the empty word is %q, %v", m, l, ok)
		}
		for n := range 8 {
			if got, ok := impl.JoinFuss(m, make([]string, n)); ok != (n == m) || !ok && got != "" {
				t.Errorf("JoinFuss(%d) of %d words is %q, %v", m, n, got, ok)
			}
		}
		if got, ok := impl.JoinFuss(m, nil); got != "" || ok {
			t.Errorf("JoinFuss(%d, nil) = %q, %v", m, got, ok)
		}
	}
	for _, m := range append(farNumbers(), -2, -1, 0, 5, 6) {
		for _, w := range []string{"", "u", "ud", "udd", "uddd", "udddd", "uddddd"} {
			if impl.IsFuss(m, w) || impl.FussRank(m, w) != -1 {
				t.Errorf("IsFuss(%d, %q)", m, w)
			}
			if l, ok := impl.SplitFuss(m, w); len(l) != 0 || ok {
				t.Errorf("SplitFuss(%d, %q) = %q, %v", m, w, l, ok)
			}
		}
		for n := range 8 {
			if got, ok := impl.JoinFuss(m, make([]string, n)); got != "" || ok {
				t.Errorf("JoinFuss(%d) of %d words is %q, %v", m, n, got, ok)
			}
		}
	}
	if got, ok := impl.JoinFuss(3, slices.Repeat([]string{"udd"}, 1<<16)); got != "" || ok {
		t.Errorf("very many words are joined to %q, %v", got, ok)
	}
	if got, ok := impl.JoinFuss(math.MinInt, nil); got != "" || ok {
		t.Errorf("JoinFuss(%d, nil) = %q, %v", math.MinInt, got, ok)
	}
}

func TestFussRankOfGreaterWords(t *testing.T) {
	for m := 1; m <= 4; m++ {
		for n := 5; n*m <= 24; n++ {
			for _, w := range []string{strings.Repeat("u", n) + strings.Repeat("d", (m-1)*n), strings.Repeat("u"+strings.Repeat("d", m-1), n)} {
				if got := impl.FussRank(m, w); got != -1 || !impl.IsFuss(m, w) {
					t.Errorf("FussRank(%d, %q) = %d", m, w, got)
				}
			}
		}
	}
}
