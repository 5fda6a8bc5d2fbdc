package tests

import (
	"math"
	"math/big"
	"slices"
	"strings"
	"testing"

	"loop.example/g03401/impl"
)

// farNumbers returns numbers far out of every range.
func farNumbers() []int {
	return []int{math.MinInt, math.MinInt + 1, -1 << 32, -1000, 1000, 1 << 32, math.MaxInt - 1, math.MaxInt}
}

// countWords counts the words of a number of letters u and d that begin at a height and never go below 0, by trying both letters.
func countWords(up int, down int, height int) int {
	if height < 0 || up < 0 || down < 0 {
		return 0
	}
	if up+down == 0 {
		return 1
	}
	return countWords(up-1, down, height+1) + countWords(up, down-1, height-1)
}

func TestMaxList(t *testing.T) {
	if impl.MaxList != 6 {
		t.Error(impl.MaxList)
	}
}

func TestCatalanNumber(t *testing.T) {
	want := []int{1, 1, 2, 5, 14, 42, 132, 429, 1430, 4862, 16796, 58786, 208012, 742900, 2674440, 9694845}
	for n, c := range want {
		if got := impl.CatalanNumber(n); got != c {
			t.Errorf("CatalanNumber(%d) = %d", n, got)
		}
	}
	for _, n := range append(farNumbers(), -2, -1, 16, 17) {
		if got := impl.CatalanNumber(n); got != -1 {
			t.Errorf("CatalanNumber(%d) = %d", n, got)
		}
	}
}

func TestBallotNumber(t *testing.T) {
	for up := range 9 {
		for down := up; down < 9; down++ {
			if got, want := impl.BallotNumber(up, down), countWords(up, down, down-up); got != want {
				t.Errorf("BallotNumber(%d, %d) = %d, want %d", up, down, got, want)
			}
		}
	}
	for up := range 16 {
		for down := up; down < 16; down++ {
			// The reflected words are as many as the words with one letter u less.
			if got, want := impl.BallotNumber(up, down), choose(up+down, up)-choose(up+down, up-1); got != want {
				t.Errorf("BallotNumber(%d, %d) = %d, want %d", up, down, got, want)
			}
		}
	}
}

func choose(n int, k int) int {
	if k < 0 {
		return 0
	}
	return int(new(big.Int).Binomial(int64(n), int64(k)).Int64())
}

func TestBallotNumberOutOfRange(t *testing.T) {
	for up := -2; up <= 18; up++ {
		for down := -2; down <= 18; down++ {
			if got := impl.BallotNumber(up, down); (got == 0) == (0 <= up && up <= down && down <= 15) {
				t.Errorf("BallotNumber(%d, %d) = %d", up, down, got)
			}
		}
	}
	for _, far := range farNumbers() {
		for _, near := range []int{0, 1, 15, far} {
			if impl.BallotNumber(far, near) != 0 || impl.BallotNumber(near, far) != 0 {
				t.Errorf("BallotNumber of %d and %d", far, near)
			}
		}
	}
}

func TestPathsOf(t *testing.T) {
	for n, want := range pathsBySize(impl.MaxList) {
		got := impl.PathsOf(n)
		if !slices.Equal(got, want) {
			t.Errorf("PathsOf(%d) = %q", n, got)
		}
	}
	for _, n := range append(farNumbers(), -2, -1, 7, 8, 9, 16) {
		if got := impl.PathsOf(n); len(got) != 0 {
			t.Errorf("PathsOf(%d) has %d paths", n, len(got))
		}
	}
	impl.PathsOf(2)[0] = "changed"
	if got := impl.PathsOf(2); got[0] != "uudd" {
		t.Error("the result of one call is in the next one")
	}
}

func TestRanksAndPathsCorrespond(t *testing.T) {
	for n, paths := range pathsBySize(impl.MaxSize) {
		if len(paths) != impl.CatalanNumber(n) {
			t.Fatalf("%d paths of size %d", len(paths), n)
		}
		for k, w := range paths {
			if got := impl.RankPath(w); got != k {
				t.Errorf("RankPath(%q) = %d, want %d", w, got, k)
			}
			if got, ok := impl.UnrankPath(n, k); got != w || !ok {
				t.Errorf("UnrankPath(%d, %d) = %q, %v, want %q", n, k, got, ok, w)
			}
		}
	}
}

func TestUnrankPathOutOfRange(t *testing.T) {
	check := func(n int, k int) {
		if w, ok := impl.UnrankPath(n, k); w != "" || ok {
			t.Errorf("UnrankPath(%d, %d) = %q, %v", n, k, w, ok)
		}
	}
	for n, paths := range pathsBySize(impl.MaxSize) {
		check(n, -1)
		check(n, len(paths))
		check(n, len(paths)+1)
		for _, k := range farNumbers() {
			if k < 0 || k >= len(paths) {
				check(n, k)
			}
		}
	}
	for _, n := range append(farNumbers(), -2, -1, 9, 10, 15, 16) {
		for _, k := range append(farNumbers(), -1, 0, 1) {
			check(n, k)
		}
	}
}

func TestNextPath(t *testing.T) {
	for _, paths := range pathsBySize(impl.MaxSize) {
		for k, w := range paths[1:] {
			if got, ok := impl.NextPath(paths[k]); got != w || !ok {
				t.Errorf("NextPath(%q) = %q, %v, want %q", paths[k], got, ok, w)
			}
		}
	}
}

func TestLastPath(t *testing.T) {
	for n := range impl.MaxSize + 1 {
		last := strings.Repeat("ud", n)
		if got, ok := impl.NextPath(last); got != "" || ok {
			t.Errorf("NextPath(%q) = %q, %v", last, got, ok)
		}
		if got := impl.RankPath(last); got != impl.CatalanNumber(n)-1 {
			t.Errorf("RankPath(%q) = %d", last, got)
		}
		if got, ok := impl.UnrankPath(n, impl.CatalanNumber(n)-1); got != last || !ok {
			t.Errorf("the last path of size %d is %q, %v", n, got, ok)
		}
	}
}

func TestRanksRefuseNoPaths(t *testing.T) {
	for _, w := range noPaths() {
		if got := impl.RankPath(w); got != -1 {
			t.Errorf("RankPath(%q) = %d", w, got)
		}
		if got, ok := impl.NextPath(w); got != "" || ok {
			t.Errorf("NextPath(%q) = %q, %v", w, got, ok)
		}
	}
}

func TestNarayanaNumberCountsPeaks(t *testing.T) {
	for n, paths := range pathsBySize(impl.MaxSize) {
		peaks := make([]int, n+1)
		for _, w := range paths {
			peaks[strings.Count(w, "ud")]++
		}
		for k, want := range peaks {
			if got := impl.NarayanaNumber(n, k); got != want {
				t.Errorf("NarayanaNumber(%d, %d) = %d, want %d", n, k, got, want)
			}
		}
	}
}

func TestNarayanaNumbersOfOneSize(t *testing.T) {
	for n := range 16 {
		sum := 0
		for k := range n + 1 {
			got := impl.NarayanaNumber(n, k)
			sum += got
			if n > 0 && got*n != choose(n, k)*choose(n, k-1) {
				t.Errorf("NarayanaNumber(%d, %d) = %d", n, k, got)
			}
		}
		if sum != impl.CatalanNumber(n) {
			t.Errorf("the numbers of size %d have the sum %d", n, sum)
		}
	}
	if got := impl.NarayanaNumber(0, 0); got != 1 {
		t.Errorf("NarayanaNumber(0, 0) = %d", got)
	}
}

func TestNarayanaNumberOutOfRange(t *testing.T) {
	for n := -3; n <= 20; n++ {
		ks := append(farNumbers(), -2, -1, n+1, n+2)
		if n < 0 || n > 15 {
			ks = append(ks, 0, 1, 2, 8, 15, 16)
		}
		for _, k := range ks {
			if k >= 0 && k <= n && n <= 15 {
				continue
			}
			if got := impl.NarayanaNumber(n, k); got != 0 {
				t.Errorf("NarayanaNumber(%d, %d) = %d", n, k, got)
			}
		}
	}
	for _, n := range farNumbers() {
		for _, k := range append(farNumbers(), -1, 0, 1) {
			if got := impl.NarayanaNumber(n, k); got != 0 {
				t.Errorf("NarayanaNumber(%d, %d) = %d", n, k, got)
			}
		}
	}
}
