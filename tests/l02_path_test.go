package tests

import (
	"math"
	"slices"
	"strings"
	"testing"

	"loop.example/g03401/impl"
)

// shrinksToNothing reports whether w is a path of any size: beside each other, u and d may be taken out of a path.
func shrinksToNothing(w string) bool {
	for strings.Contains(w, "ud") {
		w = strings.ReplaceAll(w, "ud", "")
	}
	return w == ""
}

// pathsBySize returns the paths of the sizes from 0 to n, picked from all words, in the order of the specification.
func pathsBySize(n int) [][]string {
	by := make([][]string, n+1)
	for size := range by {
		for bits := range 1 << (2 * size) {
			w := make([]byte, 2*size)
			for i := range w {
				w[i] = "ud"[bits>>(2*size-1-i)&1]
			}
			if shrinksToNothing(string(w)) {
				by[size] = append(by[size], string(w))
			}
		}
	}
	return by
}

func allPaths() []string {
	return slices.Concat(pathsBySize(impl.MaxSize)...)
}

// noPaths returns words that are no paths, and paths beyond MaxSize.
func noPaths() []string {
	l := []string{
		"x", "uxd", "UD", "Ud", "u d", " ud", "ud ", "ud\n", "ud\x00", "\x00", "()", "ud\xff", "\xff", "u\xffd", "ûd", "uď", "ｕｄ", "uud\u0064\u0301",
		strings.Repeat("u", 9) + strings.Repeat("d", 9), strings.Repeat("ud", 9), "u" + strings.Repeat("ud", 8) + "d",
		strings.Repeat("u", 256), strings.Repeat("ud", 128), strings.Repeat("ud", 5000), strings.Repeat("d", 9) + strings.Repeat("u", 9),
		strings.Repeat("ud", 7) + "du", strings.Repeat("ud", 8) + "u", strings.Repeat("ud", 8) + "x",
	}
	for _, w := range shortStrings("ud", 7) {
		if !shrinksToNothing(w) {
			l = append(l, w)
		}
	}
	return l
}

// letterHeights counts the letters before each place anew.
func letterHeights(w string) []int {
	var h []int
	for i := range len(w) + 1 {
		h = append(h, strings.Count(w[:i], "u")-strings.Count(w[:i], "d"))
	}
	return h
}

func TestMaxSize(t *testing.T) {
	if impl.MaxSize != 8 {
		t.Error(impl.MaxSize)
	}
}

func TestIsDyckOfAllWords(t *testing.T) {
	for _, w := range shortStrings("ud", 18) {
		if got, want := impl.IsDyck(w), len(w) <= 16 && shrinksToNothing(w); got != want {
			t.Fatalf("IsDyck(%q) = %v", w, got)
		}
	}
	for _, w := range shortStrings("udx\xff", 6) {
		if got, want := impl.IsDyck(w), shrinksToNothing(w); got != want {
			t.Fatalf("IsDyck(%q) = %v", w, got)
		}
	}
	for _, w := range noPaths() {
		if impl.IsDyck(w) {
			t.Errorf("IsDyck(%q)", w)
		}
	}
}

func TestPathNumbers(t *testing.T) {
	for _, w := range allPaths() {
		heights := letterHeights(w)
		size, peaks, returns, area := 0, 0, 0, 0
		for i := range len(w) {
			if w[i] == 'u' {
				size++
				area += heights[i]
				if w[i+1] == 'd' {
					peaks++
				}
			} else if heights[i+1] == 0 {
				returns++
			}
		}
		if got := impl.SizeOf(w); got != size {
			t.Errorf("SizeOf(%q) = %d", w, got)
		}
		if got := impl.PeaksOf(w); got != peaks {
			t.Errorf("PeaksOf(%q) = %d", w, got)
		}
		if got := impl.ReturnsOf(w); got != returns {
			t.Errorf("ReturnsOf(%q) = %d", w, got)
		}
		if got := impl.AreaOf(w); got != area {
			t.Errorf("AreaOf(%q) = %d", w, got)
		}
		if got := impl.HeightsOf(w); !slices.Equal(got, heights) {
			t.Errorf("HeightsOf(%q) = %v", w, got)
		}
	}
}

func TestEmptyPath(t *testing.T) {
	if !impl.IsDyck("") || impl.SizeOf("") != 0 || impl.PeaksOf("") != 0 || impl.ReturnsOf("") != 0 || impl.AreaOf("") != 0 {
		t.Error("numbers of the empty path")
	}
	if h := impl.HeightsOf(""); !slices.Equal(h, []int{0}) {
		t.Errorf("heights %v", h)
	}
	if w, ok := impl.PathOfHeights([]int{0}); w != "" || !ok {
		t.Errorf("path of height 0: %q, %v", w, ok)
	}
	if w, ok := impl.PathOfHeights(nil); w != "" || ok {
		t.Errorf("path of no heights: %q, %v", w, ok)
	}
	if w, ok := impl.PathOfHeights([]int{}); w != "" || ok {
		t.Errorf("path of no heights: %q, %v", w, ok)
	}
	if w, ok := impl.ReversePath(""); w != "" || !ok {
		t.Errorf("reversed: %q, %v", w, ok)
	}
	if a, b, ok := impl.FirstReturn(""); a != "" || b != "" || ok {
		t.Errorf("first return: %q, %q, %v", a, b, ok)
	}
	if w, ok := impl.JoinAtReturn("", ""); w != "ud" || !ok {
		t.Errorf("joined: %q, %v", w, ok)
	}
	if p := impl.PrimesOf(""); len(p) != 0 {
		t.Errorf("primes: %q", p)
	}
}

func TestFunctionsRefuseNoPaths(t *testing.T) {
	for _, w := range noPaths() {
		for name, got := range map[string]int{
			"SizeOf": impl.SizeOf(w), "PeaksOf": impl.PeaksOf(w), "ReturnsOf": impl.ReturnsOf(w), "AreaOf": impl.AreaOf(w),
		} {
			if got != -1 {
				t.Errorf("%s(%q) = %d", name, w, got)
			}
		}
		if h := impl.HeightsOf(w); len(h) != 0 {
			t.Errorf("HeightsOf(%q) = %v", w, h)
		}
		if p := impl.PrimesOf(w); len(p) != 0 {
			t.Errorf("PrimesOf(%q) = %q", w, p)
		}
		if r, ok := impl.ReversePath(w); r != "" || ok {
			t.Errorf("ReversePath(%q) = %q, %v", w, r, ok)
		}
		if a, b, ok := impl.FirstReturn(w); a != "" || b != "" || ok {
			t.Errorf("FirstReturn(%q) = %q, %q, %v", w, a, b, ok)
		}
		for _, other := range []string{"", "ud", w} {
			if r, ok := impl.JoinAtReturn(w, other); r != "" || ok {
				t.Errorf("JoinAtReturn(%q, %q) = %q, %v", w, other, r, ok)
			}
			if r, ok := impl.JoinAtReturn(other, w); r != "" || ok {
				t.Errorf("JoinAtReturn(%q, %q) = %q, %v", other, w, r, ok)
			}
		}
	}
}

func TestPathOfHeightsInvertsHeightsOf(t *testing.T) {
	for _, w := range allPaths() {
		h := append(letterHeights(w), 77)
		given := h[:len(h)-1]
		if got, ok := impl.PathOfHeights(given); got != w || !ok {
			t.Errorf("PathOfHeights(%v) = %q, %v", given, got, ok)
		}
		if !slices.Equal(h, append(letterHeights(w), 77)) {
			t.Fatalf("the heights of %q have become %v", w, h)
		}
	}
	const w = "uududd"
	impl.HeightsOf(w)[0] = 5
	if h := impl.HeightsOf(w); h[0] != 0 {
		t.Error("the result of one call is in the next one")
	}
}

func TestPathOfHeightsReadsOnlyHeights(t *testing.T) {
	for _, letters := range shortStrings("\x00\x01\x02\x03\x04", 7) {
		// The numbers from -1 to 3, so that lists leave the heights on both sides.
		h := make([]int, len(letters))
		for i := range h {
			h[i] = int(letters[i]) - 1
		}
		w, ok := impl.PathOfHeights(h)
		if ok && (!shrinksToNothing(w) || !slices.Equal(letterHeights(w), h)) || !ok && w != "" {
			t.Fatalf("PathOfHeights(%v) = %q, %v", h, w, ok)
		}
	}
	for _, h := range [][]int{
		{1}, {-1}, {0, 1}, {0, 0}, {0, 0, 0}, {1, 2, 1}, {-1, 0, -1}, {0, -1, 0}, {0, 1, 1, 0}, {0, 2, 0}, {0, 1, 2}, {0, 1, 0, 0}, {0, 1, 0, -1}, {0, 1, 3, 1, 0},
		{math.MaxInt}, {0, math.MaxInt, 0}, {0, math.MinInt, 0}, {0, 1, math.MinInt, math.MaxInt, 0}, {0, 1, 1 << 32, 1, 0}, {1 << 32, 1<<32 + 1, 1 << 32},
		letterHeights(strings.Repeat("ud", 9)), letterHeights(strings.Repeat("u", 9) + strings.Repeat("d", 9)), letterHeights(strings.Repeat("ud", 400)),
		make([]int, 17), make([]int, 1000),
	} {
		if w, ok := impl.PathOfHeights(h); w != "" || ok {
			t.Errorf("PathOfHeights(%v) = %q, %v", h, w, ok)
		}
	}
}

func TestReversePath(t *testing.T) {
	for _, w := range allPaths() {
		r, ok := impl.ReversePath(w)
		if !ok || len(r) != len(w) {
			t.Fatalf("ReversePath(%q) = %q, %v", w, r, ok)
		}
		for i := range len(w) {
			if r[len(w)-1-i] == w[i] {
				t.Fatalf("ReversePath(%q) = %q", w, r)
			}
		}
		if !shrinksToNothing(r) {
			t.Errorf("ReversePath(%q) = %q is no path", w, r)
		}
	}
}

func TestFirstReturnIsJoinedAgain(t *testing.T) {
	for _, w := range allPaths()[1:] {
		a, b, ok := impl.FirstReturn(w)
		if !ok || !shrinksToNothing(a) || !shrinksToNothing(b) || "u"+a+"d"+b != w {
			t.Fatalf("FirstReturn(%q) = %q, %q, %v", w, a, b, ok)
		}
		if again, ok := impl.JoinAtReturn(a, b); again != w || !ok {
			t.Errorf("JoinAtReturn(%q, %q) = %q, %v", a, b, again, ok)
		}
	}
}

func TestJoinedPathsAreCutAgain(t *testing.T) {
	by := pathsBySize(impl.MaxSize)
	for size := range by {
		for _, a := range by[size] {
			for _, b := range slices.Concat(by[:impl.MaxSize-size]...) {
				w, ok := impl.JoinAtReturn(a, b)
				if w != "u"+a+"d"+b || !ok {
					t.Fatalf("JoinAtReturn(%q, %q) = %q, %v", a, b, w, ok)
				}
				if c, d, ok := impl.FirstReturn(w); c != a || d != b || !ok {
					t.Fatalf("FirstReturn(%q) = %q, %q, %v", w, c, d, ok)
				}
			}
			for _, b := range by[impl.MaxSize-size] {
				if w, ok := impl.JoinAtReturn(a, b); w != "" || ok {
					t.Fatalf("JoinAtReturn(%q, %q) = %q, %v: too large", a, b, w, ok)
				}
			}
		}
	}
}

func TestPrimesOf(t *testing.T) {
	for _, w := range allPaths() {
		primes := impl.PrimesOf(w)
		if strings.Join(primes, "") != w {
			t.Fatalf("PrimesOf(%q) = %q", w, primes)
		}
		for _, p := range primes {
			// A prime is more than nothing, and without its first and last letter it is still a path.
			if p == "" || !shrinksToNothing(p) || !shrinksToNothing(p[1:len(p)-1]) {
				t.Errorf("PrimesOf(%q) = %q", w, primes)
			}
		}
	}
}
