package tests

import (
	"math"
	"strings"
	"testing"

	"loop.example/g03401/impl"
)

// isBalancedByHand counts the letters.
func isBalancedByHand(w string) bool {
	return len(w) <= 17 && strings.Trim(w, "ud") == "" && strings.Count(w, "d") == strings.Count(w, "u")+1
}

// balancedWords returns all of them.
func balancedWords() []string {
	var l []string
	for _, w := range shortStrings("ud", 17) {
		if isBalancedByHand(w) {
			l = append(l, w)
		}
	}
	return l
}

// goodByHand moves one letter at a time to the end.
func goodByHand(w string) []int {
	var good []int
	for k := range len(w) {
		if end := len(w) - 1; w[end] == 'd' && shrinksToNothing(w[:end]) {
			good = append(good, k)
		}
		w = w[1:] + w[:1]
	}
	return good
}

// noCircles returns words that are not balanced.
func noCircles() []string {
	l := []string{
		"x", "uxd", "dx", "D", "d ", " d", "d\n", "d\x00", "\x00", "d\xff", "\xff", "ďud", "ｄ", "l", "uldd", ")", "dD",
		strings.Repeat("d", 10) + strings.Repeat("u", 9), strings.Repeat("ud", 9) + "d", "d" + strings.Repeat("du", 9), strings.Repeat("ud", 8), strings.Repeat("ud", 8) + "u", strings.Repeat("d", 17),
		strings.Repeat("u", 17), strings.Repeat("d", 256), strings.Repeat("u", 255), strings.Repeat("ud", 5000) + "d",
	}
	for _, w := range shortStrings("ud", 7) {
		if !isBalancedByHand(w) {
			l = append(l, w)
		}
	}
	return l
}

func TestIsBalancedOfAllWords(t *testing.T) {
	for _, w := range shortStrings("ud", 19) {
		if got, want := impl.IsBalanced(w), isBalancedByHand(w); got != want {
			t.Fatalf("IsBalanced(%q) = %v", w, got)
		}
	}
	for _, w := range append(shortStrings("udx\xff", 5), noCircles()...) {
		if got, want := impl.IsBalanced(w), isBalancedByHand(w); got != want {
			t.Fatalf("IsBalanced(%.40q) = %v", w, got)
		}
	}
}

func TestEachBalancedCircleHasOneGoodShift(t *testing.T) {
	for _, w := range balancedWords() {
		good := goodByHand(w)
		if len(good) != 1 {
			t.Fatalf("%q has the good shifts %v", w, good)
		}
		if k, ok := impl.GoodShift(w); k != good[0] || !ok {
			t.Fatalf("GoodShift(%q) = %d, %v, want %d", w, k, ok, good[0])
		}
		if count := impl.CountGoodShifts(w); count != 1 {
			t.Fatalf("CountGoodShifts(%q) = %d", w, count)
		}
		turned := w[good[0]:] + w[:good[0]]
		if path, ok := impl.DyckOfCircle(w); path+"d" != turned || !ok {
			t.Fatalf("DyckOfCircle(%q) = %q, %v, want %q and one more d", w, path, ok, turned)
		}
	}
}

func TestCirclesAndPathsCorrespond(t *testing.T) {
	reached := map[string]bool{}
	for _, w := range allPaths() {
		for k := range len(w) + 1 {
			want := (w + "d")[k:] + (w + "d")[:k]
			circle, ok := impl.CircleOf(w, k)
			if circle != want || !ok || !impl.IsBalanced(circle) {
				t.Fatalf("CircleOf(%q, %d) = %q, %v, want %q", w, k, circle, ok, want)
			}
			reached[circle] = true
			if path, ok := impl.DyckOfCircle(circle); path != w || !ok {
				t.Fatalf("DyckOfCircle(%q) = %q, %v, want %q", circle, path, ok, w)
			}
			// The shift leads on to where the circle closes.
			if back, ok := impl.GoodShift(circle); (back+k)%len(circle) != 0 || !ok {
				t.Fatalf("GoodShift(%q) = %d, %v after a shift by %d", circle, back, ok, k)
			}
		}
		for _, k := range append(farNumbers(), -2, -1, len(w)+1, len(w)+2, 2*len(w)+2) {
			if circle, ok := impl.CircleOf(w, k); circle != "" || ok {
				t.Fatalf("CircleOf(%q, %d) = %q, %v", w, k, circle, ok)
			}
		}
	}
	if want := len(balancedWords()); len(reached) != want {
		t.Errorf("%d circles have been reached, want %d", len(reached), want)
	}
}

func TestShiftWord(t *testing.T) {
	bytes := allBytes()
	words := append(shortStrings("ab\xff", 4), "ûď", "\x00\x00", "udud udud udud udu", "aaaaaaaaaaaaaaaaa")
	for n := range 21 {
		words = append(words, bytes[:n], bytes[256-n:], bytes[120:120+n])
	}
	for _, w := range append(words, bytes, strings.Repeat("d", 17), strings.Repeat("d", 18), strings.Repeat("ud", 1<<16)) {
		for _, k := range append(farNumbers(), -2, -1, 0, 1, 2, 3, 4, 5, 15, 16, 17, 18, len(w)-1, len(w), len(w)+1) {
			want, wantOk := "", len(w) <= 17 && k >= 0 && (k < len(w) || w == "" && k == 0)
			if wantOk {
				want = w[k:] + w[:k]
			}
			if got, ok := impl.ShiftWord(w, k); got != want || ok != wantOk {
				t.Errorf("ShiftWord(%.40q, %d) = %q, %v, want %q", w, k, got, ok, want)
			}
		}
	}
}

func TestShiftsAddUp(t *testing.T) {
	const w = "uddudabc\x00\xffudd"
	for first := range len(w) {
		for second := range len(w) {
			once, _ := impl.ShiftWord(w, first)
			twice, _ := impl.ShiftWord(once, second)
			if want, _ := impl.ShiftWord(w, (first+second)%len(w)); twice != want {
				t.Errorf("shifts by %d and %d make %q, want %q", first, second, twice, want)
			}
		}
	}
}

func TestOneLetter(t *testing.T) {
	if !impl.IsBalanced("d") || impl.IsBalanced("u") || impl.CountGoodShifts("d") != 1 || impl.CountGoodShifts("u") != -1 {
		t.Error("one letter as a circle")
	}
	if k, ok := impl.GoodShift("d"); k != 0 || !ok {
		t.Errorf("GoodShift of one letter is %d, %v", k, ok)
	}
	if w, ok := impl.DyckOfCircle("d"); w != "" || !ok {
		t.Errorf("DyckOfCircle of one letter is %q, %v", w, ok)
	}
	if w, ok := impl.CircleOf("", 0); w != "d" || !ok {
		t.Errorf("CircleOf the empty path is %q, %v", w, ok)
	}
	for _, k := range []int{math.MinInt, -1, 1, 2} {
		if w, ok := impl.CircleOf("", k); w != "" || ok {
			t.Errorf("CircleOf the empty path and %d is %q, %v", k, w, ok)
		}
		for _, letter := range []string{"d", "u", "x", "\xff", ""} {
			if w, ok := impl.ShiftWord(letter, k); w != "" || ok {
				t.Errorf("ShiftWord(%q, %d) = %q, %v", letter, k, w, ok)
			}
		}
	}
	for _, letter := range []string{"d", "u", "x", "\xff", ""} {
		if w, ok := impl.ShiftWord(letter, 0); w != letter || !ok {
			t.Errorf("ShiftWord(%q, 0) = %q, %v", letter, w, ok)
		}
	}
}

func TestCirclesRefuse(t *testing.T) {
	for _, w := range noCircles() {
		if k, ok := impl.GoodShift(w); k != 0 || ok {
			t.Errorf("GoodShift(%.40q) = %d, %v", w, k, ok)
		}
		if path, ok := impl.DyckOfCircle(w); path != "" || ok {
			t.Errorf("DyckOfCircle(%.40q) = %q, %v", w, path, ok)
		}
		if count := impl.CountGoodShifts(w); count != -1 {
			t.Errorf("CountGoodShifts(%.40q) = %d", w, count)
		}
	}
	for _, w := range noPaths() {
		for _, k := range []int{-1, 0, 1} {
			if circle, ok := impl.CircleOf(w, k); circle != "" || ok {
				t.Errorf("CircleOf(%.40q, %d) = %q, %v", w, k, circle, ok)
			}
		}
	}
}
