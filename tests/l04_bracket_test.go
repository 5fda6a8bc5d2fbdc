package tests

import (
	"strings"
	"testing"

	"loop.example/g03401/impl"
)

// parentheses writes a path with brackets, letter by letter.
func parentheses(w string) string {
	out := ""
	for i := range len(w) {
		if w[i] == 'u' {
			out += "("
		} else {
			out += ")"
		}
	}
	return out
}

// partner looks for the end of the shortest word from i to the right or to the left that is balanced.
func partner(s string, i int) int {
	for j := range len(s) {
		a, b := min(i, j), max(i, j)
		if part := s[a : b+1]; s[a] == '(' && s[b] == ')' && strings.Count(part, "(") == strings.Count(part, ")") && balanced(part[1:len(part)-1]) {
			return j
		}
	}
	return -1
}

func balanced(s string) bool {
	for strings.Contains(s, "()") {
		s = strings.ReplaceAll(s, "()", "")
	}
	return s == ""
}

// noBrackets returns words that are not the brackets of a path.
func noBrackets() []string {
	l := []string{
		"ud", "u)", "(d", "(ud)", "()ud", "uudd", "x", "(x)", " ()", "() ", "(\x00)", "()\xff", "\xff", "[]", "{}", "<>", "（）", "()\n", "((é))", "\u207d\u207e",
		strings.Repeat("()", 9), strings.Repeat("(", 9) + strings.Repeat(")", 9), "(" + strings.Repeat("()", 8) + ")",
		strings.Repeat("()", 5000), strings.Repeat("(", 5000), strings.Repeat(")", 17), strings.Repeat("()", 7) + ")(", strings.Repeat("()", 8) + "(",
	}
	for _, s := range shortStrings("()", 7) {
		if !balanced(s) {
			l = append(l, s)
		}
	}
	return l
}

func TestBracketsOfPaths(t *testing.T) {
	for _, w := range allPaths() {
		s := parentheses(w)
		if got, ok := impl.BracketsOf(w); got != s || !ok {
			t.Errorf("BracketsOf(%q) = %q, %v", w, got, ok)
		}
		if got, ok := impl.PathOfBrackets(s); got != w || !ok {
			t.Errorf("PathOfBrackets(%q) = %q, %v", s, got, ok)
		}
	}
	for _, w := range noPaths() {
		if got, ok := impl.BracketsOf(w); got != "" || ok {
			t.Errorf("BracketsOf(%q) = %q, %v", w, got, ok)
		}
	}
}

func TestPathOfBracketsReadsOnlyBrackets(t *testing.T) {
	for _, s := range shortStrings("()ud", 6) {
		valid := balanced(s)
		if got, ok := impl.PathOfBrackets(s); ok != valid || ok && parentheses(got) != s || !ok && got != "" {
			t.Fatalf("PathOfBrackets(%q) = %q, %v", s, got, ok)
		}
	}
}

func TestEmptyBrackets(t *testing.T) {
	if s, ok := impl.BracketsOf(""); s != "" || !ok {
		t.Errorf("brackets %q, %v", s, ok)
	}
	if w, ok := impl.PathOfBrackets(""); w != "" || !ok {
		t.Errorf("path %q, %v", w, ok)
	}
	for _, i := range append(farNumbers(), -2, -1, 0, 1, 2) {
		if j := impl.PartnerOf("", i); j != -1 {
			t.Errorf("PartnerOf(%q, %d) = %d", "", i, j)
		}
	}
	if impl.DepthOf("") != 0 || impl.NestedPairs("") != 0 {
		t.Error("numbers of the empty word")
	}
	if s, ok := impl.ShiftBrackets(""); s != "" || !ok {
		t.Errorf("shifted: %q, %v", s, ok)
	}
}

func TestPartnerOf(t *testing.T) {
	for _, w := range allPaths() {
		s := parentheses(w)
		for i := range len(s) {
			if got, want := impl.PartnerOf(s, i), partner(s, i); got != want {
				t.Fatalf("PartnerOf(%q, %d) = %d, want %d", s, i, got, want)
			}
		}
		for _, i := range append(farNumbers(), -2, -1, len(s), len(s)+1) {
			if got := impl.PartnerOf(s, i); got != -1 {
				t.Errorf("PartnerOf(%q, %d) = %d", s, i, got)
			}
		}
	}
}

func TestBracketNumbers(t *testing.T) {
	for _, w := range allPaths() {
		s := parentheses(w)
		depth, nested := 0, 0
		for i := range len(s) {
			depth = max(depth, strings.Count(s[:i], "(")-strings.Count(s[:i], ")"))
			for k := range len(s) {
				if s[i] == '(' && s[k] == '(' && i < k && partner(s, k) < partner(s, i) {
					nested++
				}
			}
		}
		if got := impl.DepthOf(s); got != depth {
			t.Errorf("DepthOf(%q) = %d, want %d", s, got, depth)
		}
		if got := impl.NestedPairs(s); got != nested {
			t.Errorf("NestedPairs(%q) = %d, want %d", s, got, nested)
		}
	}
}

func TestShiftBracketsTurnsPartners(t *testing.T) {
	for _, w := range allPaths() {
		s := parentheses(w)
		shifted, ok := impl.ShiftBrackets(s)
		if !ok || len(shifted) != len(s) || !balanced(shifted) {
			t.Fatalf("ShiftBrackets(%q) = %q, %v", s, shifted, ok)
		}
		n := len(s)
		for i := range n {
			// Each place moves one to the left, and the first one to the end.
			if partner(shifted, (i+n-1)%n) != (partner(s, i)+n-1)%n {
				t.Errorf("ShiftBrackets(%q) = %q: the partner of %d moves elsewhere", s, shifted, i)
			}
		}
	}
}

func TestShiftBracketsAllAround(t *testing.T) {
	for _, w := range allPaths() {
		s := parentheses(w)
		turned, ok := s, true
		for range len(s) {
			turned, ok = impl.ShiftBrackets(turned)
			if !ok {
				t.Fatalf("a shift of %q fails", s)
			}
		}
		if turned != s {
			t.Errorf("%q shifted all around is %q", s, turned)
		}
	}
}

func TestFunctionsRefuseNoBrackets(t *testing.T) {
	for _, s := range noBrackets() {
		if w, ok := impl.PathOfBrackets(s); w != "" || ok {
			t.Errorf("PathOfBrackets(%q) = %q, %v", s, w, ok)
		}
		for _, i := range []int{-1, 0, 1, len(s) - 1, len(s)} {
			if j := impl.PartnerOf(s, i); j != -1 {
				t.Errorf("PartnerOf(%q, %d) = %d", s, i, j)
			}
		}
		if impl.DepthOf(s) != -1 || impl.NestedPairs(s) != -1 {
			t.Errorf("numbers of %q are %d and %d", s, impl.DepthOf(s), impl.NestedPairs(s))
		}
		if shifted, ok := impl.ShiftBrackets(s); shifted != "" || ok {
			t.Errorf("ShiftBrackets(%q) = %q, %v", s, shifted, ok)
		}
	}
}
