package tests

import (
	"fmt"
	"slices"
	"strings"
	"testing"

	"loop.example/g03401/impl"
)

func kindNames() []string {
	return []string{"path", "brackets", "plane", "binary", "diagonals", "partition", "matching", "permutation", "rank"}
}

// placedPath is a path with its place among the paths of its size, and its tree.
type placedPath struct {
	path  string
	place int
	tree  string
}

// placedBySize returns the paths of the sizes from 0 to n in order.
func placedBySize(n int) [][]placedPath {
	trees := map[string]string{}
	for _, s := range slices.Concat(treesBySize(n)...) {
		trees[pathByHand(s)] = s
	}
	by := make([][]placedPath, n+1)
	for size, paths := range pathsBySize(n) {
		for place, w := range paths {
			by[size] = append(by[size], placedPath{w, place, trees[w]})
		}
	}
	return by
}

// wordsOf formats the items of a list, with a separator between them.
func wordsOf[T any](l []T, separator string, format func(i int, item T) string) string {
	var words []string
	for i, item := range l {
		words = append(words, format(i, item))
	}
	return strings.Join(slices.DeleteFunc(words, func(word string) bool { return word == "" }), separator)
}

func orNone(s string) string {
	if s == "" {
		return "none"
	}
	return s
}

func (o placedPath) textByHand(kind string) string {
	size := len(o.path) / 2
	switch kind {
	case "path":
		return o.path
	case "brackets":
		return parentheses(o.path)
	case "plane":
		return wordsOf(planeByHand(o.path), ",", func(_ int, parent int) string { return fmt.Sprint(parent) })
	case "binary":
		return o.tree
	case "diagonals":
		d := longSides(size+2, trianglesByHand(o.tree, 0, size+1))
		words := wordsOf(d, " ", func(_ int, ends []int) string { return fmt.Sprintf("%d%d", ends[0], ends[1]) })
		return fmt.Sprintf("%d: %s", size+2, orNone(words))
	case "partition":
		blocks := make([]string, size)
		for element, block := range partitionByHand(o.path) {
			blocks[block] += fmt.Sprint(element + 1)
		}
		return wordsOf(blocks, "|", func(_ int, block string) string { return block })
	case "matching":
		words := wordsOf(matchingByHand(o.path), " ", func(point int, partner int) string {
			if partner < point {
				return ""
			}
			return fmt.Sprintf("%d-%d", point, partner)
		})
		return orNone(words)
	case "permutation":
		return wordsOf(permutationByHand(o.path), "", func(_ int, number int) string { return fmt.Sprint(number + 1) })
	case "rank":
		return fmt.Sprintf("%d:%d", size, o.place)
	}
	panic("no kind: " + kind)
}

// textsByHand returns for each kind the path of each text.
func textsByHand() map[string]map[string]placedPath {
	texts := map[string]map[string]placedPath{}
	all := slices.Concat(placedBySize(impl.MaxSize)...)
	for _, kind := range kindNames() {
		texts[kind] = map[string]placedPath{}
		for _, o := range all {
			texts[kind][o.textByHand(kind)] = o
		}
	}
	return texts
}

// noKinds returns words that are not the name of a kind.
func noKinds() []string {
	return []string{"", "x", "tree", "triangulation", "paths", "Path", "PATH", "path ", " path", "path\x00", "bracket", "diagonal", "ranks", "\xff", strings.Repeat("path", 10000)}
}

func TestKindNames(t *testing.T) {
	names := impl.KindNames()
	if !slices.Equal(names, kindNames()) {
		t.Errorf("KindNames() = %q", names)
	}
	clear(names)
	if again := impl.KindNames(); !slices.Equal(again, kindNames()) {
		t.Errorf("the result of one call is in the next one: %q", again)
	}
}

func TestTextsOfAllPathsAreReadBack(t *testing.T) {
	for kind, texts := range textsByHand() {
		if len(texts) != len(allPaths()) {
			t.Fatalf("%d texts of the kind %s", len(texts), kind)
		}
		for want, o := range texts {
			if got, ok := impl.WriteAs(kind, o.path); got != want || !ok {
				t.Fatalf("WriteAs(%q, %q) = %q, %v, want %q", kind, o.path, got, ok, want)
			}
			if got, ok := impl.ReadAs(kind, want); got != o.path || !ok {
				t.Fatalf("ReadAs(%q, %q) = %q, %v, want %q", kind, want, got, ok, o.path)
			}
			if got := impl.PlaceIn(kind, want); got != o.place {
				t.Fatalf("PlaceIn(%q, %q) = %d, want %d", kind, want, got, o.place)
			}
		}
	}
}

func TestAllKindsAreConverted(t *testing.T) {
	for _, o := range slices.Concat(placedBySize(5)...) {
		for _, from := range kindNames() {
			for _, to := range kindNames() {
				s := o.textByHand(from)
				if got, ok := impl.ConvertText(from, to, s); got != o.textByHand(to) || !ok {
					t.Fatalf("ConvertText(%q, %q, %q) = %q, %v", from, to, s, got, ok)
				}
			}
		}
	}
}

func TestListsOfAllKinds(t *testing.T) {
	for n, placed := range placedBySize(6) {
		for _, kind := range kindNames() {
			got, ok := impl.ListOf(kind, n)
			if !ok || len(got) != len(placed) {
				t.Fatalf("ListOf(%q, %d) has %d texts, %v", kind, n, len(got), ok)
			}
			for place, o := range placed {
				if got[place] != o.textByHand(kind) || impl.PlaceIn(kind, got[place]) != place {
					t.Fatalf("ListOf(%q, %d)[%d] = %q, want %q", kind, n, place, got[place], o.textByHand(kind))
				}
			}
		}
	}
	for _, kind := range append(kindNames(), noKinds()...) {
		for _, n := range append(farNumbers(), -2, -1, 7, 8, 9) {
			if l, ok := impl.ListOf(kind, n); len(l) != 0 || ok {
				t.Errorf("ListOf(%.20q, %d) has %d texts, %v", kind, n, len(l), ok)
			}
		}
	}
}

// checkText checks that a text is read as the texts by hand say.
func checkText(t *testing.T, kind string, s string, texts map[string]placedPath) {
	t.Helper()
	o, wantOk := texts[s]
	wantPlace := -1
	if wantOk {
		wantPlace = o.place
	}
	if got, ok := impl.ReadAs(kind, s); got != o.path || ok != wantOk {
		t.Fatalf("ReadAs(%q, %.60q) = %q, %v, want %q, %v", kind, s, got, ok, o.path, wantOk)
	}
	if got := impl.PlaceIn(kind, s); got != wantPlace {
		t.Fatalf("PlaceIn(%q, %.60q) = %d, want %d", kind, s, got, wantPlace)
	}
	if got, ok := impl.ConvertText(kind, "path", s); got != o.path || ok != wantOk {
		t.Fatalf("ConvertText(%q, \"path\", %.60q) = %q, %v", kind, s, got, ok)
	}
}

// nearTexts returns what becomes of a text if one byte is taken out, put in, exchanged for another one or with the next one.
func nearTexts(s string) []string {
	near := []string{s + s, s + " " + s, s + "," + s, s + "|" + s, strings.ToUpper(s), " " + s, s + "\n", s + "\x00", s + "\xff"}
	for i := range len(s) + 1 {
		for _, added := range strings.Split("ud().,|-: 0123456789none", "") {
			near = append(near, s[:i]+added+s[i:])
			if i < len(s) {
				near = append(near, s[:i]+added+s[i+1:])
			}
		}
		if i < len(s) {
			near = append(near, s[:i]+s[i+1:])
		}
		if i+1 < len(s) {
			near = append(near, s[:i]+s[i+1:i+2]+s[i:i+1]+s[i+2:])
		}
	}
	return near
}

func TestOnlyTextsAreRead(t *testing.T) {
	for kind, texts := range textsByHand() {
		for _, o := range slices.Concat(placedBySize(4)...) {
			for _, s := range nearTexts(o.textByHand(kind)) {
				checkText(t, kind, s, texts)
			}
		}
		for _, o := range placedBySize(impl.MaxSize)[impl.MaxSize][:1] {
			for _, s := range nearTexts(o.textByHand(kind)) {
				checkText(t, kind, s, texts)
			}
		}
	}
}

func TestShortTextsOfAllKinds(t *testing.T) {
	alphabets := map[string]string{
		"path": "udx", "brackets": "()u", "plane": "-012,", "binary": "(.)", "diagonals": "5: 0134", "partition": "0123|", "matching": "0123- ", "permutation": "01234", "rank": "0123:",
	}
	for kind, texts := range textsByHand() {
		for _, s := range shortStrings(alphabets[kind], 6) {
			checkText(t, kind, s, texts)
		}
		for _, s := range slices.Concat(shortStrings("ud(.)0:|-,", 3), noPaths(), noTrees(), noBrackets()) {
			checkText(t, kind, s, texts)
		}
	}
}

func TestTextsThatAreNone(t *testing.T) {
	long := strings.Repeat("0", 100000)
	no := map[string][]string{
		"path":        {"()", "ud ", "none"},
		"brackets":    {"ud", "(u)", "[]", "none"},
		"plane":       {"", "none", "0", "-1,", ",-1", "-1,-1", "-1,1", "-1, 0", "-01", "-1,00", "-1,0,0,1", "-1,0,1,2,3,4,5,6,7,8", "−1"},
		"binary":      {"", "none", "()", "(.)", "(...)", "..", strings.Repeat("(.", 9) + "." + strings.Repeat(")", 9)},
		"diagonals":   {"", "none", "2:none", "2 none", "2: ", "2", "2:  none", "02: none", "1: none", "0: none", "-2: none", "4: none", "3: 02", "4: 01", "4: 03", "4: 31", "4: 04", "4: 02 13", "4: 1 3", "4: 013", "4: 1３", "5: 13 03", "5:03 13", "5: 03  13", "5: 03 13 ", "5: 03,13", "11: 02 03 04 05 06 07 08 09", "4: none: none", "99999999999999999999: none"},
		"partition":   {"none", "0", "2", "1|", "|1", "|", "1||2", "11", "1|1", "2|1", "21", "1|3", "13", "1|32", "13|24", "1 2", "1,2", "12|", "123456789", "１", "1\xff"},
		"matching":    {"", "1-0", "0-1-2", "0-1 ", " 0-1", "0-1  2-3", "0-1,2-3", "2-3 0-1", "0-2 1-3", "0-1 0-1", "0-0", "0-1 1-2", "0-1 3-2", "0-3", "1-2", "00-1", "0--1", "0-01", "0-1 none", "none none", "0", "-1-0", "-1-2", "0-17 1-16 2-15 3-14 4-13 5-12 6-11 7-10 8-9", "0-99999999999999999999"},
		"permutation": {"none", "0", "2", "11", "10", "231", "1,2", "1 2", "-1", "13", "123456789", "１２", "1\xff2"},
		"rank":        {"", "0", ":", "0:", ":0", "0:1", "0:-1", "-1:0", "1:1", "2:2", "3:5", "3:05", "03:0", "3: 1", "3:1 ", "3:1:1", "3::1", "8:1430", "9:0", "9:4862", "+1:0", "1:99999999999999999999"},
	}
	for kind, texts := range textsByHand() {
		for _, s := range append(no[kind], long, "-1"+strings.Repeat(",0", 50000), strings.Repeat("1|", 50000), strings.Repeat("0-1 ", 50000), strings.Repeat("(", 100000), "2: "+strings.Repeat("02 ", 50000), "1:"+long) {
			if _, ok := texts[s]; ok {
				t.Fatalf("%q is a text of the kind %s", s, kind)
			}
			checkText(t, kind, s, texts)
		}
	}
}

func TestEmptyPathInAllKinds(t *testing.T) {
	for kind, want := range map[string]string{"path": "", "brackets": "", "plane": "-1", "binary": ".", "diagonals": "2: none", "partition": "", "matching": "none", "permutation": "", "rank": "0:0"} {
		if s, ok := impl.WriteAs(kind, ""); s != want || !ok {
			t.Errorf("WriteAs(%q, \"\") = %q, %v, want %q", kind, s, ok, want)
		}
		if w, ok := impl.ReadAs(kind, want); w != "" || !ok {
			t.Errorf("ReadAs(%q, %q) = %q, %v", kind, want, w, ok)
		}
		if place := impl.PlaceIn(kind, want); place != 0 {
			t.Errorf("PlaceIn(%q, %q) = %d", kind, want, place)
		}
		if l, ok := impl.ListOf(kind, 0); !ok || !slices.Equal(l, []string{want}) {
			t.Errorf("ListOf(%q, 0) = %q, %v", kind, l, ok)
		}
		if s, ok := impl.ConvertText("partition", kind, ""); s != want || !ok {
			t.Errorf("ConvertText(\"partition\", %q, \"\") = %q, %v, want %q", kind, s, ok, want)
		}
	}
}

func TestConversionsRefuse(t *testing.T) {
	for _, kind := range kindNames() {
		for _, w := range noPaths() {
			if s, ok := impl.WriteAs(kind, w); s != "" || ok {
				t.Errorf("WriteAs(%q, %.40q) = %q, %v", kind, w, s, ok)
			}
		}
	}
	for _, no := range noKinds() {
		for _, w := range []string{"", "ud", "du", "uudd", "-1", ".", "none", "0:0"} {
			if s, ok := impl.WriteAs(no, w); s != "" || ok {
				t.Errorf("WriteAs(%.20q, %q) = %q, %v", no, w, s, ok)
			}
			if s, ok := impl.ReadAs(no, w); s != "" || ok {
				t.Errorf("ReadAs(%.20q, %q) = %q, %v", no, w, s, ok)
			}
			if place := impl.PlaceIn(no, w); place != -1 {
				t.Errorf("PlaceIn(%.20q, %q) = %d", no, w, place)
			}
			for _, kind := range append(kindNames(), no) {
				if s, ok := impl.ConvertText(kind, no, w); s != "" || ok {
					t.Errorf("ConvertText(%q, %.20q, %q) = %q, %v", kind, no, w, s, ok)
				}
				if s, ok := impl.ConvertText(no, kind, w); s != "" || ok {
					t.Errorf("ConvertText(%.20q, %q, %q) = %q, %v", no, kind, w, s, ok)
				}
			}
		}
		for n := range 7 {
			if l, ok := impl.ListOf(no, n); len(l) != 0 || ok {
				t.Errorf("ListOf(%.20q, %d) = %q, %v", no, n, l, ok)
			}
		}
	}
}
