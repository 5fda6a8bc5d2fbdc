package tests

import (
	"fmt"
	"math"
	"slices"
	"strings"
	"testing"

	"loop.example/g03401/impl"
)

// isWayByHand reports whether each tree but the first one is one of the neighbours of the one before.
func isWayByHand(l []string, from string, to string, neighbours func(s string) []string) bool {
	if len(l) == 0 || len(l) > 40 || l[0] != from || l[len(l)-1] != to || strings.Count(from, "(") > 8 || !shrinksToLeaf(from) {
		return false
	}
	for i, s := range l[1:] {
		if !slices.Contains(neighbours(l[i]), s) {
			return false
		}
	}
	return true
}

func rightNeighbours(s string) []string {
	var l []string
	for v := range strings.Count(s, "(") {
		if next := rightByHand(s, v); next != "" {
			l = append(l, next)
		}
	}
	return l
}

// isTrueByHand follows the text of the specification. Of two neighbours, the rotation to the right gives the greater one.
func isTrueByHand(c impl.Claim) bool {
	switch c.Kind {
	case 1:
		return isWayByHand(c.Trees, c.First, c.Second, rightNeighbours)
	case 2:
		return isWayByHand(c.Trees, c.First, c.Second, neighboursByHand) && strings.Count(c.First, "(") <= 5 && len(c.Trees) == len(waysByHand(c.First)[c.Second])
	case 3:
		return shrinksToNothing(c.First) && isPermutationByHand(c.Numbers) && len(c.First) == 2*len(c.Numbers) && slices.IsSorted(outputByHand(c.First, c.Numbers))
	case 4:
		if !isPermutationByHand(c.Numbers) || len(c.Other) != 3 {
			return false
		}
		var triple []int
		for i, place := range c.Other {
			if place < 0 || place >= len(c.Numbers) || i > 0 && place <= c.Other[i-1] {
				return false
			}
			triple = append(triple, c.Numbers[place])
		}
		return standardized(triple) == "231"
	case 5:
		n := len(c.Numbers)
		return n >= 3 && isTriangulationByHand(n, c.Table) && slices.Equal(quiddityByHand(n, c.Table), c.Numbers)
	case 6:
		if !isMatchingByHand(c.Numbers) || !isMatchingByHand(c.Other) || len(c.Numbers) != len(c.Other) {
			return false
		}
		above, _ := pairsByHand(c.Numbers)
		below, _ := pairsByHand(c.Other)
		return above == 0 && below == 0 && loopsByHand(c.Numbers, c.Other) == 1
	}
	return false
}

func checkTruth(t *testing.T, c impl.Claim) {
	t.Helper()
	if got, want := impl.CheckClaim(c), isTrueByHand(c); got != want {
		t.Fatalf("CheckClaim(%+v) = %v", c, got)
	}
}

// madeClaim checks that what is made is accepted, is as it should be, and has such a text.
func madeClaim(t *testing.T, c impl.Claim, ok bool, want impl.Claim, text string) {
	t.Helper()
	if !ok || !sameClaims(c, want) {
		t.Fatalf("the claim is %+v, %v, want %+v", c, ok, want)
	}
	if !impl.CheckClaim(c) || !isTrueByHand(c) {
		t.Fatalf("the claim %+v is not accepted or not true", c)
	}
	if got := impl.FormatClaim(c); got != text {
		t.Fatalf("FormatClaim(%+v) = %q, want %q", c, got, text)
	}
}

func sameClaims(a impl.Claim, b impl.Claim) bool {
	return a.Kind == b.Kind && a.First == b.First && a.Second == b.Second && slices.Equal(a.Trees, b.Trees) && slices.Equal(a.Numbers, b.Numbers) && slices.Equal(a.Other, b.Other) && sameRows(a.Table, b.Table)
}

func isZeroClaim(c impl.Claim) bool {
	return sameClaims(c, impl.Claim{})
}

func commas(l []int) string {
	return orNone(wordsOf(l, ",", func(_ int, n int) string { return fmt.Sprint(n) }))
}

// orderWayByHand takes the first rotation after which b still can be reached.
func orderWayByHand(a string, b string, less func(a string, b string) bool) []string {
	way := []string{a}
	for a != b {
		next := rightNeighbours(a)
		a = next[slices.IndexFunc(next, func(s string) bool { return less(s, b) })]
		way = append(way, a)
	}
	return way
}

// lessByWeights is the order of trees with as many nodes.
func lessByWeights(a string, b string) bool {
	second := weightsByHand(b)
	for i, weight := range weightsByHand(a) {
		if weight > second[i] {
			return false
		}
	}
	return true
}

func checkOrder(t *testing.T, a string, b string, less func(a string, b string) bool) {
	t.Helper()
	c, ok := impl.ClaimOfOrder(a, b)
	if !less(a, b) {
		if ok || !isZeroClaim(c) {
			t.Fatalf("ClaimOfOrder(%q, %q) = %+v, %v", a, b, c, ok)
		}
		return
	}
	way := orderWayByHand(a, b, less)
	madeClaim(t, c, ok, impl.Claim{Kind: 1, First: a, Second: b, Trees: way}, "below "+strings.Join(way, " "))
}

func TestConstantsAndWordsOfClaims(t *testing.T) {
	kinds := []int{impl.ClaimBelow, impl.ClaimDistance, impl.ClaimSorted, impl.ClaimUnsorted, impl.ClaimFrieze, impl.ClaimMeander}
	if !slices.Equal(kinds, []int{1, 2, 3, 4, 5, 6}) {
		t.Error(kinds)
	}
	for i, word := range []string{"", "below", "distance", "sorted", "unsorted", "frieze", "meander", "", ""} {
		if got := impl.ClaimWord(i); got != word {
			t.Errorf("ClaimWord(%d) = %q, want %q", i, got, word)
		}
	}
	for _, kind := range append(farNumbers(), -2, -1, 256+1, 1<<32+1) {
		if got := impl.ClaimWord(kind); got != "" {
			t.Errorf("ClaimWord(%d) = %q", kind, got)
		}
	}
}

func TestClaimsOfAllOrders(t *testing.T) {
	for n := range 6 {
		l := tamariOf(n)
		for _, a := range l.trees {
			for _, b := range l.trees {
				checkOrder(t, a, b, l.less)
			}
		}
	}
}

func TestClaimsOfOrdersOfGreatTrees(t *testing.T) {
	by := treesBySize(impl.MaxSize)
	for n := 6; n <= impl.MaxSize; n++ {
		low := strings.Repeat("(", n) + "." + strings.Repeat(".)", n)
		high := strings.Repeat("(.", n) + "." + strings.Repeat(")", n)
		checkOrder(t, low, high, lessByWeights)
		checkOrder(t, high, low, lessByWeights)
		for i, s := range by[n] {
			checkOrder(t, s, by[n][(7*i+3)%len(by[n])], lessByWeights)
			if i%10 == 0 {
				checkOrder(t, low, s, lessByWeights)
				checkOrder(t, s, high, lessByWeights)
				checkOrder(t, s, s, lessByWeights)
			}
		}
	}
}

func TestClaimsOfAllDistances(t *testing.T) {
	for _, trees := range treesBySize(5) {
		for _, a := range trees {
			ways := waysByHand(a)
			for _, b := range trees {
				c, ok := impl.ClaimOfDistance(a, b)
				madeClaim(t, c, ok, impl.Claim{Kind: 2, First: a, Second: b, Trees: ways[b]}, "distance "+strings.Join(ways[b], " "))
			}
		}
	}
}

func TestClaimsOfTreesRefuse(t *testing.T) {
	by := treesBySize(impl.MaxSize)
	refuse := func(a string, b string, order bool) {
		t.Helper()
		if c, ok := impl.ClaimOfDistance(a, b); ok || !isZeroClaim(c) {
			t.Errorf("ClaimOfDistance(%.40q, %.40q) = %+v, %v", a, b, c, ok)
		}
		if c, ok := impl.ClaimOfOrder(a, b); ok != order || !order && !isZeroClaim(c) {
			t.Errorf("ClaimOfOrder(%.40q, %.40q) = %+v, %v", a, b, c, ok)
		}
	}
	for _, s := range noTrees() {
		refuse(s, s, false)
		for _, trees := range by {
			refuse(s, trees[0], false)
			refuse(trees[0], s, false)
		}
	}
	for m, first := range by {
		for n, second := range by {
			if m != n || n > 5 {
				refuse(first[0], second[0], m == n)
				refuse(first[len(first)/2], second[len(second)/2], m == n)
			}
		}
	}
}

func TestClaimsOfSortingAllPermutations(t *testing.T) {
	for _, p := range allPermutations() {
		given, check := guarded(t, p)
		c, ok := impl.ClaimOfSorting(given)
		want, text := impl.Claim{Kind: 3, Numbers: p}, "sorted "+commas(p)+" by "
		if places := patternPlacesByHand(p); places != nil {
			want.Kind, want.Other = 4, places
			text = "unsorted " + commas(p) + " by " + commas(places)
		} else {
			want.First, _ = impl.PathOfPermutation(p)
			text += want.First
		}
		madeClaim(t, c, ok, want, text)
		scribble(c.Numbers)
		scribble(c.Other)
		check()
	}
	for _, p := range noPermutations() {
		if c, ok := impl.ClaimOfSorting(p); ok || !isZeroClaim(c) {
			t.Errorf("ClaimOfSorting(%v) = %+v, %v", p[:min(len(p), 20)], c, ok)
		}
	}
}

func TestClaimsOfAllFriezes(t *testing.T) {
	for n := 3; n <= 10; n++ {
		for _, d := range triangulations(n) {
			q := quiddityByHand(n, d)
			given, check := guarded(t, q)
			c, ok := impl.ClaimOfFrieze(given)
			text := wordsOf(d, " ", func(_ int, ends []int) string { return fmt.Sprintf("%d%d", ends[0], ends[1]) })
			madeClaim(t, c, ok, impl.Claim{Kind: 5, Numbers: q, Table: d}, "frieze "+commas(q)+" by "+orNone(text))
			apart(t, append(c.Table, c.Numbers))
			check()
		}
	}
	for _, q := range badRows() {
		if c, ok := impl.ClaimOfFrieze(q); ok || !isZeroClaim(c) {
			t.Errorf("ClaimOfFrieze(%v) = %+v, %v", q[:min(len(q), 20)], c, ok)
		}
	}
}

func TestClaimsOfAllMeanders(t *testing.T) {
	for n, paths := range pathsBySize(5) {
		for _, w := range paths {
			a := matchingByHand(w)
			given, check := guarded(t, a)
			c, ok := impl.ClaimOfMeander(given)
			if n == 0 {
				if ok || !isZeroClaim(c) {
					t.Errorf("ClaimOfMeander of no points is %+v, %v", c, ok)
				}
				continue
			}
			b := matchingByHand(paths[slices.IndexFunc(paths, func(w string) bool { return loopsByHand(a, matchingByHand(w)) == 1 })])
			madeClaim(t, c, ok, impl.Claim{Kind: 6, Numbers: a, Other: b}, "meander "+commas(a)+" by "+commas(b))
			apart(t, [][]int{c.Numbers, c.Other})
			check()
		}
	}
	for _, a := range append(noDiagrams(), matchingByHand(strings.Repeat("ud", 7)), matchingByHand(strings.Repeat("ud", 8))) {
		if c, ok := impl.ClaimOfMeander(a); ok || !isZeroClaim(c) {
			t.Errorf("ClaimOfMeander(%v) = %+v, %v", a[:min(len(a), 20)], c, ok)
		}
	}
}

// listsOfTrees returns all lists of at most n of some texts.
func listsOfTrees(texts []string, n int) [][]string {
	var lists [][]string
	for _, places := range listsOf(0, len(texts)-1, n) {
		var l []string
		for _, place := range places {
			l = append(l, texts[place])
		}
		lists = append(lists, l)
	}
	return lists
}

func TestCheckClaimOfAllWays(t *testing.T) {
	texts := append(slices.Concat(treesBySize(3)[2:]...), "", "x")
	for _, l := range listsOfTrees(texts, 4) {
		ends := texts
		if len(l) > 2 {
			// Other ends have been tried with shorter lists.
			ends = []string{l[0], l[len(l)-1]}
		}
		for _, first := range ends {
			for _, second := range ends {
				checkTruth(t, impl.Claim{Kind: 1, First: first, Second: second, Trees: l})
				checkTruth(t, impl.Claim{Kind: 2, First: first, Second: second, Trees: l})
			}
		}
	}
}

func TestCheckClaimOfWaysOfOneTree(t *testing.T) {
	for n, trees := range treesBySize(impl.MaxSize) {
		for _, s := range trees {
			way := []string{s}
			if !impl.CheckClaim(impl.Claim{Kind: 1, First: s, Second: s, Trees: way}) {
				t.Fatalf("%q is not below itself", s)
			}
			if got := impl.CheckClaim(impl.Claim{Kind: 2, First: s, Second: s, Trees: way}); got != (n <= 5) {
				t.Fatalf("the way of %q alone: %v", s, got)
			}
			for kind := 1; kind <= 2; kind++ {
				for _, c := range []impl.Claim{{Kind: kind, First: s, Second: s}, {Kind: kind, First: s, Trees: way}, {Kind: kind, Second: s, Trees: way}, {Kind: kind, First: s, Second: s, Trees: []string{s, s}}, {Kind: kind, Trees: way}} {
					if impl.CheckClaim(c) {
						t.Fatalf("CheckClaim(%+v)", c)
					}
				}
			}
			if c, ok := impl.ClaimOfOrder(s, s); !ok || !slices.Equal(c.Trees, way) || impl.FormatClaim(c) != "below "+s {
				t.Fatalf("ClaimOfOrder(%q, %q) = %+v, %v", s, s, c, ok)
			}
		}
	}
	c, ok := impl.ClaimOfDistance(".", ".")
	madeClaim(t, c, ok, impl.Claim{Kind: 2, First: ".", Second: ".", Trees: []string{"."}}, "distance .")
	for _, s := range noTrees() {
		for kind := 1; kind <= 2; kind++ {
			if impl.CheckClaim(impl.Claim{Kind: kind, First: s, Second: s, Trees: []string{s}}) {
				t.Errorf("a claim of kind %d about %.40q is accepted", kind, s)
			}
		}
	}
}

func TestCheckClaimOfWaysWithDetours(t *testing.T) {
	a, b := "((..).)", "(.(..))"
	for steps := range 60 {
		way := []string{a}
		for i := range steps {
			way = append(way, []string{b, a}[i%2])
		}
		c := impl.Claim{Kind: 1, First: a, Second: way[steps], Trees: way}
		if got := impl.CheckClaim(c); got != (steps <= 1) {
			t.Errorf("below with %d steps: %v", steps, got)
		}
		c.Kind = 2
		if got := impl.CheckClaim(c); got != (steps <= 1) {
			t.Errorf("distance with %d steps: %v", steps, got)
		}
	}
	// Two ways around the pentagon of the trees with three nodes: both ascend, but only one of them is short.
	short := []string{"(((..).).)", "((..)(..))", "(.(.(..)))"}
	long := []string{"(((..).).)", "((.(..)).)", "(.((..).))", "(.(.(..)))"}
	for kind := 1; kind <= 2; kind++ {
		for _, way := range [][]string{short, long} {
			c := impl.Claim{Kind: kind, First: way[0], Second: way[len(way)-1], Trees: way}
			if got := impl.CheckClaim(c); got != (kind == 1 || len(way) == 3) || got != isTrueByHand(c) {
				t.Errorf("CheckClaim(%+v) = %v", c, got)
			}
			slices.Reverse(way)
			c.First, c.Second = way[0], way[len(way)-1]
			if got := impl.CheckClaim(c); got != (kind == 2 && len(way) == 3) {
				t.Errorf("CheckClaim(%+v) = %v", c, got)
			}
			slices.Reverse(way)
		}
	}
}

func TestCheckClaimOfAllSorting(t *testing.T) {
	for _, w := range append(slices.Concat(pathsBySize(5)...), noPaths()...) {
		for _, p := range append(slices.Concat(permutations(len(w)/2%6), permutations(2)), []int{1}, []int{0, 0}, []int{0, 2}) {
			checkTruth(t, impl.Claim{Kind: 3, First: w, Numbers: p})
		}
	}
	for n := range 6 {
		for _, p := range append(permutations(n), slices.Repeat([]int{0}, n), slices.Repeat([]int{1}, n), []int{1, 2, -1}, []int{2, 3, 1}, []int{1, 2, 0, 0}, []int{0, 2, 3, 1, 4, 5, 6, 7, 8}) {
			for _, places := range slices.Concat(listsOf(-1, 3, 4), [][]int{{0, 1, 4}, {0, 2, 4}, {2, 3, 4}, {1, 2, 5}, {0, 1, math.MaxInt}, {math.MinInt, 1, 2}, {0, 1 << 32, 2}, {0, 1, 1<<32 + 2}, make([]int, 100000)}) {
				checkTruth(t, impl.Claim{Kind: 4, Numbers: p, Other: places})
			}
		}
	}
}

func TestCheckClaimOfAllFriezes(t *testing.T) {
	for m := 2; m <= 6; m++ {
		for _, d := range triangulations(m) {
			for n := 2; n <= 6; n++ {
				for _, e := range triangulations(n) {
					checkTruth(t, impl.Claim{Kind: 5, Numbers: quiddityByHand(m, d), Table: e})
				}
			}
			for _, no := range noTriangulations() {
				checkTruth(t, impl.Claim{Kind: 5, Numbers: quiddityByHand(m, d), Table: no.d})
			}
			q := quiddityByHand(m, d)
			for i := range q {
				for _, wrong := range []int{q[i] - 1, q[i] + 1, -q[i], math.MinInt, math.MaxInt} {
					near := slices.Clone(q)
					near[i] = wrong
					checkTruth(t, impl.Claim{Kind: 5, Numbers: near, Table: d})
				}
			}
		}
	}
	for _, q := range append(badRows(), listsOf(0, 3, 5)...) {
		checkTruth(t, impl.Claim{Kind: 5, Numbers: q})
		checkTruth(t, impl.Claim{Kind: 5, Numbers: q, Table: [][]int{{0, 2}}})
		checkTruth(t, impl.Claim{Kind: 5, Numbers: q, Table: [][]int{{1, 3}}})
		checkTruth(t, impl.Claim{Kind: 5, Numbers: q, Table: [][]int{{0, 2}, {0, 3}}})
	}
}

func TestCheckClaimOfAllMeanders(t *testing.T) {
	for n := range 5 {
		for _, a := range matchings(n) {
			for _, b := range append(diagrams(n), matchings(2)...) {
				checkTruth(t, impl.Claim{Kind: 6, Numbers: a, Other: b})
				checkTruth(t, impl.Claim{Kind: 6, Numbers: b, Other: a})
			}
		}
	}
	for _, no := range noMatchings() {
		for _, b := range [][]int{nil, {1, 0}, {1, 0, 3, 2}, no} {
			checkTruth(t, impl.Claim{Kind: 6, Numbers: no, Other: b})
			checkTruth(t, impl.Claim{Kind: 6, Numbers: b, Other: no})
		}
	}
}

// claimsOfAllKinds returns one true claim of each kind.
func claimsOfAllKinds() []impl.Claim {
	return []impl.Claim{
		{Kind: 1, First: "((..).)", Second: "(.(..))", Trees: []string{"((..).)", "(.(..))"}},
		{Kind: 2, First: "(.(..))", Second: "((..).)", Trees: []string{"(.(..))", "((..).)"}},
		{Kind: 3, First: "uududd", Numbers: []int{2, 0, 1}},
		{Kind: 4, Numbers: []int{0, 2, 3, 1}, Other: []int{1, 2, 3}},
		{Kind: 5, Numbers: []int{1, 2, 1, 2}, Table: [][]int{{1, 3}}},
		{Kind: 6, Numbers: []int{3, 2, 1, 0}, Other: []int{1, 0, 3, 2}},
	}
}

func TestClaimsOfOtherKinds(t *testing.T) {
	for _, c := range append(claimsOfAllKinds(), impl.Claim{}) {
		for _, kind := range append(farNumbers(), -1, 0, 1, 2, 3, 4, 5, 6, 7, 1<<32+1) {
			other := c
			other.Kind = kind
			checkTruth(t, other)
			if kind >= 1 && kind <= 6 {
				continue
			}
			if impl.CheckClaim(other) || impl.FormatClaim(other) != "" {
				t.Errorf("a claim of kind %d: %v, %q", kind, impl.CheckClaim(other), impl.FormatClaim(other))
			}
		}
	}
}

func TestFormatClaim(t *testing.T) {
	numbers := make([]int, 41)
	leaves := strings.Fields(strings.Repeat(". ", 41))
	many := strings.Repeat("0,", 39) + "0"
	for _, c := range []struct {
		want  string
		claim impl.Claim
	}{
		{"", impl.Claim{}}, {"", impl.Claim{Kind: 7, First: "ud", Trees: []string{"."}, Numbers: []int{1}}}, {"", impl.Claim{Kind: -1, Trees: []string{"."}}},
		{"", impl.Claim{Kind: 1}}, {"", impl.Claim{Kind: 1, First: ".", Second: "."}}, {"below .", impl.Claim{Kind: 1, Trees: leaves[:1]}}, {"below . (..)", impl.Claim{Kind: 1, First: "x", Second: "y", Trees: []string{".", "(..)"}}},
		{"", impl.Claim{Kind: 1, Trees: []string{"x"}}}, {"", impl.Claim{Kind: 1, Trees: []string{".", "", "."}}}, {"", impl.Claim{Kind: 1, Trees: []string{".", "(.)"}}},
		{"below " + strings.Join(leaves[:40], " "), impl.Claim{Kind: 1, Trees: leaves[:40]}}, {"", impl.Claim{Kind: 1, Trees: leaves}},
		{"", impl.Claim{Kind: 2}}, {"distance .", impl.Claim{Kind: 2, Trees: leaves[:1]}}, {"distance (..) (..)", impl.Claim{Kind: 2, Trees: []string{"(..)", "(..)"}}}, {"", impl.Claim{Kind: 2, Trees: []string{"(..)", "..", "(..)"}}},
		{"distance " + strings.Join(leaves[:40], " "), impl.Claim{Kind: 2, Trees: leaves[:40]}}, {"", impl.Claim{Kind: 2, Trees: leaves}},
		{"sorted none by ", impl.Claim{Kind: 3}}, {"sorted none by ud", impl.Claim{Kind: 3, First: "ud"}}, {"sorted 5,-7 by ud", impl.Claim{Kind: 3, First: "ud", Numbers: []int{5, -7}}}, {"", impl.Claim{Kind: 3, First: "du", Numbers: []int{0}}}, {"", impl.Claim{Kind: 3, First: strings.Repeat("ud", 9)}},
		{"sorted none by ", impl.Claim{Kind: 3, Second: "x", Trees: []string{"x"}, Other: []int{1}, Table: [][]int{{10}}}},
		{"unsorted none by none", impl.Claim{Kind: 4}}, {"unsorted 1 by 2,3", impl.Claim{Kind: 4, First: "du", Numbers: []int{1}, Other: []int{2, 3}, Trees: []string{"x"}, Table: [][]int{{10}}}},
		{"unsorted -99,-99,-99,-98,98,99,99,99 by -99,99,99,0,-99", impl.Claim{Kind: 4, Numbers: []int{math.MinInt, -100, -99, -98, 98, 99, 100, math.MaxInt}, Other: []int{-1 << 32, 1 << 32, 1000, 0, -1000}}},
		{"unsorted " + many + " by none", impl.Claim{Kind: 4, Numbers: numbers[:40], Other: numbers}}, {"unsorted none by " + many, impl.Claim{Kind: 4, Numbers: numbers, Other: numbers[:40]}},
		{"frieze none by none", impl.Claim{Kind: 5}}, {"frieze 99 by 90 11", impl.Claim{Kind: 5, Numbers: []int{100}, Table: [][]int{{9, 0}, {1, 1}}}}, {"frieze 1 by 02", impl.Claim{Kind: 5, First: "du", Numbers: []int{1}, Other: []int{7}, Trees: []string{"x"}, Table: [][]int{{0, 2}}}},
		{"", impl.Claim{Kind: 5, Numbers: []int{1}, Table: [][]int{{0}}}}, {"", impl.Claim{Kind: 5, Table: [][]int{{0, 10}}}}, {"", impl.Claim{Kind: 5, Table: make([][]int, 21)}}, {"", impl.Claim{Kind: 5, Table: [][]int{{0, 2}, nil}}}, {"frieze none by none", impl.Claim{Kind: 5, Numbers: numbers}},
		{"frieze 1 by 00" + strings.Repeat(" 00", 19), impl.Claim{Kind: 5, Numbers: []int{1}, Table: slices.Repeat([][]int{{0, 0}}, 20)}}, {"", impl.Claim{Kind: 5, Numbers: []int{1}, Table: slices.Repeat([][]int{{0, 0}}, 21)}},
		{"meander none by none", impl.Claim{Kind: 6}}, {"meander 1,0 by 0,0,0", impl.Claim{Kind: 6, First: "du", Numbers: []int{1, 0}, Other: numbers[:3]}}, {"meander none by none", impl.Claim{Kind: 6, Numbers: numbers, Other: make([]int, 100000)}},
	} {
		if got := impl.FormatClaim(c.claim); got != c.want {
			t.Errorf("FormatClaim(%+v) = %q, want %q", c.claim, got, c.want)
		}
	}
}

// differingClaims returns claims that differ from c in one field.
func differingClaims(c impl.Claim) []impl.Claim {
	l := slices.Repeat([]impl.Claim{c}, 13)
	l[0].Kind++
	l[1].First += "u"
	l[2].Second += "."
	l[3].Trees = append(slices.Clone(c.Trees), "")
	l[4].Numbers = append(slices.Clone(c.Numbers), 0)
	l[5].Other = append(slices.Clone(c.Other), 0)
	l[6].Table = append(copyRows(c.Table), nil)
	l[7].Table = append(copyRows(c.Table), []int{0})
	l[8].Trees = append([]string{"."}, c.Trees...)
	l[9].Numbers = append([]int{7}, c.Numbers...)
	l[10].Other = append([]int{7}, c.Other...)
	l[11].Table = append([][]int{{7}}, c.Table...)
	l[12].First, l[12].Second = c.Second+"x", c.First
	for i := range c.Table {
		for k := range c.Table[i] {
			other := c
			other.Table = copyRows(c.Table)
			other.Table[i][k]++
			l = append(l, other)
		}
	}
	return l
}

func TestEqualClaims(t *testing.T) {
	full := impl.Claim{Kind: 9, First: "x", Second: "\xff", Trees: []string{"y", ""}, Numbers: []int{math.MinInt, 1}, Other: []int{math.MaxInt}, Table: [][]int{{1, 2}, nil, {3}}}
	for _, c := range append(claimsOfAllKinds(), full, impl.Claim{}) {
		same := c
		same.Trees, same.Numbers, same.Other, same.Table = slices.Clone(c.Trees), slices.Clone(c.Numbers), slices.Clone(c.Other), copyRows(c.Table)
		if !impl.EqualClaims(c, c) || !impl.EqualClaims(c, same) || !impl.EqualClaims(same, c) {
			t.Errorf("%+v is not equal to itself", c)
		}
		for _, other := range differingClaims(c) {
			if impl.EqualClaims(c, other) || impl.EqualClaims(other, c) {
				t.Errorf("%+v is equal to %+v", c, other)
			}
			if !impl.EqualClaims(other, other) {
				t.Errorf("%+v is not equal to itself", other)
			}
		}
	}
	empty := impl.Claim{Trees: []string{}, Numbers: []int{}, Other: []int{}, Table: [][]int{}}
	if !impl.EqualClaims(impl.Claim{}, empty) || !impl.EqualClaims(empty, impl.Claim{}) {
		t.Error("no items are not equal to none")
	}
	if !impl.EqualClaims(impl.Claim{Table: [][]int{nil}}, impl.Claim{Table: [][]int{{}}}) || impl.EqualClaims(impl.Claim{Table: [][]int{nil}}, impl.Claim{}) {
		t.Error("rows without numbers")
	}
	for i, c := range claimsOfAllKinds() {
		for k, d := range claimsOfAllKinds() {
			if impl.EqualClaims(c, d) != (i == k) {
				t.Errorf("claims %d and %d", i, k)
			}
		}
	}
}

func TestClaimsAreNotChanged(t *testing.T) {
	for _, c := range claimsOfAllKinds() {
		given := c
		var checks [3]func()
		given.Numbers, checks[0] = guarded(t, c.Numbers)
		given.Other, checks[1] = guarded(t, c.Other)
		given.Table, checks[2] = guardedRows(t, c.Table)
		given.Trees = append(slices.Clone(c.Trees), "behind")[:len(c.Trees)]
		if !impl.CheckClaim(given) || impl.FormatClaim(given) == "" || !impl.EqualClaims(given, c) || !sameClaims(given, c) {
			t.Errorf("%+v", given)
		}
		for _, check := range checks {
			check()
		}
		if given.Trees[:len(c.Trees)+1][len(c.Trees)] != "behind" {
			t.Error(given.Trees[:len(c.Trees)+1])
		}
	}
	// The results of one call are not in the next one.
	for range 2 {
		c, _ := impl.ClaimOfOrder("((..).)", "(.(..))")
		d, _ := impl.ClaimOfDistance("((..).)", "(.(..))")
		if c.Trees[0] != "((..).)" || d.Trees[0] != "((..).)" {
			t.Error(c, d)
		}
		clear(c.Trees)
		clear(d.Trees)
	}
}

func TestNoClaimMakesTheCheckerPanic(t *testing.T) {
	lists := [][]int{nil, {}, {0}, {-1}, {0, 1, 2}, {math.MinInt, 0, math.MaxInt}, {2, 1, 0}, make([]int, 100000)}
	tables := [][][]int{nil, {}, {nil}, {{}}, {{0, 2}}, {{math.MinInt, math.MaxInt}}, make([][]int, 100000)}
	ways := [][]string{nil, {}, {""}, {"."}, {".", ""}, {"", "."}, make([]string, 41), make([]string, 100000)}
	for kind := 0; kind <= 7; kind++ {
		for _, numbers := range lists {
			for _, other := range lists {
				for _, table := range tables {
					for _, way := range ways {
						c := impl.Claim{Kind: kind, Trees: way, Numbers: numbers, Other: other, Table: table}
						if impl.CheckClaim(c) != isTrueByHand(c) {
							t.Fatalf("a claim of kind %d with %d, %d, %d and %d items: %v", kind, len(way), len(numbers), len(other), len(table), impl.CheckClaim(c))
						}
						impl.FormatClaim(c)
					}
				}
			}
		}
	}
}
