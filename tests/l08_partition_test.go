package tests

import (
	"math"
	"slices"
	"strings"
	"testing"

	"loop.example/g03401/impl"
)

// partitions returns all partitions of n elements.
func partitions(n int) [][]int {
	all := [][]int{nil}
	for range n {
		var next [][]int
		for _, p := range all {
			blocks := 0
			for _, b := range p {
				blocks = max(blocks, b+1)
			}
			for b := range blocks + 1 {
				next = append(next, append(slices.Clone(p), b))
			}
		}
		all = next
	}
	return all
}

func allPartitions() [][]int {
	var all [][]int
	for n := range impl.MaxSize + 1 {
		all = append(all, partitions(n)...)
	}
	return all
}

// isPartitionByHand follows the text of the specification: the first elements of the blocks have the numbers 0, 1 and so on.
func isPartitionByHand(p []int) bool {
	next := 0
	for i, b := range p {
		if slices.Contains(p[:i], b) {
			continue
		}
		if b != next {
			return false
		}
		next++
	}
	return len(p) <= 8
}

// quadruple reports whether four ascending elements of a list satisfy a condition.
func quadruple(p []int, condition func(a, b, c, d int) bool) bool {
	for d := range p {
		for c := range d {
			for b := range c {
				for a := range b {
					if condition(a, b, c, d) {
						return true
					}
				}
			}
		}
	}
	return false
}

func crossesByHand(p []int) bool {
	return quadruple(p, func(a, b, c, d int) bool { return p[a] == p[c] && p[b] == p[d] && p[a] != p[b] })
}

// neighbours reports whether b follows a in a block.
func neighbours(p []int, a int, b int) bool {
	return p[a] == p[b] && !slices.Contains(p[a+1:b], p[a])
}

func nestsByHand(p []int) bool {
	return quadruple(p, func(a, b, c, d int) bool { return neighbours(p, a, d) && neighbours(p, b, c) })
}

// partitionByHand lets two elements lie in one block if no u stands between the letters d that belong to them.
func partitionByHand(w string) []int {
	s := parentheses(w)
	var closing, p []int
	for i := range len(s) {
		if s[i] == '(' {
			closing = append(closing, partner(s, i))
		}
	}
	blocks := 0
	for e, at := range closing {
		block := blocks
		for f, other := range closing[:e] {
			if !strings.Contains(w[min(at, other):max(at, other)], "u") {
				block = p[f]
			}
		}
		p = append(p, block)
		blocks = max(blocks, block+1)
	}
	return p
}

// noPartitions returns lists that are no partitions.
func noPartitions() [][]int {
	return [][]int{
		{1}, {-1}, {2}, {0, 2}, {0, -1}, {0, 0, 2}, {1, 0}, {0, 1, 3}, {0, 1, 0, 3}, {0, 2, 1}, {0, 0, 0, 0, 0, 0, 0, 2}, {math.MinInt}, {math.MaxInt}, {0, math.MaxInt}, {0, math.MinInt}, {0, 1<<32 + 1}, {1 << 32}, {0, 1, 1 << 32},
		make([]int, 9), {0, 1, 2, 3, 4, 5, 6, 7, 8}, {0, 1, 0, 0, 1, 1, 0, 0, 2}, make([]int, 100000),
	}
}

func TestIsPartitionOfAllLists(t *testing.T) {
	for _, p := range slices.Concat(listsOf(-2, 5, 5), allPartitions(), noPartitions()) {
		if got, want := impl.IsPartition(p), isPartitionByHand(p); got != want {
			t.Fatalf("IsPartition(%v) = %v", p, got)
		}
	}
	for _, p := range partitions(9) {
		if impl.IsPartition(p) || impl.IsNoncrossing(p) || impl.IsNonnesting(p) {
			t.Fatalf("%v has too many elements", p)
		}
	}
}

func TestNoncrossingAndNonnesting(t *testing.T) {
	for n := range impl.MaxSize + 1 {
		noncrossing, nonnesting := 0, 0
		for _, p := range partitions(n) {
			crosses, nests := crossesByHand(p), nestsByHand(p)
			if impl.IsNoncrossing(p) == crosses {
				t.Fatalf("IsNoncrossing(%v) = %v", p, crosses)
			}
			if impl.IsNonnesting(p) == nests {
				t.Fatalf("IsNonnesting(%v) = %v", p, nests)
			}
			if !crosses {
				noncrossing++
			}
			if !nests {
				nonnesting++
			}
		}
		if c := impl.CatalanNumber(n); noncrossing != c || nonnesting != c {
			t.Errorf("of %d elements, %d partitions do not cross and %d do not nest", n, noncrossing, nonnesting)
		}
	}
}

func TestBlocksOf(t *testing.T) {
	for _, p := range allPartitions() {
		blocks := impl.BlocksOf(p)
		total := 0
		for b, elements := range blocks {
			if len(elements) == 0 || !slices.IsSorted(elements) {
				t.Fatalf("BlocksOf(%v) = %v", p, blocks)
			}
			for _, e := range elements {
				if p[e] != b {
					t.Fatalf("BlocksOf(%v) = %v", p, blocks)
				}
			}
			total += len(slices.Compact(slices.Clone(elements)))
		}
		if total != len(p) {
			t.Fatalf("BlocksOf(%v) = %v", p, blocks)
		}
		apart(t, blocks)
	}
}

func TestPartitionsOfPaths(t *testing.T) {
	for _, w := range allPaths() {
		p, ok := impl.PartitionOf(w)
		if want := partitionByHand(w); !ok || !slices.Equal(p, want) {
			t.Fatalf("PartitionOf(%q) = %v, %v, want %v", w, p, ok, want)
		}
		if again, ok := impl.PathOfPartition(p); again != w || !ok {
			t.Fatalf("PathOfPartition(%v) = %q, %v, want %q", p, again, ok, w)
		}
		if !impl.IsNoncrossing(p) || len(impl.BlocksOf(p)) != impl.PeaksOf(w) {
			t.Errorf("the partition %v of %q", p, w)
		}
		scribble(p)
		if again, _ := impl.PartitionOf(w); !slices.Equal(again, partitionByHand(w)) {
			t.Fatalf("the result of one call is in the next one: %v", again)
		}
	}
}

func TestPathsOfPartitions(t *testing.T) {
	for _, p := range allPartitions() {
		w, ok := impl.PathOfPartition(p)
		if crossesByHand(p) {
			if w != "" || ok {
				t.Fatalf("PathOfPartition(%v) = %q, %v", p, w, ok)
			}
			continue
		}
		if !ok || !shrinksToNothing(w) || !slices.Equal(partitionByHand(w), p) {
			t.Fatalf("PathOfPartition(%v) = %q, %v", p, w, ok)
		}
	}
}

func TestRenumberBlocks(t *testing.T) {
	names := []int{7, math.MinInt, -1, math.MaxInt, 0, 1 << 32, 1, -7001}
	for _, p := range allPartitions() {
		l := make([]int, len(p))
		for i, b := range p {
			l[i] = names[b]
		}
		given, check := guarded(t, l)
		got, ok := impl.RenumberBlocks(given)
		if !ok || !slices.Equal(got, p) {
			t.Fatalf("RenumberBlocks(%v) = %v, %v, want %v", l, got, ok, p)
		}
		scribble(got)
		check()
	}
	for _, l := range listsOf(-1, 4, 5) {
		got, ok := impl.RenumberBlocks(l)
		if !ok || !isPartitionByHand(got) || len(got) != len(l) {
			t.Fatalf("RenumberBlocks(%v) = %v, %v", l, got, ok)
		}
		for i := range l {
			for j := range i {
				if (l[i] == l[j]) != (got[i] == got[j]) {
					t.Fatalf("RenumberBlocks(%v) = %v", l, got)
				}
			}
		}
	}
	for _, l := range [][]int{make([]int, 9), {0, 1, 2, 3, 4, 5, 6, 7, 8}, {5, 5, 5, 5, 5, 5, 5, 5, -5}, make([]int, 100000)} {
		if got, ok := impl.RenumberBlocks(l); len(got) != 0 || ok {
			t.Errorf("RenumberBlocks of %d elements = %v, %v", len(l), got, ok)
		}
	}
}

func TestTurnPartition(t *testing.T) {
	for _, p := range allPartitions() {
		given, check := guarded(t, p)
		turned, ok := impl.TurnPartition(given)
		n := len(p)
		if !ok || len(turned) != n || !isPartitionByHand(turned) {
			t.Fatalf("TurnPartition(%v) = %v, %v", p, turned, ok)
		}
		for i := range n {
			for j := range n {
				if (p[i] == p[j]) != (turned[(i+1)%n] == turned[(j+1)%n]) {
					t.Fatalf("TurnPartition(%v) = %v", p, turned)
				}
			}
		}
		if crossesByHand(turned) != crossesByHand(p) {
			t.Errorf("%v is turned to %v: only one of them crosses", p, turned)
		}
		scribble(turned)
		check()
	}
}

func TestFormatPartition(t *testing.T) {
	for want, p := range map[string][]int{
		"": nil, "1": {0}, "12": {0, 0}, "1|2": {0, 1}, "12|345": {0, 0, 1, 1, 1}, "13|24": {0, 1, 0, 1}, "134|2": {0, 1, 0, 0}, "12345678": make([]int, 8), "1|2|3|4|5|6|7|8": {0, 1, 2, 3, 4, 5, 6, 7},
	} {
		if got := impl.FormatPartition(p); got != want {
			t.Errorf("FormatPartition(%v) = %q, want %q", p, got, want)
		}
	}
	for _, p := range allPartitions() {
		text := impl.FormatPartition(p)
		for e, b := range p {
			if digit := string(rune('1' + e)); strings.Count(text, digit) != 1 || strings.Count(text[:strings.Index(text, digit)], "|") != b {
				t.Fatalf("FormatPartition(%v) = %q", p, text)
			}
		}
		for _, word := range strings.Split(text, "|") {
			if !slices.IsSorted([]byte(word)) || word == "" && len(p) > 0 {
				t.Fatalf("FormatPartition(%v) = %q", p, text)
			}
		}
	}
}

func TestNoElements(t *testing.T) {
	if p, ok := impl.PartitionOf(""); len(p) != 0 || !ok {
		t.Errorf("PartitionOf(%q) = %v, %v", "", p, ok)
	}
	for _, p := range [][]int{nil, {}} {
		if !impl.IsPartition(p) || !impl.IsNoncrossing(p) || !impl.IsNonnesting(p) {
			t.Errorf("%v, %v, %v", impl.IsPartition(p), impl.IsNoncrossing(p), impl.IsNonnesting(p))
		}
		if blocks := impl.BlocksOf(p); len(blocks) != 0 {
			t.Errorf("blocks %v", blocks)
		}
		if w, ok := impl.PathOfPartition(p); w != "" || !ok {
			t.Errorf("path %q, %v", w, ok)
		}
		if l, ok := impl.RenumberBlocks(p); len(l) != 0 || !ok {
			t.Errorf("renumbered: %v, %v", l, ok)
		}
		if l, ok := impl.TurnPartition(p); len(l) != 0 || !ok {
			t.Errorf("turned: %v, %v", l, ok)
		}
		if s := impl.FormatPartition(p); s != "" {
			t.Errorf("text %q", s)
		}
	}
}

func TestFunctionsRefuseNoPartitions(t *testing.T) {
	for _, w := range noPaths() {
		if p, ok := impl.PartitionOf(w); len(p) != 0 || ok {
			t.Errorf("PartitionOf(%q) = %v, %v", w, p, ok)
		}
	}
	for _, p := range noPartitions() {
		if impl.IsPartition(p) || impl.IsNoncrossing(p) || impl.IsNonnesting(p) {
			t.Errorf("%v: %v, %v, %v", p, impl.IsPartition(p), impl.IsNoncrossing(p), impl.IsNonnesting(p))
		}
		if blocks := impl.BlocksOf(p); len(blocks) != 0 {
			t.Errorf("BlocksOf(%v) = %v", p, blocks)
		}
		if w, ok := impl.PathOfPartition(p); w != "" || ok {
			t.Errorf("PathOfPartition(%v) = %q, %v", p, w, ok)
		}
		if l, ok := impl.TurnPartition(p); len(l) != 0 || ok {
			t.Errorf("TurnPartition(%v) = %v, %v", p, l, ok)
		}
		if s := impl.FormatPartition(p); s != "" {
			t.Errorf("FormatPartition(%v) = %q", p, s)
		}
	}
}

func TestPartitionsAreNotChanged(t *testing.T) {
	for _, p := range slices.Concat(partitions(4), noPartitions()[:9]) {
		given, check := guarded(t, p)
		impl.IsPartition(given)
		impl.IsNoncrossing(given)
		impl.IsNonnesting(given)
		apart(t, impl.BlocksOf(given))
		impl.PathOfPartition(given)
		impl.FormatPartition(given)
		check()
	}
}
