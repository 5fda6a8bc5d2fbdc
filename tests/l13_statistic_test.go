package tests

import (
	"slices"
	"strings"
	"testing"

	"loop.example/g03401/impl"
)

// statisticNames returns the names in the order of the specification.
func statisticNames() []string {
	return strings.Fields("peaks returns rise area depth leaves blocks major fall")
}

// statisticByHand counts on the objects of a path that the tests make themselves.
func statisticByHand(name string, w string) int {
	heights := letterHeights(w)
	count := 0
	for i := range len(w) {
		next := i + 1
		switch {
		case name == "peaks" && strings.HasPrefix(w[i:], "ud"),
			name == "returns" && heights[next] == 0,
			name == "rise" && !strings.Contains(w[:next], "d"),
			name == "fall" && !strings.Contains(w[i:], "u"):
			count++
		case name == "area" && w[i] == 'u':
			count += heights[i]
		case name == "major" && strings.HasPrefix(w[i:], "du"):
			count += next
		}
	}
	switch name {
	case "depth":
		count = slices.Max(heights)
	case "leaves":
		p := planeByHand(w)
		for v := range p {
			if !slices.Contains(p, v) {
				count++
			}
		}
	case "blocks":
		for _, block := range partitionByHand(w) {
			count = max(count, block+1)
		}
	}
	return count
}

// statisticsByHand returns for each name the statistic of each path.
func statisticsByHand(paths []string) map[string][]int {
	all := map[string][]int{}
	for _, name := range statisticNames() {
		for _, w := range paths {
			all[name] = append(all[name], statisticByHand(name, w))
		}
	}
	return all
}

// distributionByHand counts how often each number occurs, as long as there are greater ones.
func distributionByHand(values []int) []int {
	var counts []int
	found := 0
	for number := 0; found < len(values); number++ {
		count := 0
		for _, value := range values {
			if value == number {
				count++
			}
		}
		counts = append(counts, count)
		found += count
	}
	return counts
}

// jointByHand counts how often two numbers occur at one place.
func jointByHand(a []int, b []int) [][]int {
	size := max(len(distributionByHand(a)), len(distributionByHand(b)))
	table := make([][]int, size)
	for i := range table {
		table[i] = make([]int, size)
		for j := range table[i] {
			for k := range a {
				if a[k] == i && b[k] == j {
					table[i][j]++
				}
			}
		}
	}
	return table
}

func isSymmetricByHand(table [][]int) bool {
	for i := range table {
		for j := range table {
			if table[i][j] != table[j][i] {
				return false
			}
		}
	}
	return true
}

// noStatistics returns words that are not the name of a statistic.
func noStatistics() []string {
	return []string{"", "x", "peak", "Peaks", "PEAKS", "peaks ", " peaks", "peaks\x00", "peaks,returns", "size", "height", "\xff", strings.Repeat("peaks", 10000)}
}

func TestStatisticNames(t *testing.T) {
	names := impl.StatisticNames()
	if !slices.Equal(names, statisticNames()) {
		t.Errorf("StatisticNames() = %q", names)
	}
	clear(names)
	if again := impl.StatisticNames(); !slices.Equal(again, statisticNames()) {
		t.Errorf("the result of one call is in the next one: %q", again)
	}
}

func TestStatisticOfAllPaths(t *testing.T) {
	for _, w := range allPaths() {
		for _, name := range statisticNames() {
			if got, want := impl.StatisticOf(name, w), statisticByHand(name, w); got != want {
				t.Fatalf("StatisticOf(%q, %q) = %d, want %d", name, w, got, want)
			}
		}
	}
}

func TestStatisticsOfTheEmptyPath(t *testing.T) {
	for _, name := range statisticNames() {
		// The tree of the empty path has one vertex, without children.
		want := 0
		if name == "leaves" {
			want = 1
		}
		if got := impl.StatisticOf(name, ""); got != want {
			t.Errorf("StatisticOf(%q, \"\") = %d", name, got)
		}
		one := make([]int, want+1)
		one[want] = 1
		if d, ok := impl.DistributionOf(name, 0); !ok || !slices.Equal(d, one) {
			t.Errorf("DistributionOf(%q, 0) = %v, %v", name, d, ok)
		}
	}
	if table, ok := impl.JointTable("peaks", "leaves", 0); !ok || !sameRows(table, [][]int{{0, 1}, {0, 0}}) {
		t.Errorf("peaks and leaves: %v, %v", table, ok)
	}
	if table, ok := impl.JointTable("rise", "returns", 0); !ok || !sameRows(table, [][]int{{1}}) {
		t.Errorf("rise and returns: %v, %v", table, ok)
	}
}

func TestPeaksLeavesAndBlocksAgree(t *testing.T) {
	for _, w := range allPaths()[1:] {
		peaks := impl.StatisticOf("peaks", w)
		if leaves, blocks := impl.StatisticOf("leaves", w), impl.StatisticOf("blocks", w); leaves != peaks || blocks != peaks {
			t.Fatalf("%q has %d peaks, %d leaves and %d blocks", w, peaks, leaves, blocks)
		}
	}
	for n := 1; n <= 6; n++ {
		for _, name := range []string{"peaks", "leaves", "blocks"} {
			d, _ := impl.DistributionOf(name, n)
			for k := range n + 1 {
				if len(d) != n+1 || d[k] != impl.NarayanaNumber(n, k) {
					t.Errorf("DistributionOf(%q, %d) = %v", name, n, d)
					break
				}
			}
		}
	}
}

func TestRisesAndReturnsAreDistributedAlikeAndSymmetrically(t *testing.T) {
	for n := range 7 {
		for _, pair := range [][2]string{{"rise", "returns"}, {"returns", "rise"}, {"rise", "fall"}, {"fall", "rise"}, {"fall", "returns"}} {
			if !impl.AreEquidistributed(pair[0], pair[1], n) {
				t.Errorf("%v are not distributed alike in size %d", pair, n)
			}
			if !impl.IsJointlySymmetric(pair[0], pair[1], n) {
				t.Errorf("%v are not distributed symmetrically in size %d", pair, n)
			}
		}
		// After k letters u and one d, a word goes on freely from the height k - 1.
		d, ok := impl.DistributionOf("rise", n)
		for k := 1; k <= n; k++ {
			if !ok || len(d) != n+1 || d[k] != countWords(n-k, n-1, k-1) {
				t.Fatalf("DistributionOf(\"rise\", %d) = %v, %v", n, d, ok)
			}
		}
	}
}

func TestDistributionOfAllNames(t *testing.T) {
	for n, paths := range pathsBySize(6) {
		for name, values := range statisticsByHand(paths) {
			want := distributionByHand(values)
			got, ok := impl.DistributionOf(name, n)
			if !ok || !slices.Equal(got, want) {
				t.Fatalf("DistributionOf(%q, %d) = %v, %v, want %v", name, n, got, ok, want)
			}
			scribble(got)
			if again, _ := impl.DistributionOf(name, n); !slices.Equal(again, want) {
				t.Fatalf("the result of one call is in the next one: %v", again)
			}
		}
	}
}

func TestPairsOfStatistics(t *testing.T) {
	for n, paths := range pathsBySize(6) {
		values := statisticsByHand(paths)
		for a, first := range values {
			for b, second := range values {
				alike := slices.Equal(distributionByHand(first), distributionByHand(second))
				if got := impl.AreEquidistributed(a, b, n); got != alike {
					t.Fatalf("AreEquidistributed(%q, %q, %d) = %v", a, b, n, got)
				}
				want := jointByHand(first, second)
				if got := impl.IsJointlySymmetric(a, b, n); got != isSymmetricByHand(want) {
					t.Fatalf("IsJointlySymmetric(%q, %q, %d) = %v: %v", a, b, n, got, want)
				}
				got, ok := impl.JointTable(a, b, n)
				if !ok || !sameRows(got, want) {
					t.Fatalf("JointTable(%q, %q, %d) = %v, %v, want %v", a, b, n, got, ok, want)
				}
				apart(t, got)
			}
		}
	}
}

func TestStatisticsRefuse(t *testing.T) {
	for _, w := range noPaths() {
		for _, name := range statisticNames() {
			if got := impl.StatisticOf(name, w); got != -1 {
				t.Errorf("StatisticOf(%q, %q) = %d", name, w, got)
			}
		}
	}
	refuse := func(a string, b string, n int) {
		t.Helper()
		short := a[:min(len(a), 20)] + " and " + b[:min(len(b), 20)]
		if impl.AreEquidistributed(a, b, n) || impl.IsJointlySymmetric(a, b, n) {
			t.Errorf("%s are distributed alike or symmetrically in size %d", short, n)
		}
		if table, ok := impl.JointTable(a, b, n); len(table) != 0 || ok {
			t.Errorf("the table of %s in size %d is %v, %v", short, n, table, ok)
		}
	}
	for _, name := range noStatistics() {
		for _, w := range []string{"", "ud", "uududd", "x"} {
			if got := impl.StatisticOf(name, w); got != -1 {
				t.Errorf("StatisticOf(%.20q, %q) = %d", name, w, got)
			}
		}
		for n := -1; n <= 7; n++ {
			if d, ok := impl.DistributionOf(name, n); len(d) != 0 || ok {
				t.Errorf("DistributionOf(%.20q, %d) = %v, %v", name, n, d, ok)
			}
			refuse(name, name, n)
			refuse(name, "peaks", n)
			refuse("peaks", name, n)
		}
	}
	for _, n := range append(farNumbers(), -2, -1, 7, 8, 9) {
		for _, name := range statisticNames() {
			if d, ok := impl.DistributionOf(name, n); len(d) != 0 || ok {
				t.Errorf("DistributionOf(%q, %d) = %v, %v", name, n, d, ok)
			}
			refuse(name, name, n)
			refuse(name, "returns", n)
		}
	}
}
