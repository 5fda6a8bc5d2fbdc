package tests

import (
	"math/big"
	"slices"
	"testing"

	"loop.example/g03401/impl"
)

// noncrossings picks the partitions of n elements without crossings.
func noncrossings(n int) [][]int {
	var all [][]int
	for _, p := range partitions(n) {
		if !crossesByHand(p) {
			all = append(all, p)
		}
	}
	return all
}

// finerByHand looks at all pairs of elements.
func finerByHand(p []int, q []int) bool {
	for i := range p {
		for j := range i {
			if p[i] == p[j] && q[i] != q[j] {
				return false
			}
		}
	}
	return len(p) == len(q)
}

func blocksByHand(p []int) int {
	return len(slices.Compact(slices.Sorted(slices.Values(p))))
}

// finestByHand returns the only one of a list that is finer than or equal to all others; false if there is none.
func finestByHand(list [][]int) ([]int, bool) {
	for _, p := range list {
		if !slices.ContainsFunc(list, func(q []int) bool { return !finerByHand(p, q) }) {
			return p, true
		}
	}
	return nil, false
}

// coarserByHand returns those of a list that all given partitions are finer than or equal to.
func coarserByHand(list [][]int, given ...[]int) [][]int {
	var bounds [][]int
	for _, r := range list {
		if !slices.ContainsFunc(given, func(p []int) bool { return !finerByHand(p, r) }) {
			bounds = append(bounds, r)
		}
	}
	return bounds
}

// interleaved returns the blocks of p and those of q, where each element of q stands behind that of p.
func interleaved(p []int, q []int) []int {
	var l []int
	for i := range p {
		l = append(l, p[i], len(p)+q[i])
	}
	return l
}

func TestComplementOfAllPartitions(t *testing.T) {
	for n := range impl.MaxSize + 1 {
		found := map[string]bool{}
		for _, p := range noncrossings(n) {
			given, check := guarded(t, p)
			q, ok := impl.Complement(given)
			check()
			if !ok || len(q) != n || !isPartitionByHand(q) {
				t.Fatalf("Complement(%v) = %v, %v", p, q, ok)
			}
			// Both together do not cross, and no coarser one would do: their blocks are one more than the elements.
			if crossesByHand(interleaved(p, q)) || n > 0 && blocksByHand(p)+blocksByHand(q) != n+1 {
				t.Fatalf("Complement(%v) = %v", p, q)
			}
			if n > 0 {
				points, _ := impl.MatchingOfPartition(p)
				turned, _ := impl.TurnMatching(points, 1)
				if again, _ := impl.MatchingOfPartition(q); !slices.Equal(again, turned) {
					t.Fatalf("the matching of the complement %v of %v is %v, not %v", q, p, again, turned)
				}
			}
			found[impl.FormatPartition(q)] = true
			scribble(q)
		}
		if len(found) != impl.CatalanNumber(n) {
			t.Errorf("%d complements of %d elements", len(found), n)
		}
	}
}

func TestComplementIsTheCoarsestPartitionBeside(t *testing.T) {
	for n := range 6 {
		for _, p := range noncrossings(n) {
			q, _ := impl.Complement(p)
			for _, r := range noncrossings(n) {
				if got := !crossesByHand(interleaved(p, r)); got != finerByHand(r, q) {
					t.Fatalf("%v beside %v, whose complement is %v: %v", r, p, q, got)
				}
			}
		}
	}
}

func TestComplementTwiceIsATurnBack(t *testing.T) {
	for n := range impl.MaxSize + 1 {
		for _, p := range noncrossings(n) {
			once, _ := impl.Complement(p)
			twice, ok := impl.Complement(once)
			if !ok || len(twice) != n {
				t.Fatalf("Complement(%v) = %v, %v", once, twice, ok)
			}
			for i := range n {
				for j := range n {
					// What a turn back carries to i has been behind it.
					if (twice[i] == twice[j]) != (p[(i+1)%n] == p[(j+1)%n]) {
						t.Fatalf("the complement of %v is %v, and that of this %v", p, once, twice)
					}
				}
			}
			if again, ok := impl.TurnPartition(twice); !ok || !slices.Equal(again, p) {
				t.Fatalf("%v turned is %v, %v, want %v", twice, again, ok, p)
			}
		}
	}
}

func TestComplementReversesTheOrder(t *testing.T) {
	for n := range 6 {
		for _, p := range noncrossings(n) {
			for _, q := range noncrossings(n) {
				first, _ := impl.Complement(p)
				second, _ := impl.Complement(q)
				if impl.IsFiner(p, q) != impl.IsFiner(second, first) {
					t.Fatalf("%v and %v have the complements %v and %v", p, q, first, second)
				}
			}
		}
	}
}

func TestIsFinerAndMeetOfAllPartitions(t *testing.T) {
	for n := range 6 {
		all := partitions(n)
		for _, p := range all {
			for _, q := range all {
				if got, want := impl.IsFiner(p, q), finerByHand(p, q); got != want {
					t.Fatalf("IsFiner(%v, %v) = %v", p, q, got)
				}
				meet, ok := impl.FinerMeet(p, q)
				if !ok || len(meet) != n || !isPartitionByHand(meet) {
					t.Fatalf("FinerMeet(%v, %v) = %v, %v", p, q, meet, ok)
				}
				for i := range n {
					for j := range n {
						if (meet[i] == meet[j]) != (p[i] == p[j] && q[i] == q[j]) {
							t.Fatalf("FinerMeet(%v, %v) = %v", p, q, meet)
						}
					}
				}
				if crossesByHand(meet) && !crossesByHand(p) && !crossesByHand(q) {
					t.Fatalf("FinerMeet(%v, %v) = %v, which crosses", p, q, meet)
				}
				scribble(meet)
			}
		}
	}
	for n := 6; n <= 8; n++ {
		all := partitions(n)
		for i, p := range all {
			q := all[(i*i+5*i+1)%len(all)]
			meet, ok := impl.FinerMeet(p, q)
			if !ok || !finerByHand(meet, p) || !finerByHand(meet, q) || !impl.IsFiner(meet, p) || impl.IsFiner(p, q) != finerByHand(p, q) {
				t.Fatalf("FinerMeet(%v, %v) = %v, %v", p, q, meet, ok)
			}
		}
	}
}

func TestCoarserJoinIsTheFinestBound(t *testing.T) {
	for n := range 6 {
		all := noncrossings(n)
		for _, p := range all {
			for _, q := range all {
				want, _ := finestByHand(coarserByHand(all, p, q))
				if got, ok := impl.CoarserJoin(p, q); !ok || !slices.Equal(got, want) {
					t.Fatalf("CoarserJoin(%v, %v) = %v, %v, want %v", p, q, got, ok, want)
				}
			}
		}
	}
}

func TestComplementsCarryJoinsToMeets(t *testing.T) {
	for n := range impl.MaxSize + 1 {
		all := noncrossings(n)
		for i, p := range all {
			for step := range 4 {
				q := all[(i*i+(2*step+3)*i+step)%len(all)]
				join, ok := impl.CoarserJoin(p, q)
				if !ok || !finerByHand(p, join) || !finerByHand(q, join) || crossesByHand(join) {
					t.Fatalf("CoarserJoin(%v, %v) = %v, %v", p, q, join, ok)
				}
				first, _ := impl.Complement(p)
				second, _ := impl.Complement(q)
				meet, _ := impl.FinerMeet(first, second)
				if got, _ := impl.Complement(join); !slices.Equal(got, meet) {
					t.Fatalf("the complement of the join %v of %v and %v is %v, want %v", join, p, q, got, meet)
				}
				if again, _ := impl.CoarserJoin(q, p); !slices.Equal(again, join) {
					t.Fatalf("CoarserJoin(%v, %v) = %v, want %v", q, p, again, join)
				}
				scribble(join)
			}
		}
	}
}

func TestNoncrossingClosureOfAllPartitions(t *testing.T) {
	for n := range 7 {
		all := noncrossings(n)
		for _, p := range partitions(n) {
			want, _ := finestByHand(coarserByHand(all, p))
			if got, ok := impl.NoncrossingClosure(p); !ok || !slices.Equal(got, want) {
				t.Fatalf("NoncrossingClosure(%v) = %v, %v, want %v", p, got, ok, want)
			}
		}
	}
	for _, p := range slices.Concat(partitions(7), partitions(8)) {
		// Each block by itself does not cross.
		want := make([]int, len(p))
		for i := range want {
			want[i] = i
		}
		for block := range blocksByHand(p) {
			single := make([]int, len(p))
			for i := range single {
				single[i] = i
				if p[i] == block {
					single[i] = slices.Index(p, block)
				}
			}
			want, _ = impl.CoarserJoin(want, renumberedByHand(single))
		}
		given, check := guarded(t, p)
		got, ok := impl.NoncrossingClosure(given)
		if !ok || !slices.Equal(got, want) || slices.Equal(got, p) == crossesByHand(p) {
			t.Fatalf("NoncrossingClosure(%v) = %v, %v, want %v", p, got, ok, want)
		}
		scribble(got)
		check()
	}
}

func TestRankOfPartition(t *testing.T) {
	for _, p := range allPartitions() {
		if got, want := impl.RankOfPartition(p), len(p)-blocksByHand(p); got != want {
			t.Fatalf("RankOfPartition(%v) = %d, want %d", p, got, want)
		}
	}
	for n := 1; n <= impl.MaxSize; n++ {
		for _, p := range noncrossings(n) {
			q, _ := impl.Complement(p)
			if impl.RankOfPartition(p)+impl.RankOfPartition(q) != n-1 {
				t.Fatalf("the ranks of %v and its complement %v", p, q)
			}
		}
	}
}

func TestMoebiusOfAllIntervals(t *testing.T) {
	// By the number of elements, from the finest partition to the coarsest one.
	whole := []int{1, 1, -1, 2, -5, 14}
	for n, want := range whole {
		all := noncrossings(n)
		for _, p := range all {
			for _, q := range all {
				got, ok := impl.MoebiusOf(p, q)
				if !ok || got != 0 && !finerByHand(p, q) {
					t.Fatalf("MoebiusOf(%v, %v) = %d, %v", p, q, got, ok)
				}
				// The numbers of each interval add up to 0, or to 1 for one partition.
				sum := 0
				for _, r := range all {
					if finerByHand(p, r) && finerByHand(r, q) {
						number, _ := impl.MoebiusOf(p, r)
						sum += number
					}
				}
				if one := slices.Equal(p, q); one && sum != 1 || !one && sum != 0 {
					t.Fatalf("the numbers from %v to %v add up to %d", p, q, sum)
				}
			}
		}
		finest, coarsest := partitions(n)[len(partitions(n))-1], make([]int, n)
		if got, ok := impl.MoebiusOf(finest, coarsest); got != want || !ok {
			t.Errorf("MoebiusOf(%v, %v) = %d, %v, want %d", finest, coarsest, got, ok, want)
		}
	}
}

// chainsByHand counts the lists of k more partitions that go on from one.
func chainsByHand(all [][]int, p []int, k int) int {
	if k == 0 {
		return 1
	}
	count := 0
	for _, q := range all {
		if finerByHand(p, q) {
			count += chainsByHand(all, q, k-1)
		}
	}
	return count
}

func TestCountChains(t *testing.T) {
	for n := -1; n <= 6; n++ {
		for k := -1; k <= 7; k++ {
			want := -1
			if 0 <= n && n <= 4 && 1 <= k && k <= 5 {
				all := noncrossings(n)
				want = 0
				for _, p := range all {
					want += chainsByHand(all, p, k-1)
				}
				// The formula of Kreweras.
				if formula := new(big.Int).Binomial(int64(n*(k+1)), int64(max(n-1, 0))); n > 0 && want*n != int(formula.Int64()) {
					t.Errorf("%d chains of %d partitions of %d elements", want, k, n)
				}
			}
			if got := impl.CountChains(n, k); got != want {
				t.Errorf("CountChains(%d, %d) = %d, want %d", n, k, got, want)
			}
		}
	}
	for _, far := range farNumbers() {
		if impl.CountChains(far, 1) != -1 || impl.CountChains(1, far) != -1 || impl.CountChains(far, far) != -1 {
			t.Errorf("chains of %d: %d, %d, %d", far, impl.CountChains(far, 1), impl.CountChains(1, far), impl.CountChains(far, far))
		}
	}
}

func TestPartitionsWithoutElements(t *testing.T) {
	for _, p := range [][]int{nil, {}} {
		for _, q := range [][]int{nil, {}} {
			if !impl.IsFiner(p, q) {
				t.Error("no elements are not finer than none")
			}
			if meet, ok := impl.FinerMeet(p, q); len(meet) != 0 || !ok {
				t.Errorf("meet %v, %v", meet, ok)
			}
			if join, ok := impl.CoarserJoin(p, q); len(join) != 0 || !ok {
				t.Errorf("join %v, %v", join, ok)
			}
			if number, ok := impl.MoebiusOf(p, q); number != 1 || !ok {
				t.Errorf("number of Moebius %d, %v", number, ok)
			}
		}
		if q, ok := impl.Complement(p); len(q) != 0 || !ok {
			t.Errorf("complement %v, %v", q, ok)
		}
		if q, ok := impl.NoncrossingClosure(p); len(q) != 0 || !ok {
			t.Errorf("closure %v, %v", q, ok)
		}
		if rank := impl.RankOfPartition(p); rank != 0 {
			t.Errorf("rank %d", rank)
		}
	}
	for k := 1; k <= 5; k++ {
		if count := impl.CountChains(0, k); count != 1 {
			t.Errorf("CountChains(0, %d) = %d", k, count)
		}
	}
}

// refusePair checks that all functions of two partitions without crossings refuse, and those of two partitions too unless both are some.
func refusePair(t *testing.T, p []int, q []int, both bool) {
	t.Helper()
	names := [][]int{p[:min(len(p), 10)], q[:min(len(q), 10)]}
	if join, ok := impl.CoarserJoin(p, q); len(join) != 0 || ok {
		t.Errorf("the join of %v is %v, %v", names, join, ok)
	}
	if number, ok := impl.MoebiusOf(p, q); number != 0 || ok {
		t.Errorf("the number of Moebius of %v is %d, %v", names, number, ok)
	}
	if both {
		return
	}
	if impl.IsFiner(p, q) {
		t.Errorf("the first one of %v is finer", names)
	}
	if meet, ok := impl.FinerMeet(p, q); len(meet) != 0 || ok {
		t.Errorf("the meet of %v is %v, %v", names, meet, ok)
	}
}

func TestKrewerasRefuses(t *testing.T) {
	for _, p := range noPartitions() {
		refusePair(t, p, p, false)
		for n := range 9 {
			refusePair(t, p, make([]int, n), false)
			refusePair(t, make([]int, n), p, false)
		}
		if q, ok := impl.Complement(p); len(q) != 0 || ok {
			t.Errorf("Complement(%v) = %v, %v", p[:min(len(p), 10)], q, ok)
		}
		if q, ok := impl.NoncrossingClosure(p); len(q) != 0 || ok {
			t.Errorf("NoncrossingClosure(%v) = %v, %v", p[:min(len(p), 10)], q, ok)
		}
		if rank := impl.RankOfPartition(p); rank != -1 {
			t.Errorf("RankOfPartition(%v) = %d", p[:min(len(p), 10)], rank)
		}
	}
	for m := range 9 {
		for n := range 9 {
			if m != n {
				refusePair(t, make([]int, m), make([]int, n), false)
				refusePair(t, partitions(m)[0], slices.Clone([]int{0, 1, 2, 3, 4, 5, 6, 7}[:n]), false)
			}
		}
	}
	for n := 6; n <= 8; n++ {
		finest, coarsest := []int{0, 1, 2, 3, 4, 5, 6, 7}[:n], make([]int, n)
		if number, ok := impl.MoebiusOf(finest, coarsest); number != 0 || ok {
			t.Errorf("MoebiusOf(%v, %v) = %d, %v", finest, coarsest, number, ok)
		}
		if number, ok := impl.MoebiusOf(coarsest, coarsest); number != 0 || ok {
			t.Errorf("MoebiusOf(%v, %v) = %d, %v", coarsest, coarsest, number, ok)
		}
	}
}

func TestKrewerasRefusesCrossings(t *testing.T) {
	crossing := 0
	for _, p := range allPartitions() {
		if !crossesByHand(p) {
			continue
		}
		crossing++
		if q, ok := impl.Complement(p); len(q) != 0 || ok {
			t.Fatalf("Complement(%v) = %v, %v", p, q, ok)
		}
		refusePair(t, p, p, true)
		refusePair(t, p, make([]int, len(p)), true)
		refusePair(t, make([]int, len(p)), p, true)
	}
	if crossing == 0 {
		t.Error("no partition crosses")
	}
}

func TestPairsOfPartitionsAreNotChanged(t *testing.T) {
	lists := slices.Concat(partitions(4), noPartitions()[:9])
	for i, p := range lists {
		for _, q := range lists[i%3:] {
			first, checkFirst := guarded(t, p)
			second, checkSecond := guarded(t, q)
			impl.IsFiner(first, second)
			meet, _ := impl.FinerMeet(first, second)
			scribble(meet)
			join, _ := impl.CoarserJoin(first, second)
			scribble(join)
			impl.MoebiusOf(first, second)
			impl.RankOfPartition(first)
			closure, _ := impl.NoncrossingClosure(first)
			scribble(closure)
			complement, _ := impl.Complement(first)
			scribble(complement)
			checkFirst()
			checkSecond()
		}
		if join, ok := impl.CoarserJoin(p, p); ok {
			given, check := guarded(t, p)
			join, _ = impl.CoarserJoin(given, given)
			scribble(join)
			check()
		}
	}
}
