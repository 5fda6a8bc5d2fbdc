package tests

import (
	"math"
	"math/big"
	"slices"
	"testing"

	"loop.example/g03401/impl"
)

// productOfSeries returns as many terms as a has.
func productOfSeries(a []int, b []int) []int {
	product := make([]int, len(a))
	for n := range product {
		sum := new(big.Int)
		for k := range n + 1 {
			sum.Add(sum, new(big.Int).Mul(big.NewInt(int64(a[k])), big.NewInt(int64(b[n-k]))))
		}
		product[n] = int(sum.Int64())
	}
	return product
}

// composedByHand adds up the powers of b, whose first term is 0.
func composedByHand(a []int, b []int) []int {
	sum, power := make([]int, len(a)), make([]int, len(a))
	power[0] = 1
	for _, term := range a {
		for i := range sum {
			sum[i] += term * power[i]
		}
		power = productOfSeries(power, b)
	}
	return sum
}

// determinantByHand adds up the products along all permutations.
func determinantByHand(rows [][]int) int {
	sum := new(big.Int)
	for _, p := range permutations(len(rows)) {
		product := big.NewInt(1)
		for row, column := range p {
			product.Mul(product, big.NewInt(int64(rows[row][column])))
			for _, later := range p[row:] {
				if later < column {
					product.Neg(product)
				}
			}
		}
		sum.Add(sum, product)
	}
	return int(sum.Int64())
}

// manySeries returns short valid series, and long ones at the edges.
func manySeries() [][]int {
	l := listsOf(-2, 2, 4)[1:]
	for n := 1; n <= 12; n++ {
		l = append(l, slices.Repeat([]int{1000000}, n), slices.Repeat([]int{-1000000}, n), slices.Repeat([]int{1}, n), make([]int, n), slices.Repeat([]int{1000000, -1000000}, 6)[:n])
		for seed := range 4 {
			l = append(l, mixed(seed, n, 3), mixed(seed+10, n, 1000), mixed(seed+20, n, 1000000))
		}
	}
	return l
}

// noSeries returns lists that are no valid series.
func noSeries() [][]int {
	l := [][]int{
		nil, {}, make([]int, 13), slices.Repeat([]int{1}, 13), slices.Repeat([]int{1}, 14), make([]int, 1<<16), {0, 1, 1, 0, 0, 0, 0, 0, 0, 0, 0, 0, 0},
		{math.MaxInt}, {math.MinInt}, {1, math.MinInt}, {1, 1 << 32}, {1, 1<<32 + 1, 2},
	}
	for _, wrong := range []int{1000001, -1000001, math.MaxInt, math.MinInt} {
		for n := range 12 {
			for _, place := range []int{0, n / 2, n} {
				a := slices.Repeat([]int{1}, n+1)
				a[place] = wrong
				l = append(l, a)
			}
		}
	}
	catalan, _ := impl.CatalanSeries(12)
	return append(l, append(catalan, 208012))
}

func TestMaxTerms(t *testing.T) {
	if impl.MaxTerms != 12 {
		t.Error(impl.MaxTerms)
	}
}

func TestCatalanSeries(t *testing.T) {
	for n := 1; n <= 12; n++ {
		a, ok := impl.CatalanSeries(n)
		if !ok || len(a) != n {
			t.Fatalf("CatalanSeries(%d) = %v, %v", n, a, ok)
		}
		for i, term := range a {
			if want := choose(2*i, i) / (i + 1); term != want {
				t.Errorf("term %d of CatalanSeries(%d) is %d, want %d", i, n, term, want)
			}
		}
		scribble(a)
	}
	for _, n := range append(farNumbers(), -2, -1, 0, 13, 14, 15, 16) {
		if a, ok := impl.CatalanSeries(n); len(a) != 0 || ok {
			t.Errorf("CatalanSeries(%d) = %v, %v", n, a, ok)
		}
	}
}

func TestCatalanSeriesSatisfiesItsEquation(t *testing.T) {
	for n := 1; n <= 12; n++ {
		a, _ := impl.CatalanSeries(n)
		given, check := guarded(t, a)
		if !impl.SatisfiesCatalan(given) {
			t.Errorf("%v does not satisfy the equation", a)
		}
		check()
		square, ok := impl.MultiplySeries(a, a)
		if !ok || !slices.Equal(append([]int{1}, square...)[:n], a) {
			t.Errorf("the square of %v is %v", a, square)
		}
		for place := range a {
			for _, wrong := range []int{a[place] - 1, a[place] + 1, -a[place], 0, 1000000, 1000001, math.MinInt} {
				near := slices.Clone(a)
				near[place] = wrong
				if got := impl.SatisfiesCatalan(near); got != slices.Equal(near, a) {
					t.Errorf("SatisfiesCatalan(%v) = %v", near, got)
				}
			}
		}
	}
}

func TestSatisfiesCatalanOfOtherSeries(t *testing.T) {
	catalan, _ := impl.CatalanSeries(12)
	for _, a := range append(listsOf(-1, 5, 4)[1:], manySeries()...) {
		if got, want := impl.SatisfiesCatalan(a), slices.Equal(a, catalan[:len(a)]); got != want {
			t.Fatalf("SatisfiesCatalan(%v) = %v", a, got)
		}
	}
	for _, a := range noSeries() {
		if impl.SatisfiesCatalan(a) {
			t.Errorf("SatisfiesCatalan(%v)", a[:min(len(a), 14)])
		}
	}
}

func TestMultiplySeries(t *testing.T) {
	check := func(a []int, b []int) {
		t.Helper()
		first, checkFirst := guarded(t, a)
		second, checkSecond := guarded(t, b)
		got, ok := impl.MultiplySeries(first, second)
		checkFirst()
		checkSecond()
		if len(a) != len(b) {
			if len(got) != 0 || ok {
				t.Fatalf("MultiplySeries(%v, %v) = %v, %v", a, b, got, ok)
			}
			return
		}
		if want := productOfSeries(a, b); !ok || !slices.Equal(got, want) {
			t.Fatalf("MultiplySeries(%v, %v) = %v, %v, want %v", a, b, got, ok, want)
		}
		scribble(got)
		checkFirst()
		checkSecond()
	}
	all := manySeries()
	for i, a := range all {
		check(a, a)
		for step := range 60 {
			check(a, all[(i+step*step+step)%len(all)])
		}
	}
	for _, a := range listsOf(-2, 2, 3)[1:] {
		for _, b := range listsOf(-2, 2, 3)[1:] {
			check(a, b)
		}
	}
}

func TestInverseSeries(t *testing.T) {
	lists := append(listsOf(-2, 2, 4)[1:], manySeries()...)
	for n := 1; n <= 12; n++ {
		for seed := range 8 {
			lists = append(lists, mixed(seed, n, 10), mixed(seed+50, n, 11))
		}
		for _, tail := range []int{10, -10, 11, -11} {
			lists = append(lists, slices.Repeat([]int{tail}, n))
		}
		lists = append(lists, slices.Repeat([]int{10, -10}, 6)[:n])
	}
	for _, l := range lists {
		for _, first := range []int{l[0], 1, -1} {
			a := slices.Clone(l)
			a[0] = first
			given, check := guarded(t, a)
			got, ok := impl.InverseSeries(given)
			check()
			tooFar := slices.ContainsFunc(a, func(term int) bool { return term < -10 || term > 10 })
			if want := !tooFar && (first == 1 || first == -1); ok != want || !ok && len(got) != 0 {
				t.Fatalf("InverseSeries(%v) = %v, %v", a, got, ok)
			}
			if !ok {
				continue
			}
			one := make([]int, len(a))
			one[0] = 1
			if len(got) != len(a) || !slices.Equal(productOfSeries(a, got), one) {
				t.Fatalf("InverseSeries(%v) = %v", a, got)
			}
			scribble(got)
			check()
		}
	}
}

func TestReversionOf(t *testing.T) {
	tails := listsOf(-3, 3, 3)
	for n := range 7 {
		for _, tail := range [][]int{{3}, {-3}, {3, -3}, {-3, 3}, {0, 3}, {0, -3}, {0, 0, 3}, {1}, {-1}, {0}} {
			tails = append(tails, slices.Repeat(tail, 6)[:n])
		}
		for seed := range 20 {
			tails = append(tails, mixed(seed, n, 3))
		}
	}
	for _, tail := range tails {
		a := append([]int{0, 1}, tail...)
		given, check := guarded(t, a)
		b, ok := impl.ReversionOf(given)
		check()
		x := make([]int, len(a))
		x[1] = 1
		if !ok || len(b) != len(a) || !slices.Equal(composedByHand(a, b), x) || !slices.Equal(composedByHand(b, a), x) {
			t.Fatalf("ReversionOf(%v) = %v, %v", a, b, ok)
		}
		scribble(b)
		check()
	}
	for _, a := range listsOf(-1, 2, 4) {
		if _, ok := impl.ReversionOf(a); ok != (len(a) >= 2 && a[0] == 0 && a[1] == 1) {
			t.Errorf("ReversionOf(%v) is %v", a, ok)
		}
	}
}

func TestReversionOfCatalan(t *testing.T) {
	got, ok := impl.ReversionOf([]int{0, 1, -1, 0, 0, 0, 0, 0})
	if want := []int{0, 1, 1, 2, 5, 14, 42, 132}; !ok || !slices.Equal(got, want) {
		t.Errorf("the reversion of x - x^2 is %v, %v", got, ok)
	}
}

func TestReversionRefuses(t *testing.T) {
	lists := [][]int{{0}, {1}, {0, 0}, {0, 2}, {0, -1}, {1, 1}, {-1, 1}, {1, 0}, {0, 1, 4}, {0, 1, -4}, {0, 1, 0, 0, 0, 0, 0, 4}, {0, 1, 0, 0, 0, 0, 0, 0, 0}, {0, 1, 1, 1, 1, 1, 1, 1, 1}, {0, 1, math.MaxInt}, {0, 1, math.MinInt, 1}, {0, 1, 1 << 32}, {1 << 32, 1}, {0, 1<<32 + 1}}
	for _, a := range append(lists, noSeries()...) {
		if b, ok := impl.ReversionOf(a); len(b) != 0 || ok {
			t.Errorf("ReversionOf(%v) = %v, %v", a[:min(len(a), 14)], b, ok)
		}
	}
}

// hankelByHand returns false if a term is missing or too great.
func hankelByHand(a []int, n int, shift int) (int, bool) {
	rows := make([][]int, n)
	for i := range n {
		for k := range n {
			if i+k+shift >= len(a) || max(a[i+k+shift], -a[i+k+shift]) > 1000 {
				return 0, false
			}
			rows[i] = append(rows[i], a[i+k+shift])
		}
	}
	return determinantByHand(rows), true
}

func TestHankelOf(t *testing.T) {
	lists := manySeries()
	for n := 1; n <= 12; n++ {
		lists = append(lists, slices.Repeat([]int{1000}, n), slices.Repeat([]int{-1000, 1000, 1000}, 4)[:n])
		for place := range n {
			for _, term := range []int{1000, -1000, 1001, -1001, 1000000} {
				a := mixed(n, n, 1000)
				a[place] = term
				lists = append(lists, a)
			}
		}
	}
	for _, a := range lists {
		given, check := guarded(t, a)
		for n := range 5 {
			for shift := range 3 {
				want, wantOk := hankelByHand(a, n, shift)
				if got, ok := impl.HankelOf(given, n, shift); got != want || ok != wantOk {
					t.Fatalf("HankelOf(%v, %d, %d) = %d, %v, want %d, %v", a, n, shift, got, ok, want, wantOk)
				}
			}
		}
		check()
		for _, wrong := range append(farNumbers(), -2, -1, 5, 6) {
			if got, ok := impl.HankelOf(given, wrong, 0); got != 0 || ok {
				t.Fatalf("HankelOf(%v, %d, 0) = %d, %v", a, wrong, got, ok)
			}
		}
		for _, wrong := range append(farNumbers(), -2, -1, 3, 4) {
			for _, n := range []int{0, 1, 4} {
				if got, ok := impl.HankelOf(given, n, wrong); got != 0 || ok {
					t.Fatalf("HankelOf(%v, %d, %d) = %d, %v", a, n, wrong, got, ok)
				}
			}
		}
	}
}

func TestHankelDeterminantsOfCatalanAre1(t *testing.T) {
	for terms := 1; terms <= 12; terms++ {
		a, _ := impl.CatalanSeries(terms)
		for n := range 5 {
			for shift := range 3 {
				// With the shift 2 there is one more for each row. The term 1430 is too great.
				last := 2*n - 2 + shift
				want, wantOk := 1, n == 0 || last < min(terms, 8)
				if shift == 2 {
					want = n + 1
				}
				if !wantOk {
					want = 0
				}
				if got, ok := impl.HankelOf(a, n, shift); got != want || ok != wantOk {
					t.Errorf("HankelOf(%v, %d, %d) = %d, %v, want %d, %v", a, n, shift, got, ok, want, wantOk)
				}
			}
		}
	}
}

func TestBinomialTransform(t *testing.T) {
	for _, a := range manySeries() {
		given, check := guarded(t, a)
		got, ok := impl.BinomialTransform(given)
		check()
		if !ok || len(got) != len(a) {
			t.Fatalf("BinomialTransform(%v) = %v, %v", a, got, ok)
		}
		// Each row of sums of neighbours begins with one of the terms.
		row := slices.Clone(a)
		for n, term := range got {
			if row[0] != term {
				t.Fatalf("BinomialTransform(%v) = %v, term %d should be %d", a, got, n, row[0])
			}
			for i := range len(row) - 1 {
				row[i] += row[i+1]
			}
			row = row[:len(row)-1]
		}
		scribble(got)
		check()
	}
}

func TestBinomialTransformOfMotzkin(t *testing.T) {
	// A path of Motzkin is a path at some of its places, so that the numbers of paths become those of Motzkin.
	var a, want []int
	for n := range 12 {
		want = append(want, impl.MotzkinNumber(n))
		if n%2 == 0 {
			a = append(a, impl.CatalanNumber(n/2))
		} else {
			a = append(a, 0)
		}
	}
	if got, ok := impl.BinomialTransform(a); !ok || !slices.Equal(got, want) {
		t.Errorf("BinomialTransform(%v) = %v, %v, want %v", a, got, ok, want)
	}
}

func TestOneTerm(t *testing.T) {
	for _, term := range []int{-1000000, -1001, -1000, -11, -10, -2, -1, 0, 1, 2, 10, 11, 1000, 1001, 1000000} {
		a := []int{term}
		if got, ok := impl.MultiplySeries(a, []int{3}); !ok || !slices.Equal(got, []int{3 * term}) {
			t.Errorf("MultiplySeries(%v, [3]) = %v, %v", a, got, ok)
		}
		if got, ok := impl.InverseSeries(a); ok != (term == 1 || term == -1) || ok && !slices.Equal(got, a) || !ok && len(got) != 0 {
			t.Errorf("InverseSeries(%v) = %v, %v", a, got, ok)
		}
		if got, ok := impl.ReversionOf(a); len(got) != 0 || ok {
			t.Errorf("ReversionOf(%v) = %v, %v", a, got, ok)
		}
		if got, ok := impl.BinomialTransform(a); !ok || !slices.Equal(got, a) {
			t.Errorf("BinomialTransform(%v) = %v, %v", a, got, ok)
		}
		if got := impl.SatisfiesCatalan(a); got != (term == 1) {
			t.Errorf("SatisfiesCatalan(%v) = %v", a, got)
		}
		if got, ok := impl.HankelOf(a, 1, 0); ok != (-1000 <= term && term <= 1000) || ok && got != term || !ok && got != 0 {
			t.Errorf("HankelOf(%v, 1, 0) = %d, %v", a, got, ok)
		}
		for shift := range 3 {
			if got, ok := impl.HankelOf(a, 0, shift); got != 1 || !ok {
				t.Errorf("HankelOf(%v, 0, %d) = %d, %v", a, shift, got, ok)
			}
		}
		for n := 1; n <= 4; n++ {
			if got, ok := impl.HankelOf(a, n, 1); got != 0 || ok {
				t.Errorf("HankelOf(%v, %d, 1) = %d, %v", a, n, got, ok)
			}
		}
	}
	if a, ok := impl.CatalanSeries(1); !ok || !slices.Equal(a, []int{1}) {
		t.Errorf("CatalanSeries(1) = %v, %v", a, ok)
	}
}

func TestSeriesRefuse(t *testing.T) {
	for _, a := range noSeries() {
		name := a[:min(len(a), 14)]
		ones := slices.Repeat([]int{1}, len(a))
		for _, b := range [][]int{a, ones, ones[:min(len(ones), 12)], {1}} {
			if got, ok := impl.MultiplySeries(a, b); len(got) != 0 || ok {
				t.Errorf("MultiplySeries(%v) = %v, %v", name, got, ok)
			}
			if got, ok := impl.MultiplySeries(b, a); len(got) != 0 || ok {
				t.Errorf("MultiplySeries with %v = %v, %v", name, got, ok)
			}
		}
		if got, ok := impl.InverseSeries(a); len(got) != 0 || ok {
			t.Errorf("InverseSeries(%v) = %v, %v", name, got, ok)
		}
		if got, ok := impl.BinomialTransform(a); len(got) != 0 || ok {
			t.Errorf("BinomialTransform(%v) = %v, %v", name, got, ok)
		}
		for n := range 5 {
			for shift := range 3 {
				if got, ok := impl.HankelOf(a, n, shift); got != 0 || ok {
					t.Errorf("HankelOf(%v, %d, %d) = %d, %v", name, n, shift, got, ok)
				}
			}
		}
		given, check := guarded(t, name)
		impl.MultiplySeries(given, given)
		impl.InverseSeries(given)
		impl.ReversionOf(given)
		impl.HankelOf(given, 4, 2)
		impl.BinomialTransform(given)
		impl.SatisfiesCatalan(given)
		check()
	}
}
