package tests

import (
	"math"
	"math/big"
	"math/bits"
	"slices"
	"strconv"
	"strings"
	"testing"

	"loop.example/g03401/impl"
)

// isPolynomialByHand reports whether there are at most 61 coefficients up to a limit, and none too many.
func isPolynomialByHand(p []int, limit int) bool {
	for i, c := range p {
		if c > limit || c < -limit || i == len(p)-1 && c == 0 {
			return false
		}
	}
	return len(p) <= 61
}

// bigOnes are polynomials whose coefficients are of any size. They may end with zeros.
type bigOnes []*big.Int

func bigOnesOf(p []int) bigOnes {
	var out bigOnes
	for _, c := range p {
		out = append(out, big.NewInt(int64(c)))
	}
	return out
}

// reduced returns the coefficients without zeros at the end; false if one is not from -1000000000 to 1000000000.
func (p bigOnes) reduced() ([]int, bool) {
	for len(p) > 0 && p[len(p)-1].Sign() == 0 {
		p = p[:len(p)-1]
	}
	var out []int
	for _, c := range p {
		if !c.IsInt64() || c.Int64() > 1000000000 || c.Int64() < -1000000000 {
			return nil, false
		}
		out = append(out, int(c.Int64()))
	}
	return out, true
}

func sumByHand(a []int, b []int) ([]int, bool) {
	if !isPolynomialByHand(a, 1000000000) || !isPolynomialByHand(b, 1000000000) {
		return nil, false
	}
	sum := bigOnesOf(make([]int, max(len(a), len(b))))
	for _, p := range [][]int{a, b} {
		for i, c := range bigOnesOf(p) {
			sum[i].Add(sum[i], c)
		}
	}
	return sum.reduced()
}

func productByHand(a []int, b []int) ([]int, bool) {
	if !isPolynomialByHand(a, 100000) || !isPolynomialByHand(b, 100000) || len(a)+len(b) > 62 {
		return nil, false
	}
	product := bigOnesOf(make([]int, len(a)+len(b)))
	for i, x := range bigOnesOf(a) {
		for j, y := range bigOnesOf(b) {
			product[i+j].Add(product[i+j], new(big.Int).Mul(x, y))
		}
	}
	return product.reduced()
}

// divisionByHand takes multiples of b away from a with numbers of any size, and looks at all of them in the end.
func divisionByHand(a []int, b []int) ([]int, []int, bool) {
	if !isPolynomialByHand(a, 100000) || !isPolynomialByHand(b, 1) || len(b) == 0 || len(b) > 13 || b[len(b)-1] != 1 {
		return nil, nil, false
	}
	rest := bigOnesOf(a)
	quotient := bigOnesOf(make([]int, len(a)))
	for top := len(a) - 1; top >= len(b)-1; top-- {
		factor := new(big.Int).Set(rest[top])
		at := top - len(b) + 1
		quotient[at].Set(factor)
		for i, c := range bigOnesOf(b) {
			rest[at+i].Sub(rest[at+i], new(big.Int).Mul(factor, c))
		}
	}
	q, qOk := quotient.reduced()
	r, rOk := rest.reduced()
	if !qOk || !rOk {
		return nil, nil, false
	}
	return q, r, true
}

func valueByHand(p []int, x int) int {
	value, power := new(big.Int), big.NewInt(1)
	for _, c := range bigOnesOf(p) {
		value.Add(value, new(big.Int).Mul(c, power))
		power.Mul(power, big.NewInt(int64(x)))
	}
	return int(value.Int64())
}

// mixed returns n coefficients from -limit to limit that follow a rule without a plan; the last one is not 0.
func mixed(seed int, n int, limit int) []int {
	p := make([]int, n)
	for i := range p {
		seed = (seed*1103515245 + 12345) % (1 << 31)
		p[i] = seed/8%(2*limit+1) - limit
	}
	if n > 0 && p[n-1] == 0 {
		p[n-1] = 1
	}
	return p
}

// manyPolynomials returns short lists, valid ones and others, and long ones at the edges.
func manyPolynomials() [][]int {
	l := append(listsOf(-2, 2, 3), noPolynomials()...)
	for i, n := range []int{1, 2, 4, 7, 12, 13, 14, 30, 31, 32, 49, 60, 61, 62} {
		ones := slices.Repeat([]int{1}, n)
		l = append(l, ones, mixed(i, n, 1), mixed(i+100, n, 9), mixed(i+200, n, 100000), slices.Repeat([]int{100000}, n), slices.Repeat([]int{1000000000}, n), slices.Repeat([]int{-1000000000}, n))
		high := make([]int, n)
		high[n-1] = 1
		low := slices.Repeat([]int{-1}, n)
		low[n-1] = 1
		l = append(l, high, low)
	}
	return append(l, []int{100001}, []int{-100001}, []int{1, 100001, 1}, []int{1, -100001, 1}, []int{1000000000}, []int{-1000000000, 1}, []int{500000000, 1}, []int{500000001, 1}, []int{31623, 1}, []int{31622, 1}, []int{32000, -32000, 1})
}

// noPolynomials returns lists that are no polynomials.
func noPolynomials() [][]int {
	return [][]int{
		{0}, {0, 0}, {1, 0}, {1, 2, 0}, {1000000001}, {-1000000001}, {1, 1000000001, 1}, {-1000000001, 1}, {1, -1000000001}, {math.MaxInt}, {math.MinInt}, {math.MinInt, 1}, {1, math.MaxInt, 1}, {1 << 32}, {1<<32 + 1, 1},
		slices.Repeat([]int{1}, 62), slices.Repeat([]int{1}, 100000), make([]int, 61), make([]int, 100000),
	}
}

func TestMaxDegree(t *testing.T) {
	if impl.MaxDegree != 60 {
		t.Error(impl.MaxDegree)
	}
}

func TestIsPolynomial(t *testing.T) {
	for _, p := range manyPolynomials() {
		if got, want := impl.IsPolynomial(p), isPolynomialByHand(p, 1000000000); got != want {
			t.Errorf("IsPolynomial(%v) = %v", p, got)
		}
	}
	for _, p := range noPolynomials() {
		if impl.IsPolynomial(p) {
			t.Errorf("IsPolynomial of %d coefficients, %v ...", len(p), p[:min(len(p), 5)])
		}
	}
}

func TestSumsAndProducts(t *testing.T) {
	all := manyPolynomials()
	for i, a := range all {
		// Each short list meets a part of the others; the long ones meet all.
		for j, b := range all {
			if len(a) <= 3 && len(b) <= 3 && (i+j)%3 != 0 {
				continue
			}
			want, valid := sumByHand(a, b)
			if got, ok := impl.AddPolynomials(a, b); ok != valid || !slices.Equal(got, want) {
				t.Fatalf("AddPolynomials(%v, %v) = %v, %v, want %v", a, b, got, ok, want)
			}
			want, valid = productByHand(a, b)
			if got, ok := impl.MultiplyPolynomials(a, b); ok != valid || !slices.Equal(got, want) {
				t.Fatalf("MultiplyPolynomials(%v, %v) = %v, %v, want %v", a, b, got, ok, want)
			}
		}
	}
}

func TestSumsAndProductsAtTheLimits(t *testing.T) {
	for _, x := range []int{999999999, 1000000000} {
		got, ok := impl.AddPolynomials([]int{x, 1}, []int{1, 1})
		if ok != (x == 999999999) || ok && !slices.Equal(got, []int{1000000000, 2}) {
			t.Errorf("%d and 1: %v, %v", x, got, ok)
		}
	}
	if got, ok := impl.MultiplyPolynomials([]int{100000}, []int{10000}); !ok || !slices.Equal(got, []int{1000000000}) {
		t.Errorf("100000 times 10000: %v, %v", got, ok)
	}
	for _, b := range [][]int{{10001}, {100001}, {-100001}} {
		if got, ok := impl.MultiplyPolynomials([]int{100000}, b); len(got) != 0 || ok {
			t.Errorf("100000 times %v: %v, %v", b, got, ok)
		}
	}
	for _, n := range []int{1, 2, 30, 31, 32, 60, 61} {
		a, b := slices.Repeat([]int{1}, n), slices.Repeat([]int{1}, 62-n)
		if got, ok := impl.MultiplyPolynomials(a, b); !ok || len(got) != 61 {
			t.Errorf("%d and %d coefficients: %v, %v", n, 62-n, got, ok)
		}
		if got, ok := impl.MultiplyPolynomials(a, append(b, 1)); len(got) != 0 || ok {
			t.Errorf("%d and %d coefficients: %v, %v", n, 63-n, got, ok)
		}
	}
}

func TestDividePolynomials(t *testing.T) {
	all := manyPolynomials()
	divisors := slices.Concat(listsOf(-1, 1, 5), all)
	for i, a := range all {
		for j, b := range divisors {
			if len(a) <= 3 && (i+j)%5 != 0 {
				continue
			}
			wantQ, wantR, valid := divisionByHand(a, b)
			q, r, ok := impl.DividePolynomials(a, b)
			if ok != valid || !slices.Equal(q, wantQ) || !slices.Equal(r, wantR) {
				t.Fatalf("DividePolynomials(%v, %v) = %v, %v, %v, want %v, %v", a, b, q, r, ok, wantQ, wantR)
			}
			if len(b) > 0 && len(r) >= len(b) {
				t.Fatalf("DividePolynomials(%v, %v) leaves %v", a, b, r)
			}
			scribble(r)
			if !slices.Equal(q, wantQ) {
				t.Fatalf("the quotient %v shares memory with the remainder", wantQ)
			}
			scribble(q)
		}
	}
}

// A divisor with 1 at the end and else -1 makes the coefficients of the quotient grow.
func TestDivisionThatGrows(t *testing.T) {
	quotients, remainders, succeeded := 0, 0, 0
	for terms := 2; terms <= 13; terms++ {
		b := slices.Repeat([]int{-1}, terms)
		b[terms-1] = 1
		for degree := range 61 {
			for _, first := range []int{1, -1, 7, 100000} {
				a := make([]int, degree+1)
				a[degree] = first
				wantQ, wantR, valid := divisionByHand(a, b)
				q, r, ok := impl.DividePolynomials(a, b)
				if ok != valid || !slices.Equal(q, wantQ) || !slices.Equal(r, wantR) {
					t.Fatalf("DividePolynomials(%v, %v) = %v, %v, %v, want %v, %v", a, b, q, r, ok, wantQ, wantR)
				}
				// What one power less does not refuse is refused for its remainder, whose first number comes next in the quotient.
				_, _, before := divisionByHand(a[1:], b)
				switch {
				case valid:
					succeeded++
				case before:
					remainders++
				default:
					quotients++
				}
			}
		}
	}
	if quotients == 0 || remainders == 0 || succeeded == 0 {
		t.Errorf("%d quotients and %d remainders too great, %d divisions", quotients, remainders, succeeded)
	}
}

// Here a coefficient of the quotient is too great, though the last ones and the remainder are not.
func TestQuotientThatIsTooGreatForAWhile(t *testing.T) {
	for seed, b := range map[int][]int{549: {1, 1, 0, -1, -1, 1, 1, 1}, 294: {-1, -1, -1, -1, 0, -1, 0, 1, 1, 1}, 137: {0, 1, 1, 1, 1, 0, 0, 1, 1, 1}} {
		a := mixed(seed, 61, 100000)
		rest := slices.Clone(a)
		greatest := 0
		for top := 60; top >= len(b)-1; top-- {
			factor := rest[top]
			greatest = max(greatest, factor, -factor)
			for i, c := range b {
				rest[top-len(b)+1+i] -= factor * c
			}
		}
		if last := max(slices.Max(rest), -slices.Min(rest)); greatest <= 1000000000 || last > 1000000000 {
			t.Fatalf("up to %d in the quotient and %d in the remainder", greatest, last)
		}
		if q, r, ok := impl.DividePolynomials(a, b); len(q) != 0 || len(r) != 0 || ok {
			t.Errorf("DividePolynomials(%v, %v) = %v, %v, %v", a, b, q, r, ok)
		}
	}
}

func TestProductsAreDivided(t *testing.T) {
	for seed := range 50 {
		for terms := 1; terms <= 13; terms++ {
			b := mixed(seed, terms, 1)
			b[terms-1] = 1
			q := mixed(seed+1000, 1+seed%20, 40)
			r := mixed(seed+2000, terms-1, 40)
			a, _ := impl.MultiplyPolynomials(q, b)
			a, ok := impl.AddPolynomials(a, r)
			gotQ, gotR, divided := impl.DividePolynomials(a, b)
			if !ok || !divided || !slices.Equal(gotQ, q) || !slices.Equal(gotR, r) {
				t.Fatalf("DividePolynomials(%v, %v) = %v, %v, %v, want %v, %v", a, b, gotQ, gotR, divided, q, r)
			}
		}
	}
}

func TestValueAt(t *testing.T) {
	for _, p := range manyPolynomials() {
		for _, x := range append(farNumbers(), -4, -3, -2, -1, 0, 1, 2, 3, 4) {
			valid := isPolynomialByHand(p, 1000000000)
			switch {
			case len(p) > 30:
				valid = valid && -1 <= x && x <= 1
			case len(p) > 1:
				valid = valid && -2 <= x && x <= 2
			}
			want := 0
			if valid {
				want = valueByHand(p, x)
			}
			if got, ok := impl.ValueAt(p, x); got != want || ok != valid {
				t.Fatalf("ValueAt(%v, %d) = %d, %v, want %d, %v", p, x, got, ok, want, valid)
			}
		}
	}
}

func TestNumberPolynomial(t *testing.T) {
	for n := range 21 {
		p, ok := impl.NumberPolynomial(n)
		if !ok || len(p) != n || strings.Count(impl.FormatPolynomial(p), "1") != n || !impl.IsPolynomial(p) {
			t.Errorf("NumberPolynomial(%d) = %v, %v", n, p, ok)
		}
		if value, _ := impl.ValueAt(p, 1); value != n {
			t.Errorf("NumberPolynomial(%d) is %d at 1", n, value)
		}
		scribble(p)
	}
	for _, n := range append(farNumbers(), -2, -1, 21, 22, 61) {
		if p, ok := impl.NumberPolynomial(n); len(p) != 0 || ok {
			t.Errorf("NumberPolynomial(%d) = %v, %v", n, p, ok)
		}
	}
}

// gaussianByHand counts the words of n bits with k ones by the number of pairs of a one and a zero behind it.
func gaussianByHand(n int, k int) []int {
	counts := make([]int, k*(n-k)+1)
	for word := range 1 << n {
		if bits.OnesCount(uint(word)) != k {
			continue
		}
		pairs := 0
		for i := range n {
			if word>>i&1 == 0 {
				pairs += bits.OnesCount(uint(word & (1<<i - 1)))
			}
		}
		counts[pairs]++
	}
	return counts
}

func TestBinomialPolynomial(t *testing.T) {
	for n := -2; n <= 17; n++ {
		for k := -2; k <= 17; k++ {
			got, ok := impl.BinomialPolynomial(n, k)
			if n < 0 || n > 14 || k < 0 || k > n {
				if len(got) != 0 || ok {
					t.Errorf("BinomialPolynomial(%d, %d) = %v, %v", n, k, got, ok)
				}
				continue
			}
			want := gaussianByHand(n, k)
			if !ok || !slices.Equal(got, want) {
				t.Fatalf("BinomialPolynomial(%d, %d) = %v, %v, want %v", n, k, got, ok, want)
			}
			if value, _ := impl.ValueAt(got, 1); value != choose(n, k) {
				t.Errorf("BinomialPolynomial(%d, %d) is %d at 1", n, k, value)
			}
			scribble(got)
			if again, _ := impl.BinomialPolynomial(n, k); !slices.Equal(again, want) {
				t.Errorf("the result of one call is in the next one: %v", again)
			}
		}
	}
	for _, far := range farNumbers() {
		for _, pair := range [][2]int{{far, 0}, {far, 1}, {far, far}, {5, far}, {14, far}} {
			if got, ok := impl.BinomialPolynomial(pair[0], pair[1]); len(got) != 0 || ok {
				t.Errorf("BinomialPolynomial(%v) = %v, %v", pair, got, ok)
			}
		}
	}
}

// countBy counts the paths of a size by a statistic.
func countBy(name string, paths []string) []int {
	var counts []int
	for _, w := range paths {
		value := statisticByHand(name, w)
		for value >= len(counts) {
			counts = append(counts, 0)
		}
		counts[value]++
	}
	return counts
}

func TestPolynomialsCountByTheMajorIndexAndByTheArea(t *testing.T) {
	for n, paths := range pathsBySize(8) {
		want := countBy("area", paths)
		if got, ok := impl.AreaPolynomial(n); !ok || !slices.Equal(got, want) {
			t.Errorf("AreaPolynomial(%d) = %v, %v, want %v", n, got, ok, want)
		}
		if d, ok := impl.DistributionOf("area", n); ok != (n <= 6) || ok && !slices.Equal(d, want) {
			t.Errorf("DistributionOf(\"area\", %d) = %v, %v", n, d, ok)
		}
		got, ok := impl.CatalanPolynomial(n)
		if n > 7 {
			if len(got) != 0 || ok {
				t.Errorf("CatalanPolynomial(%d) = %v, %v", n, got, ok)
			}
			continue
		}
		if want := countBy("major", paths); !ok || !slices.Equal(got, want) {
			t.Errorf("CatalanPolynomial(%d) = %v, %v, want %v", n, got, ok, want)
		}
		if d, ok := impl.DistributionOf("major", n); ok != (n <= 6) || ok && !slices.Equal(d, got) {
			t.Errorf("DistributionOf(\"major\", %d) = %v, %v", n, d, ok)
		}
		scribble(got)
	}
	for _, n := range append(farNumbers(), -2, -1, 9, 10, math.MinInt/2, 1<<62) {
		if p, ok := impl.AreaPolynomial(n); len(p) != 0 || ok {
			t.Errorf("AreaPolynomial(%d) = %v, %v", n, p, ok)
		}
		if p, ok := impl.CatalanPolynomial(n); len(p) != 0 || ok {
			t.Errorf("CatalanPolynomial(%d) = %v, %v", n, p, ok)
		}
	}
}

func TestCatalanPolynomialTimesOnes(t *testing.T) {
	for n := range 8 {
		p, _ := impl.CatalanPolynomial(n)
		ones, _ := impl.NumberPolynomial(n + 1)
		product, ok := impl.MultiplyPolynomials(p, ones)
		if want, _ := impl.BinomialPolynomial(2*n, n); !ok || !slices.Equal(product, want) {
			t.Errorf("the Catalan polynomial of %d times %d ones is %v, %v, want %v", n, n+1, product, ok, want)
		}
		if value, _ := impl.ValueAt(p, 1); value != impl.CatalanNumber(n) {
			t.Errorf("the Catalan polynomial of %d is %d at 1", n, value)
		}
	}
}

func TestFormatPolynomial(t *testing.T) {
	for _, p := range manyPolynomials() {
		words := []string{}
		for _, c := range p {
			words = append(words, strconv.Itoa(c))
		}
		want := strings.Join(words, ",")
		if len(p) == 0 || !isPolynomialByHand(p, 1000000000) {
			want = "0"
		}
		if got := impl.FormatPolynomial(p); got != want {
			t.Errorf("FormatPolynomial(%v) = %q, want %q", p, got, want)
		}
	}
}

func TestPolynomialZero(t *testing.T) {
	long := slices.Repeat([]int{3}, 61)
	for _, zero := range [][]int{nil, {}} {
		if !impl.IsPolynomial(zero) || impl.IsPolynomial([]int{0}) || impl.FormatPolynomial(zero) != "0" {
			t.Errorf("0 is no polynomial, or is %q", impl.FormatPolynomial(zero))
		}
		for _, p := range [][]int{zero, {5}, {0, -1}, long} {
			if sum, ok := impl.AddPolynomials(zero, p); !ok || !slices.Equal(sum, p) {
				t.Errorf("0 plus %v is %v, %v", p, sum, ok)
			}
			if sum, ok := impl.AddPolynomials(p, zero); !ok || !slices.Equal(sum, p) {
				t.Errorf("%v plus 0 is %v, %v", p, sum, ok)
			}
			for _, pair := range [][2][]int{{zero, p}, {p, zero}} {
				if product, ok := impl.MultiplyPolynomials(pair[0], pair[1]); !ok || len(product) != 0 {
					t.Errorf("%v times %v is %v, %v", pair[0], pair[1], product, ok)
				}
			}
			if q, r, ok := impl.DividePolynomials(p, zero); len(q) != 0 || len(r) != 0 || ok {
				t.Errorf("%v divided by 0 is %v, %v, %v", p, q, r, ok)
			}
		}
		for _, b := range [][]int{{1}, {-1, 1}, {1, 1, 1}} {
			if q, r, ok := impl.DividePolynomials(zero, b); len(q) != 0 || len(r) != 0 || !ok {
				t.Errorf("0 divided by %v is %v, %v, %v", b, q, r, ok)
			}
		}
		for _, x := range append(farNumbers(), -3, 0, 3) {
			if value, ok := impl.ValueAt(zero, x); value != 0 || !ok {
				t.Errorf("0 at %d is %d, %v", x, value, ok)
			}
		}
	}
	for _, p := range [][]int{{5}, {1, 2}, {0, 0, 7}} {
		negative := slices.Clone(p)
		for i := range negative {
			negative[i] = -p[i]
		}
		if sum, ok := impl.AddPolynomials(p, negative); !ok || len(sum) != 0 {
			t.Errorf("%v minus itself is %v, %v", p, sum, ok)
		}
	}
}

func TestPolynomialsAreNotChanged(t *testing.T) {
	all := manyPolynomials()
	for i, p := range all {
		a, checkA := guarded(t, p)
		b, checkB := guarded(t, all[(7*i+3)%len(all)])
		divisor, checkDivisor := guarded(t, []int{-1, 1, 1})
		impl.IsPolynomial(a)
		impl.FormatPolynomial(a)
		impl.ValueAt(a, 1)
		sum, _ := impl.AddPolynomials(a, b)
		scribble(sum)
		product, _ := impl.MultiplyPolynomials(a, b)
		scribble(product)
		for _, by := range [][]int{b, divisor, {1}} {
			q, r, _ := impl.DividePolynomials(a, by)
			scribble(q)
			scribble(r)
		}
		checkA()
		checkB()
		checkDivisor()
	}
}
