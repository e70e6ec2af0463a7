package tests

import (
	"math"
	"math/big"
	"slices"
	"strconv"
	"strings"
	"testing"

	"loop.example/g00640/impl"
)

// greatestRoot is the root of the greatest number of 64 bits.
const greatestRoot = 3037000499

func TestMaxCost(t *testing.T) {
	if impl.MaxCost != 1000000000000 {
		t.Errorf("MaxCost is %d", impl.MaxCost)
	}
}

func TestRootOfSmallNumbers(t *testing.T) {
	root := 0
	for n := range 100000 {
		if (root+1)*(root+1) == n {
			root++
		}
		if got := impl.Root(n); got != root {
			t.Fatalf("Root(%d) is %d, not %d", n, got, root)
		}
	}
}

func TestRootOfNegativeNumbers(t *testing.T) {
	for _, n := range []int{-1, -2, -4, -25, -impl.MaxCost, math.MinInt + 1, math.MinInt} {
		if got := impl.Root(n); got != 0 {
			t.Errorf("Root(%d) is %d, not 0", n, got)
		}
	}
}

func TestRootOfSquaresAndNeighbours(t *testing.T) {
	roots := []int{1, 2, 3, 10, 99, 46340, 46341, 1000000, 94906265, 94906266, 94906267, 2147483647, 2147483648, 3000000000, greatestRoot - 1, greatestRoot}
	for bit := 1; bit < greatestRoot; bit *= 2 {
		roots = append(roots, bit, bit+1, 2*bit-1)
	}
	for _, r := range roots {
		if r > greatestRoot {
			continue
		}
		if got := impl.Root(r*r - 1); got != r-1 {
			t.Errorf("Root(%d) is %d, not %d", r*r-1, got, r-1)
		}
		if got := impl.Root(r * r); got != r {
			t.Errorf("Root(%d) is %d, not %d", r*r, got, r)
		}
		if got := impl.Root(r*r + 1); got != r {
			t.Errorf("Root(%d) is %d, not %d", r*r+1, got, r)
		}
	}
}

func TestRootOfTheGreatestNumbers(t *testing.T) {
	square := greatestRoot * greatestRoot
	for _, n := range []int{square, square + 1, math.MaxInt - 1000, math.MaxInt - 1, math.MaxInt} {
		if got := impl.Root(n); got != greatestRoot {
			t.Errorf("Root(%d) is %d, not %d", n, got, greatestRoot)
		}
	}
	if got := impl.Root(square - 1); got != greatestRoot-1 {
		t.Errorf("Root(%d) is %d, not %d", square-1, got, greatestRoot-1)
	}
	for shift := range 63 {
		for _, n := range []int{math.MaxInt >> shift, math.MaxInt>>shift - 1, math.MaxInt - 1<<shift} {
			want := new(big.Int).Sqrt(big.NewInt(int64(n))).Int64()
			if got := impl.Root(n); int64(got) != want {
				t.Errorf("Root(%d) is %d, not %d", n, got, want)
			}
		}
	}
}

// exactFloor works the rounded quotient out with numbers of any size.
func exactFloor(a int, b int) int {
	quotient, rest := new(big.Int).QuoRem(big.NewInt(int64(a)), big.NewInt(int64(b)), new(big.Int))
	if rest.Sign()*big.NewInt(int64(b)).Sign() < 0 {
		quotient.Sub(quotient, big.NewInt(1))
	}
	return int(quotient.Int64())
}

func TestFloorDivExamples(t *testing.T) {
	cases := []struct{ a, b, want int }{
		{7, 2, 3}, {-7, 2, -4}, {7, -2, -4}, {-7, -2, 3},
		{6, 2, 3}, {-6, 2, -3}, {6, -2, -3}, {-6, -2, 3},
		{0, 5, 0}, {0, -5, 0}, {1, 10, 0}, {-1, 10, -1}, {1, -10, -1}, {-1, -10, 0},
		{math.MaxInt, 1, math.MaxInt}, {math.MaxInt, -1, -math.MaxInt},
		{math.MinInt, 1, math.MinInt}, {math.MinInt, 3, -3074457345618258603},
		{math.MinInt, math.MaxInt, -2}, {math.MaxInt, math.MinInt, -1},
		{math.MinInt, math.MinInt, 1}, {-1, math.MaxInt, -1}, {1, math.MinInt, -1}, {-1, math.MinInt, 0},
	}
	for _, c := range cases {
		if got := impl.FloorDiv(c.a, c.b); got != c.want {
			t.Errorf("FloorDiv(%d, %d) is %d, not %d", c.a, c.b, got, c.want)
		}
	}
}

func TestFloorDivRoundsDown(t *testing.T) {
	numbers := []int{math.MinInt, math.MinInt + 1, -impl.MaxCost, impl.MaxCost, math.MaxInt - 1, math.MaxInt}
	for n := -25; n <= 25; n++ {
		numbers = append(numbers, n)
	}
	for _, a := range numbers {
		for _, b := range numbers {
			// The exact quotient of the smallest number and -1 is not a number of 64 bits.
			if b == 0 || a == math.MinInt && b == -1 {
				continue
			}
			if got, want := impl.FloorDiv(a, b), exactFloor(a, b); got != want {
				t.Errorf("FloorDiv(%d, %d) is %d, not %d", a, b, got, want)
			}
		}
	}
}

func TestFloorDivByZero(t *testing.T) {
	for _, a := range []int{math.MinInt, -7, -1, 0, 1, 7, math.MaxInt} {
		if got := impl.FloorDiv(a, 0); got != 0 {
			t.Errorf("FloorDiv(%d, 0) is %d, not 0", a, got)
		}
	}
}

func TestFloorDivReturnsWhereTheQuotientIsTooGreat(t *testing.T) {
	impl.FloorDiv(math.MinInt, -1)
}

func TestSat(t *testing.T) {
	const most = impl.MaxCost
	cases := []struct{ a, b, want int }{
		{0, 0, 0}, {2, 3, 5}, {-5, 3, 3}, {3, -5, 3}, {-5, -3, 0}, {-1, 0, 0}, {0, -1, 0},
		{most, 0, most}, {0, most, most}, {most, 1, most}, {1, most, most}, {most, most, most},
		{most - 1, 0, most - 1}, {most - 1, 1, most}, {most - 1, 2, most}, {1, most - 2, most - 1},
		{most / 2, most / 2, most}, {most / 2, most/2 - 1, most - 1}, {most / 2, most/2 + 1, most},
		{most + 1, 0, most}, {0, most + 1, most}, {most + 1, -1, most}, {-1, most + 1, most}, {most + 1, -most, most}, {-most, most + 7, most},
		{math.MaxInt, math.MaxInt, most}, {math.MaxInt, 1, most}, {math.MaxInt, math.MinInt, most},
		{math.MinInt, math.MaxInt, most}, {math.MinInt, math.MinInt, 0}, {math.MinInt, 8, 8}, {8, math.MinInt, 8}, {math.MinInt, -1, 0},
	}
	for _, c := range cases {
		if got := impl.Sat(c.a, c.b); got != c.want {
			t.Errorf("Sat(%d, %d) is %d, not %d", c.a, c.b, got, c.want)
		}
	}
}

func TestNumText(t *testing.T) {
	cases := []struct {
		n    int
		want string
	}{
		{0, "0"}, {7, "7"}, {-7, "-7"}, {10, "10"}, {-40, "-40"}, {1234567890, "1234567890"},
		{impl.MaxCost, "1000000000000"}, {-impl.MaxCost, "-1000000000000"},
		{impl.MaxCost + 1, "1000000000001"}, {-impl.MaxCost - 1, "-1000000000001"},
		{math.MaxInt, "9223372036854775807"}, {math.MinInt, "-9223372036854775808"},
	}
	for _, c := range cases {
		if got := impl.NumText(c.n); got != c.want {
			t.Errorf("NumText(%d) is %q, not %q", c.n, got, c.want)
		}
	}
}

func TestNumReadRecoversNumbers(t *testing.T) {
	numbers := []int{impl.MaxCost, impl.MaxCost - 1, -impl.MaxCost, -impl.MaxCost + 1}
	for power := 1; power <= impl.MaxCost/10; power *= 10 {
		numbers = append(numbers, power, -power, 10*power-1, 1-10*power, 7*power+3)
	}
	for n := -1100; n <= 1100; n++ {
		numbers = append(numbers, n)
	}
	for _, n := range numbers {
		if got, ok := impl.NumRead(impl.NumText(n)); got != n || !ok {
			t.Errorf("NumRead of the text of %d is %d, %t", n, got, ok)
		}
		if got, ok := impl.NumRead(strconv.Itoa(n)); got != n || !ok {
			t.Errorf("NumRead of %d in decimal is %d, %t", n, got, ok)
		}
	}
}

func TestNumReadRejectsNumbersBeyondMaxCost(t *testing.T) {
	for _, n := range []int{impl.MaxCost + 1, -impl.MaxCost - 1, 10 * impl.MaxCost, -10 * impl.MaxCost, math.MaxInt, math.MinInt} {
		rejects(t, impl.NumText(n))
	}
}

func TestNumReadRejectsOtherTexts(t *testing.T) {
	texts := []string{
		"", "-", "+", "--", "-+1", "--1", "+-1", "1-", "+1", "+0", "-0", "-00",
		"00", "01", "-01", "007", "0000000000001", "01000000000000", "-01000000000000",
		" ", " 1", "1 ", "- 1", "1 2", "1\n", "\n1", "\t1", "1\x00", "\x00", "\x001",
		"a", "1a", "a1", "0x1", "0b1", "0o7", "1e3", "1.0", "1.", ".5", "1_000", "1,000", "NaN",
		"/", ":", "1/", "1:", "\xff", "\u0661", "\uff11", "\u22121",
		"9223372036854775808", "-9223372036854775809",
		"18446744073709551615", "18446744073709551616", "18446744073709551621", "-18446744073709551617",
		strings.Repeat("9", 1000), "-" + strings.Repeat("9", 1000), strings.Repeat("0", 1000) + "1",
	}
	for _, s := range texts {
		rejects(t, s)
	}
}

func rejects(t *testing.T, s string) {
	t.Helper()
	if got, ok := impl.NumRead(s); got != 0 || ok {
		t.Errorf("NumRead(%q) is %d, %t, not 0, false", s, got, ok)
	}
}

func TestLeast(t *testing.T) {
	cases := []struct {
		list []int
		want int
	}{
		{nil, 0}, {[]int{}, 0}, {[]int{5}, 5}, {[]int{-5}, -5}, {[]int{0}, 0},
		{[]int{3, -1, 2}, -1}, {[]int{1, 2, 3}, 1}, {[]int{3, 2, 1}, 1}, {[]int{4, 4, 4}, 4}, {[]int{9, 7, 7, 8}, 7},
		{[]int{math.MaxInt}, math.MaxInt}, {[]int{math.MaxInt, math.MaxInt - 1}, math.MaxInt - 1},
		{[]int{math.MaxInt, math.MinInt, 0}, math.MinInt}, {[]int{impl.MaxCost + 5, impl.MaxCost + 6}, impl.MaxCost + 5},
	}
	for _, c := range cases {
		if got := impl.Least(c.list); got != c.want {
			t.Errorf("Least(%v) is %d, not %d", c.list, got, c.want)
		}
	}
}

func TestLeastKeepsToItsList(t *testing.T) {
	whole := []int{6, 4, 5, -9}
	before := slices.Clone(whole)
	if got := impl.Least(whole[:3]); got != 4 {
		t.Errorf("Least of the first three is %d, not 4", got)
	}
	if got := impl.Least(whole[:0]); got != 0 {
		t.Errorf("Least of none is %d, not 0", got)
	}
	if !slices.Equal(whole, before) {
		t.Errorf("Least changed its argument to %v", whole)
	}
}
