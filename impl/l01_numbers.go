package impl

import "strconv"

const MaxCost = 1000000000000

// topRootBit is the highest bit that the root of a number of 64 bits can have.
const topRootBit = 1 << 31

const (
	negative = iota - 1
	neutral
	positive
)

func Root(n int) int {
	root := 0
	for bit := topRootBit; bit > 0; bit >>= 1 {
		next := root + bit
		// A division cannot overflow, as the square of next could.
		if next <= n/next {
			root = next
		}
	}
	return root
}

func FloorDiv(a int, b int) int {
	if b == 0 {
		return 0
	}
	quotient := a / b
	// Go rounds towards zero, and the remainder has the sign of a: if it differs from that of b, the exact quotient is negative and not whole.
	if signOf(a%b)*signOf(b) == negative {
		quotient--
	}
	return quotient
}

func Sat(a int, b int) int {
	// Limited first, the two cannot overflow when they are added.
	return smallest(limited(a)+limited(b), MaxCost)
}

func NumText(n int) string { return strconv.Itoa(n) }

func NumRead(s string) (int, bool) {
	n, err := strconv.Atoi(s)
	// Atoi also takes a plus sign, leading zeros and -0, which NumText never writes.
	if err != nil || n < -MaxCost || n > MaxCost || NumText(n) != s {
		return 0, false
	}
	return n, true
}

func Least(list []int) int { return smallest(list...) }

func signOf(n int) int {
	switch {
	case n < 0:
		return negative
	case n > 0:
		return positive
	}
	return neutral
}

func limited(n int) int { return smallest(max(n, 0), MaxCost) }

func smallest(list ...int) int {
	if len(list) == 0 {
		return 0
	}
	least := list[0]
	for _, n := range list[1:] {
		if n < least {
			least = n
		}
	}
	return least
}
