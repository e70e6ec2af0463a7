package tests

import (
	"math"
	"math/big"
	"testing"

	"loop.example/g00640/impl"
)

const greatestLength = 1000000

func pt(x int, y int) impl.Pt { return impl.Pt{X: x, Y: y} }

// badNumbers are not coordinates of valid points.
func badNumbers() []int {
	return []int{
		-impl.MaxAt - 1, impl.MaxAt + 1, -2 * impl.MaxAt, 2 * impl.MaxAt,
		math.MinInt32, math.MaxInt32, 1 << 32, -1 << 32, 1 << 62, -1 << 62,
		math.MinInt, math.MinInt + 1, math.MaxInt - 1, math.MaxInt,
	}
}

// badPoints are not valid in X, in Y or in both.
func badPoints() []impl.Pt {
	points := []impl.Pt{pt(math.MinInt, math.MaxInt), pt(math.MaxInt, math.MaxInt), pt(math.MinInt, math.MinInt)}
	for _, n := range badNumbers() {
		points = append(points, pt(n, 0), pt(0, n), pt(n, 7), pt(-7, n), pt(n, n), pt(n, impl.MaxAt), pt(-impl.MaxAt, n))
	}
	return points
}

// cornerPoints are the points whose coordinates are at the limits, next to them or 0.
func cornerPoints() []impl.Pt {
	numbers := []int{-impl.MaxAt, -impl.MaxAt + 1, 0, impl.MaxAt - 1, impl.MaxAt}
	var points []impl.Pt
	for _, x := range numbers {
		for _, y := range numbers {
			points = append(points, pt(x, y))
		}
	}
	return points
}

// gridPoints are all points whose coordinates are in -r..r.
func gridPoints(r int) []impl.Pt {
	var points []impl.Pt
	for x := -r; x <= r; x++ {
		for y := -r; y <= r; y++ {
			points = append(points, pt(x, y))
		}
	}
	return points
}

// spreadPoints are valid points at irregular places.
func spreadPoints(count int, salt int) []impl.Pt {
	points := make([]impl.Pt, count)
	for i := range points {
		seed := (i+1)*7919 + salt*104729
		points[i] = pt(seed*seed%20001-10000, seed*(seed%1009)*31%20001-10000)
	}
	return points
}

func eachTriple(points []impl.Pt, visit func(a, b, p impl.Pt)) {
	for _, a := range points {
		for _, b := range points {
			for _, p := range points {
				visit(a, b, p)
			}
		}
	}
}

// visitSegments visits small segments in every direction, segments at the limits and irregular ones.
func visitSegments(visit func(a, b, p impl.Pt)) {
	eachTriple(gridPoints(2), visit)
	eachTriple(cornerPoints(), visit)
	eachTriple(spreadPoints(25, 1), visit)
	shift := pt(-5000, 3000)
	for _, d := range gridPoints(6) {
		for _, e := range gridPoints(7) {
			visit(shift, pt(shift.X+d.X, shift.Y+d.Y), pt(shift.X+e.X, shift.Y+e.Y))
		}
	}
}

// shareOf is the exact share of the segment from a to b that lies before the foot of p. The points a and b differ.
func shareOf(a, b, p impl.Pt) *big.Rat {
	dx, dy := int64(b.X-a.X), int64(b.Y-a.Y)
	ex, ey := int64(p.X-a.X), int64(p.Y-a.Y)
	share := big.NewRat(dx*ex+dy*ey, dx*dx+dy*dy)
	if share.Sign() < 0 {
		return big.NewRat(0, 1)
	}
	if share.Cmp(big.NewRat(1, 1)) > 0 {
		return big.NewRat(1, 1)
	}
	return share
}

// floorOf rounds down: Div of a positive denominator leaves a rest that is not negative.
func floorOf(r *big.Rat) int {
	return int(new(big.Int).Div(r.Num(), r.Denom()).Int64())
}

func floorTimes(share *big.Rat, n int) int {
	return floorOf(new(big.Rat).Mul(share, big.NewRat(int64(n), 1)))
}

func TestMaxAt(t *testing.T) {
	if impl.MaxAt != 10000 {
		t.Errorf("MaxAt is %d", impl.MaxAt)
	}
}

func TestPtOk(t *testing.T) {
	good := append(cornerPoints(), gridPoints(3)...)
	good = append(good, spreadPoints(50, 2)...)
	for _, p := range good {
		if !impl.PtOk(p) {
			t.Errorf("PtOk(%v) is false", p)
		}
	}
	for _, p := range badPoints() {
		if impl.PtOk(p) {
			t.Errorf("PtOk(%v) is true", p)
		}
	}
}

func TestDist2Examples(t *testing.T) {
	cases := []struct {
		a, b        impl.Pt
		dist2, dist int
	}{
		{pt(0, 0), pt(0, 0), 0, 0},
		{pt(0, 0), pt(3, 4), 25, 5},
		{pt(3, 4), pt(0, 0), 25, 5},
		{pt(-1, -2), pt(2, -6), 25, 5},
		{pt(1, 1), pt(2, 2), 2, 1},
		{pt(0, 0), pt(2, 2), 8, 2},
		{pt(0, 0), pt(0, -9), 81, 9},
		{pt(5, 5), pt(5, 5), 0, 0},
		{pt(-10000, -10000), pt(10000, 10000), 800000000, 28284},
		{pt(10000, -10000), pt(-10000, 10000), 800000000, 28284},
		{pt(-10000, 0), pt(10000, 0), 400000000, 20000},
		{pt(0, 10000), pt(0, -10000), 400000000, 20000},
		{pt(-10000, 3), pt(-10000, 4), 1, 1},
	}
	for _, c := range cases {
		if got := impl.Dist2(c.a, c.b); got != c.dist2 {
			t.Errorf("Dist2(%v, %v) is %d, not %d", c.a, c.b, got, c.dist2)
		}
		if got := impl.DistOf(c.a, c.b); got != c.dist {
			t.Errorf("DistOf(%v, %v) is %d, not %d", c.a, c.b, got, c.dist)
		}
	}
}

func TestDist2OfValidPoints(t *testing.T) {
	points := append(cornerPoints(), spreadPoints(60, 3)...)
	points = append(points, gridPoints(3)...)
	for _, a := range points {
		for _, b := range points {
			dx, dy := a.X-b.X, a.Y-b.Y
			want := dx*dx + dy*dy
			if got := impl.Dist2(a, b); got != want {
				t.Fatalf("Dist2(%v, %v) is %d, not %d", a, b, got, want)
			}
			if r := impl.DistOf(a, b); r != impl.Root(want) || r*r > want || (r+1)*(r+1) <= want {
				t.Fatalf("DistOf(%v, %v) is %d", a, b, r)
			}
		}
	}
}

func TestDist2OfInvalidPoints(t *testing.T) {
	good := append(cornerPoints(), pt(1, 2), pt(-300, 4000))
	for _, bad := range badPoints() {
		for _, p := range append(good, bad) {
			if got := impl.Dist2(bad, p); got != 0 {
				t.Errorf("Dist2(%v, %v) is %d, not 0", bad, p, got)
			}
			if got := impl.Dist2(p, bad); got != 0 {
				t.Errorf("Dist2(%v, %v) is %d, not 0", p, bad, got)
			}
			if got := impl.DistOf(bad, p); got != 0 {
				t.Errorf("DistOf(%v, %v) is %d, not 0", bad, p, got)
			}
			if got := impl.DistOf(p, bad); got != 0 {
				t.Errorf("DistOf(%v, %v) is %d, not 0", p, bad, got)
			}
		}
	}
}

func TestFootExamples(t *testing.T) {
	cases := []struct{ a, b, p, want impl.Pt }{
		{pt(0, 0), pt(10, 0), pt(4, 7), pt(4, 0)},
		{pt(0, 0), pt(10, 0), pt(4, -7), pt(4, 0)},
		{pt(0, 0), pt(10, 0), pt(0, 7), pt(0, 0)},
		{pt(0, 0), pt(10, 0), pt(10, 7), pt(10, 0)},
		{pt(0, 0), pt(10, 0), pt(-1, 3), pt(0, 0)},
		{pt(0, 0), pt(10, 0), pt(11, 3), pt(10, 0)},
		{pt(10, 0), pt(0, 0), pt(4, 7), pt(4, 0)},
		{pt(0, 0), pt(0, 10), pt(7, 4), pt(0, 4)},
		{pt(0, 10), pt(0, 0), pt(7, 4), pt(0, 4)},
		{pt(-3, -3), pt(3, 3), pt(2, -2), pt(0, 0)},
		// The exact foot is (0.5, 0.5), on the way back (-0.5, -0.5) from the start.
		{pt(0, 0), pt(1, 1), pt(1, 0), pt(0, 0)},
		{pt(1, 1), pt(0, 0), pt(1, 0), pt(0, 0)},
		{pt(0, 0), pt(-1, -1), pt(-1, 0), pt(-1, -1)},
		{pt(0, 0), pt(1, -1), pt(1, 0), pt(0, -1)},
		{pt(0, 0), pt(-1, 1), pt(-1, 0), pt(-1, 0)},
		{pt(-7, -7), pt(-10, -8), pt(-8, -9), pt(-9, -8)},
		{pt(-10000, -10000), pt(10000, 10000), pt(10000, -10000), pt(0, 0)},
		{pt(10000, 10000), pt(-10000, -10000), pt(10000, -9999), pt(0, 0)},
		{pt(10000, 10000), pt(-10000, -10000), pt(9999, -10000), pt(-1, -1)},
		{pt(-10000, 10000), pt(10000, 10000), pt(10000, -10000), pt(10000, 10000)},
		{pt(-10000, 10000), pt(10000, 10000), pt(-10000, -10000), pt(-10000, 10000)},
	}
	for _, c := range cases {
		if got := impl.Foot(c.a, c.b, c.p); got != c.want {
			t.Errorf("Foot(%v, %v, %v) is %v, not %v", c.a, c.b, c.p, got, c.want)
		}
	}
}

func TestFootRoundsDown(t *testing.T) {
	visitSegments(func(a, b, p impl.Pt) {
		want := a
		if a != b {
			share := shareOf(a, b, p)
			want = pt(a.X+floorTimes(share, b.X-a.X), a.Y+floorTimes(share, b.Y-a.Y))
		}
		if got := impl.Foot(a, b, p); got != want {
			t.Fatalf("Foot(%v, %v, %v) is %v, not %v", a, b, p, got, want)
		}
	})
}

// nearerEnd is the squared distance of p from the nearer one of a and b.
func nearerEnd(a, b, p impl.Pt) int { return min(impl.Dist2(p, a), impl.Dist2(p, b)) }

// Rounding moves the foot by less than 1 in each coordinate, so by less than the root of 2.
func TestNoEndIsNearerThanTheFoot(t *testing.T) {
	visitSegments(func(a, b, p impl.Pt) {
		foot := impl.Foot(a, b, p)
		if !impl.PtOk(foot) {
			t.Fatalf("Foot(%v, %v, %v) is %v, which is not valid", a, b, p, foot)
		}
		near := math.Sqrt(float64(nearerEnd(a, b, p)))
		if far := math.Sqrt(float64(impl.Dist2(p, foot))); far > near+math.Sqrt2 {
			t.Fatalf("Foot(%v, %v, %v) is %v: an end is nearer", a, b, p, foot)
		}
	})
}

// On level and upright segments the coordinates of the foot are whole, and nothing is rounded.
func TestNoEndIsNearerThanAWholeFoot(t *testing.T) {
	visitSegments(func(a, b, p impl.Pt) {
		if a.X != b.X && a.Y != b.Y {
			return
		}
		foot := impl.Foot(a, b, p)
		if impl.Dist2(p, foot) > nearerEnd(a, b, p) {
			t.Fatalf("Foot(%v, %v, %v) is %v: an end is nearer", a, b, p, foot)
		}
	})
}

func TestFootOfItsOwnSegment(t *testing.T) {
	points := append(cornerPoints(), spreadPoints(40, 4)...)
	for _, a := range points {
		for _, b := range points {
			if got := impl.Foot(a, b, a); got != a {
				t.Fatalf("Foot(%v, %v, %v) is %v", a, b, a, got)
			}
			if got := impl.Foot(a, b, b); got != b {
				t.Fatalf("Foot(%v, %v, %v) is %v", a, b, b, got)
			}
		}
	}
}

func TestFootOnAPoint(t *testing.T) {
	points := append(cornerPoints(), gridPoints(1)...)
	for _, a := range points {
		for _, p := range points {
			if got := impl.Foot(a, a, p); got != a {
				t.Errorf("Foot(%v, %v, %v) is %v, not %v", a, a, p, got, a)
			}
			for _, length := range []int{0, 1, 5, greatestLength} {
				if got := impl.Along(a, a, p, length); got != 0 {
					t.Errorf("Along(%v, %v, %v, %d) is %d, not 0", a, a, p, length, got)
				}
			}
		}
	}
}

// visitInvalid visits points of which the first, the second or the third is not valid, or several of them.
func visitInvalid(visit func(a, b, p impl.Pt)) {
	good := []impl.Pt{pt(3, 4), pt(-20, 50), pt(600, -7), pt(10000, 10000), pt(-10000, -10000)}
	for _, bad := range badPoints() {
		for i, g := range good {
			h := good[(i+1)%len(good)]
			visit(bad, g, h)
			visit(g, bad, h)
			visit(g, h, bad)
			visit(g, g, bad)
			visit(bad, bad, g)
			visit(bad, g, bad)
			visit(g, bad, bad)
		}
		visit(bad, bad, bad)
	}
}

func TestFootAndAlongOfInvalidPoints(t *testing.T) {
	visitInvalid(func(a, b, p impl.Pt) {
		if got := impl.Foot(a, b, p); got != (impl.Pt{}) {
			t.Errorf("Foot(%v, %v, %v) is %v, not the zero value", a, b, p, got)
		}
		for _, length := range []int{0, 100, greatestLength, -1, math.MaxInt} {
			if got := impl.Along(a, b, p, length); got != 0 {
				t.Errorf("Along(%v, %v, %v, %d) is %d, not 0", a, b, p, length, got)
			}
		}
	})
}

func TestAlongExamples(t *testing.T) {
	a, b := pt(0, 0), pt(10, 0)
	cases := []struct {
		a, b, p      impl.Pt
		length, want int
	}{
		{a, b, pt(4, 7), 100, 40},
		{b, a, pt(4, 7), 100, 60},
		{a, b, pt(4, 7), 0, 0},
		{a, b, pt(4, 7), 1, 0},
		{a, b, pt(4, 7), 2, 0},
		{a, b, pt(4, 7), 3, 1},
		{a, b, pt(9, -7), 1, 0},
		{a, b, pt(10, -7), 1, 1},
		{a, b, pt(-1, 3), 100, 0},
		{a, b, pt(0, 3), 100, 0},
		{a, b, pt(11, 3), 100, 100},
		{a, b, pt(10, 3), 100, 100},
		{a, b, pt(4, 7), greatestLength, 400000},
		{a, b, pt(50, 7), greatestLength, greatestLength},
		{a, b, pt(4, 7), greatestLength + 1, 0},
		{a, b, pt(50, 7), greatestLength + 1, 0},
		{a, b, pt(4, 7), -1, 0},
		{a, b, pt(50, 7), -1, 0},
		{a, b, pt(4, 7), -100, 0},
		{a, b, pt(50, 7), math.MaxInt, 0},
		{a, b, pt(50, 7), math.MinInt, 0},
		{a, b, pt(4, 7), 1 << 62, 0},
		{pt(0, 0), pt(-3, -3), pt(-1, -1), 10, 3},
		{pt(0, 0), pt(-3, -3), pt(-2, -2), 10, 6},
		{pt(-10000, -10000), pt(10000, 10000), pt(9999, 10000), greatestLength, 999975},
		{pt(10000, -10000), pt(-10000, 10000), pt(-10000, 10000), greatestLength, greatestLength},
	}
	for _, c := range cases {
		if got := impl.Along(c.a, c.b, c.p, c.length); got != c.want {
			t.Errorf("Along(%v, %v, %v, %d) is %d, not %d", c.a, c.b, c.p, c.length, got, c.want)
		}
	}
}

func TestAlongRoundsDown(t *testing.T) {
	visitSegments(func(a, b, p impl.Pt) {
		if a == b {
			return
		}
		share := shareOf(a, b, p)
		for _, length := range []int{0, 1, 7, 10000, greatestLength} {
			want := floorTimes(share, length)
			if got := impl.Along(a, b, p, length); got != want {
				t.Fatalf("Along(%v, %v, %v, %d) is %d, not %d", a, b, p, length, got, want)
			}
		}
		for _, length := range []int{-1, greatestLength + 1, math.MinInt, math.MaxInt} {
			if got := impl.Along(a, b, p, length); got != 0 {
				t.Fatalf("Along(%v, %v, %v, %d) is %d, not 0", a, b, p, length, got)
			}
		}
	})
}
