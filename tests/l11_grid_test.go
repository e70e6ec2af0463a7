package tests

import (
	"math"
	"math/rand/v2"
	"slices"
	"testing"

	"loop.example/g00640/impl"
)

// What the document says MaxAt, MaxCell and MaxCells are.
const (
	lastAt    = 10000
	lastCell  = 1000
	lastCells = 3000
)

// badSizes are not sizes of cells.
var badSizes = []int{0, -1, -10, lastCell + 1, 1 << 32, math.MinInt, math.MaxInt}

// badRadii include numbers whose squares are 0 or negative in 64 bits.
var badRadii = []int{-1, -2, lastAt + 1, 20001, 1 << 32, -1 << 32, 3037000500, math.MinInt, math.MaxInt}

func cell(x int, y int, arcs ...int) impl.Cell { return impl.Cell{X: x, Y: y, Arcs: arcs} }

func sameCell(a impl.Cell, b impl.Cell) bool {
	return a.X == b.X && a.Y == b.Y && slices.Equal(a.Arcs, b.Arcs)
}

func sameGrid(a []impl.Cell, b []impl.Cell) bool { return slices.EqualFunc(a, b, sameCell) }

// oneArc has a single arc between two places.
func oneArc(a impl.Pt, b impl.Pt) impl.Net { return netOf([]impl.Pt{a, b}, arc(0, 1, 1)) }

// arc2By computes with exact fractions.
func arc2By(n impl.Net, i int, p impl.Pt) int {
	a, b := n.Nodes[n.Arcs[i].From], n.Nodes[n.Arcs[i].To]
	foot := a
	if a != b {
		share := shareOf(a, b, p)
		foot = pt(a.X+floorTimes(share, b.X-a.X), a.Y+floorTimes(share, b.Y-a.Y))
	}
	return (p.X-foot.X)*(p.X-foot.X) + (p.Y-foot.Y)*(p.Y-foot.Y)
}

func nearOnes(n impl.Net, p impl.Pt, r int) []int {
	var list []int
	for i := range n.Arcs {
		if arc2By(n, i, p) <= r*r {
			list = append(list, i)
		}
	}
	return list
}

// cellAt is exact: numbers this small leave quotients that a float64 tells apart from the whole ones.
func cellAt(x int, size int) int { return int(math.Floor(float64(x) / float64(size))) }

// gridBy lists each arc with each of its cells, sorts that and joins what belongs to one cell. It returns nil if the cells of the arcs are too many.
func gridBy(n impl.Net, size int) []impl.Cell {
	var list [][3]int
	for i, a := range n.Arcs {
		u, v := n.Nodes[a.From], n.Nodes[a.To]
		xs := []int{cellAt(u.X, size), cellAt(v.X, size)}
		ys := []int{cellAt(u.Y, size), cellAt(v.Y, size)}
		slices.Sort(xs)
		slices.Sort(ys)
		if len(list)+(xs[1]-xs[0]+1)*(ys[1]-ys[0]+1) > lastCells {
			return nil
		}
		for x := xs[0]; x <= xs[1]; x++ {
			for y := ys[0]; y <= ys[1]; y++ {
				list = append(list, [3]int{x, y, i})
			}
		}
	}
	slices.SortFunc(list, func(a, b [3]int) int { return slices.Compare(a[:], b[:]) })
	var g []impl.Cell
	for i, item := range list {
		if i == 0 || item[0] != list[i-1][0] || item[1] != list[i-1][1] {
			g = append(g, cell(item[0], item[1]))
		}
		g[len(g)-1].Arcs = append(g[len(g)-1].Arcs, item[2])
	}
	return g
}

// reaches reports whether the number of a cell is in the range around a coordinate.
func reaches(number int, at int, r int, size int) bool {
	return cellAt(max(at-r-1, -lastAt), size) <= number && number <= cellAt(min(at+r+1, lastAt), size)
}

// nearInCells returns those of the near arcs that some cell in the range has.
func nearInCells(n impl.Net, g []impl.Cell, size int, p impl.Pt, r int) []int {
	var list []int
	for _, i := range nearOnes(n, p, r) {
		if slices.ContainsFunc(g, func(c impl.Cell) bool {
			return reaches(c.X, p.X, r, size) && reaches(c.Y, p.Y, r, size) && slices.Contains(c.Arcs, i)
		}) {
			list = append(list, i)
		}
	}
	return list
}

// closeNet has its nodes at irregular places at most reach from a middle, and within the limits.
func closeNet(nodes int, arcs int, middle impl.Pt, reach int, salt int) impl.Net {
	n := mixedNet(nodes, arcs, 9, salt)
	n.Nodes = closePoints(nodes, middle, reach, salt)
	return n
}

func closePoints(count int, middle impl.Pt, reach int, salt int) []impl.Pt {
	random := rand.New(rand.NewPCG(uint64(salt), uint64(reach)))
	coordinate := func(at int) int {
		return min(max(at-reach+random.IntN(2*reach+1), -lastAt), lastAt)
	}
	var points []impl.Pt
	for range count {
		points = append(points, pt(coordinate(middle.X), coordinate(middle.Y)))
	}
	return points
}

// roughGrid has cells in any order, some of them more than once, and in them numbers in any order that are not always arcs.
func roughGrid(cells int, middle impl.Pt, reach int, arcs int, salt int) []impl.Cell {
	random := rand.New(rand.NewPCG(uint64(salt), uint64(cells)))
	var g []impl.Cell
	for _, p := range closePoints(cells, middle, reach, salt) {
		c := cell(p.X, p.Y)
		for range random.IntN(5) {
			c.Arcs = append(c.Arcs, random.IntN(arcs+4)-2)
		}
		g = append(g, c)
	}
	return g
}

// middles are places in the middle, at borders of cells and at the limits.
func middles() []impl.Pt {
	return []impl.Pt{pt(0, 0), pt(-5000, 3000), pt(-7, -993), pt(lastAt, lastAt), pt(-lastAt, lastAt), pt(lastAt, -lastAt), pt(-lastAt, -lastAt), pt(0, -lastAt), pt(lastAt, 0)}
}

func sameNear(t *testing.T, n impl.Net, p impl.Pt, r int, want []int) {
	t.Helper()
	if got := impl.Near(n, p, r); !slices.Equal(got, want) {
		t.Fatalf("Near(%v, %v, %d) is %v, not %v", n, p, r, got, want)
	}
}

func sameGridOf(t *testing.T, n impl.Net, size int, want []impl.Cell) {
	t.Helper()
	if got := impl.GridOf(n, size); !sameGrid(got, want) {
		t.Fatalf("GridOf(%v, %d) is %v, not %v", n, size, got, want)
	}
}

func sameNearBy(t *testing.T, n impl.Net, g []impl.Cell, size int, p impl.Pt, r int, want []int) {
	t.Helper()
	if got := impl.NearBy(n, g, size, p, r); !slices.Equal(got, want) {
		t.Fatalf("NearBy(%v, %v, %d, %v, %d) is %v, not %v", n, g, size, p, r, got, want)
	}
}

func TestGridLimits(t *testing.T) {
	if impl.MaxCell != lastCell || impl.MaxCells != lastCells {
		t.Fatalf("MaxCell is %d and MaxCells is %d", impl.MaxCell, impl.MaxCells)
	}
}

func TestArc2Examples(t *testing.T) {
	far := oneArc(pt(-lastAt, -lastAt), pt(lastAt, -lastAt))
	for _, c := range []struct {
		name string
		net  impl.Net
		i    int
		p    impl.Pt
		want int
	}{
		{"the example of the stage", sampleNet(), 0, pt(5, 3), 9},
		{"a diagonal", sampleNet(), 1, pt(5, 3), 2},
		{"the way back", sampleNet(), 2, pt(5, 3), 9},
		{"the last arc", sampleNet(), 5, pt(10, 10), 0},
		{"before the first end", sampleNet(), 0, pt(-3, -4), 25},
		{"beyond the second end", sampleNet(), 0, pt(13, 4), 25},
		{"before the first end of the way back", sampleNet(), 2, pt(13, 4), 25},
		{"on an end", sampleNet(), 3, pt(20, 0), 0},
		{"on the arc", sampleNet(), 3, pt(14, 0), 0},
		{"a foot that is rounded down", oneArc(pt(0, 0), pt(3, 1)), 0, pt(1, 1), 1},
		{"a foot that is rounded down below 0", oneArc(pt(0, 0), pt(-3, -1)), 0, pt(-1, -1), 1},
		{"a point on the line whose foot is rounded down to another one", oneArc(pt(0, 0), pt(3, 2)), 0, pt(2, 1), 1},
		{"the same place at both ends", oneArc(pt(3, 3), pt(3, 3)), 0, pt(6, -1), 25},
		{"the same place at both ends, at the point", oneArc(pt(3, 3), pt(3, 3)), 0, pt(3, 3), 0},
		{"the same place at both ends, at a limit", oneArc(pt(-lastAt, lastAt), pt(-lastAt, lastAt)), 0, pt(lastAt, -lastAt), 800000000},
		{"as far as possible along X and Y", oneArc(pt(lastAt, lastAt), pt(lastAt, lastAt-1)), 0, pt(-lastAt, -lastAt), 400000000 + 19999*19999},
		{"from limit to limit", far, 0, pt(0, lastAt), 400000000},
		{"a length that is not the distance of the ends", netOf([]impl.Pt{pt(0, 0), pt(100, 0)}, arc(0, 1, 1)), 0, pt(50, 2), 4},
	} {
		if got := impl.Arc2(c.net, c.i, c.p); got != c.want {
			t.Errorf("%s: Arc2 is %d, not %d", c.name, got, c.want)
		}
	}
}

func TestArc2OfNetworks(t *testing.T) {
	for salt, n := range goodNets() {
		points := slices.Concat(n.Nodes, spreadPoints(4, salt), cornerPoints()[salt%20:salt%20+3])
		for i := range n.Arcs {
			for _, p := range points {
				if got, want := impl.Arc2(n, i, p), arc2By(n, i, p); got != want {
					t.Fatalf("Arc2(%v, %d, %v) is %d, not %d", n, i, p, got, want)
				}
			}
		}
	}
}

// An arc of all small segments, and points around it.
func TestArc2OfSmallArcs(t *testing.T) {
	for _, a := range gridPoints(2) {
		for _, b := range gridPoints(2) {
			n := oneArc(a, b)
			for _, p := range gridPoints(3) {
				if got, want := impl.Arc2(n, 0, p), arc2By(n, 0, p); got != want {
					t.Fatalf("Arc2(%v, 0, %v) is %d, not %d", n, p, got, want)
				}
			}
		}
	}
}

func TestArc2OfInvalidArguments(t *testing.T) {
	for _, b := range badNets() {
		for i := -1; i <= len(b.net.Arcs); i++ {
			if got := impl.Arc2(b.net, i, pt(9000, -8765)); got != 0 {
				t.Errorf("Arc2 of a network with %s is %d", b.name, got)
			}
		}
	}
	for _, n := range goodNets() {
		for _, i := range outsiders(len(n.Arcs)) {
			if got := impl.Arc2(n, i, pt(9000, -8765)); got != 0 {
				t.Fatalf("Arc2(%v, %d) is %d", n, i, got)
			}
		}
	}
	for _, n := range []impl.Net{sampleNet(), fullNet(), oneArc(pt(3, 3), pt(3, 3))} {
		for _, p := range badPoints() {
			if got := impl.Arc2(n, 0, p); got != 0 {
				t.Fatalf("Arc2 of %v is %d", p, got)
			}
		}
	}
}

func TestNearExamples(t *testing.T) {
	corners := netOf([]impl.Pt{pt(lastAt, lastAt), pt(lastAt, 0), pt(-lastAt, -lastAt)}, arc(0, 1, 5), arc(0, 2, 5), arc(2, 1, 5))
	apart := netOf([]impl.Pt{pt(0, 0), pt(0, 9), pt(50, 0), pt(50, 9)}, arc(0, 1, 5), arc(1, 0, 5), arc(2, 3, 5), arc(3, 2, 5))
	for _, c := range []struct {
		name string
		net  impl.Net
		p    impl.Pt
		r    int
		want []int
	}{
		{"the example of the stage, some at exactly r * r", sampleNet(), pt(5, 3), 3, []int{0, 1, 2}},
		{"a smaller radius", sampleNet(), pt(5, 3), 2, []int{1}},
		{"none near", sampleNet(), pt(5, 3), 1, nil},
		{"radius 0 on two arcs", sampleNet(), pt(5, 0), 0, []int{0, 2}},
		{"radius 0 at a node", sampleNet(), pt(10, 0), 0, []int{0, 2, 3, 4}},
		{"radius 0 on none", sampleNet(), pt(5, 1), 0, nil},
		{"one more than r * r", sampleNet(), pt(-1, -3), 3, nil},
		{"exactly r * r at a node", sampleNet(), pt(-3, -4), 5, []int{0, 1, 2}},
		{"one less than r * r", oneArc(pt(0, 0), pt(-4, 0)), pt(2, 2), 3, []int{0}},
		{"all", sampleNet(), pt(10, 5), 1000, upTo(6)},
		{"the last ones only", apart, pt(48, 4), 3, []int{2, 3}},
		{"the first ones only", apart, pt(2, 4), 3, []int{0, 1}},
		{"the greatest radius", sampleNet(), pt(0, -lastAt), lastAt, []int{0, 1, 2}},
		{"the greatest radius, one farther", sampleNet(), pt(-1, -lastAt), lastAt, nil},
		{"the greatest radius from a corner", corners, pt(lastAt, -lastAt), lastAt, []int{0, 2}},
		{"the greatest radius from another corner", corners, pt(-lastAt, lastAt), lastAt, nil},
		{"an arc at one place", oneArc(pt(3, 3), pt(3, 3)), pt(6, -1), 5, []int{0}},
		{"an arc at one place, farther", oneArc(pt(3, 3), pt(3, 3)), pt(6, -1), 4, nil},
		{"no arcs", netOf([]impl.Pt{pt(0, 0)}), pt(0, 0), 5, nil},
		{"no nodes", impl.Net{}, pt(0, 0), 5, nil},
	} {
		if got := impl.Near(c.net, c.p, c.r); !slices.Equal(got, c.want) {
			t.Errorf("%s: Near is %v, not %v", c.name, got, c.want)
		}
	}
}

func TestNearOfNetworks(t *testing.T) {
	for salt, n := range goodNets() {
		for _, p := range slices.Concat(spreadPoints(2, salt), cornerPoints()[salt%25:salt%25+1], n.Nodes[:min(2, len(n.Nodes))]) {
			for _, r := range []int{0, 1, 50, 1000, 3333, lastAt - 1, lastAt} {
				sameNear(t, n, p, r, nearOnes(n, p, r))
			}
		}
	}
	for salt, middle := range middles() {
		n := closeNet(8, 20, middle, 12, salt)
		for _, p := range closePoints(10, middle, 15, salt) {
			for r := range 16 {
				sameNear(t, n, p, r, nearOnes(n, p, r))
			}
		}
	}
}

func TestNearOfInvalidArguments(t *testing.T) {
	for _, b := range badNets() {
		for _, p := range []impl.Pt{pt(0, 0), pt(5, 5), pt(7, 1)} {
			sameNear(t, b.net, p, lastAt, nil)
		}
	}
	for _, n := range []impl.Net{sampleNet(), fullNet(), oneArc(pt(0, 0), pt(0, 0)), oneArc(pt(lastAt, lastAt), pt(-lastAt, -lastAt))} {
		for _, p := range badPoints() {
			for _, r := range []int{0, 1, lastAt} {
				sameNear(t, n, p, r, nil)
			}
		}
		for _, r := range badRadii {
			for _, p := range n.Nodes {
				sameNear(t, n, p, r, nil)
			}
			sameNear(t, n, pt(5, 5), r, nil)
		}
	}
}

func TestCellOfExamples(t *testing.T) {
	for _, c := range []struct {
		p    impl.Pt
		size int
		want impl.Pt
	}{
		{pt(-1, 25), 10, pt(-1, 2)},
		{pt(0, 0), 10, pt(0, 0)},
		{pt(9, 10), 10, pt(0, 1)},
		{pt(19, 20), 10, pt(1, 2)},
		{pt(-10, -11), 10, pt(-1, -2)},
		{pt(-9, -20), 10, pt(-1, -2)},
		{pt(25, -1), 10, pt(2, -1)},
		{pt(-21, 21), 10, pt(-3, 2)},
		{pt(-7, 7), 1, pt(-7, 7)},
		{pt(lastAt, -lastAt), 1, pt(lastAt, -lastAt)},
		{pt(lastAt, -lastAt), lastCell, pt(10, -10)},
		{pt(9999, -9999), lastCell, pt(9, -10)},
		{pt(-9001, -9000), lastCell, pt(-10, -9)},
		{pt(999, -1000), lastCell, pt(0, -1)},
		{pt(1000, -1001), lastCell, pt(1, -2)},
		{pt(-1, -1), lastCell, pt(-1, -1)},
		{pt(-lastAt, lastAt), 3, pt(-3334, 3333)},
	} {
		if got := impl.CellOf(c.p, c.size); got != c.want {
			t.Errorf("CellOf(%v, %d) is %v, not %v", c.p, c.size, got, c.want)
		}
	}
}

// Every number of a cell is taken by exactly size coordinates, from the border on.
func TestCellsAtBorders(t *testing.T) {
	for _, size := range []int{1, 2, 3, 7, 10, 64, 333, 500, 999, lastCell} {
		for number := -lastAt / size; number < lastAt/size; number++ {
			for _, step := range []int{0, 1, size / 2, size - 1} {
				at := min(number*size+step, number*size+size-1)
				if got := impl.CellOf(pt(at, -17), size); got.X != number {
					t.Fatalf("CellOf of the X %d for the size %d is %v", at, size, got)
				}
				if got := impl.CellOf(pt(5, at), size); got.Y != number {
					t.Fatalf("CellOf of the Y %d for the size %d is %v", at, size, got)
				}
			}
		}
	}
}

func TestCellsOfPoints(t *testing.T) {
	points := slices.Concat(gridPoints(12), cornerPoints(), spreadPoints(100, 3))
	for size := 1; size <= lastCell; size++ {
		for i := size % 7; i < len(points); i += 7 {
			p := points[i]
			if got, want := impl.CellOf(p, size), pt(cellAt(p.X, size), cellAt(p.Y, size)); got != want {
				t.Fatalf("CellOf(%v, %d) is %v, not %v", p, size, got, want)
			}
		}
	}
}

func TestCellOfInvalidArguments(t *testing.T) {
	for _, size := range []int{1, 10, lastCell} {
		for _, p := range badPoints() {
			if got := impl.CellOf(p, size); got != pt(0, 0) {
				t.Errorf("CellOf(%v, %d) is %v", p, size, got)
			}
		}
	}
	for _, size := range badSizes {
		for _, p := range []impl.Pt{pt(-1, 25), pt(7000, -7000), pt(lastAt, lastAt), pt(-lastAt, -lastAt)} {
			if got := impl.CellOf(p, size); got != pt(0, 0) {
				t.Errorf("CellOf(%v, %d) is %v", p, size, got)
			}
		}
	}
}

func TestGridOfExamples(t *testing.T) {
	across := []impl.Cell{cell(-1, -1, 0), cell(-1, 0, 0), cell(0, -1, 0), cell(0, 0, 0)}
	for _, c := range []struct {
		name string
		net  impl.Net
		size int
		want []impl.Cell
	}{
		{"the sample", sampleNet(), 10, []impl.Cell{cell(0, 0, 0, 1, 2), cell(0, 1, 1), cell(1, 0, 0, 1, 2, 3, 4, 5), cell(1, 1, 1, 5), cell(2, 0, 3, 4, 5), cell(2, 1, 5)}},
		{"the sample in one cell", sampleNet(), 21, []impl.Cell{cell(0, 0, 0, 1, 2, 3, 4, 5)}},
		{"the sample in two cells", sampleNet(), 20, []impl.Cell{cell(0, 0, 0, 1, 2, 3, 4, 5), cell(1, 0, 3, 4, 5)}},
		{"an arc within one cell", oneArc(pt(1, 1), pt(9, 8)), 10, []impl.Cell{cell(0, 0, 0)}},
		{"an arc within one cell below 0", oneArc(pt(-1, -10), pt(-10, -1)), 10, []impl.Cell{cell(-1, -1, 0)}},
		{"an arc at one place", oneArc(pt(-11, 30), pt(-11, 30)), 10, []impl.Cell{cell(-2, 3, 0)}},
		{"up and right, over 0", oneArc(pt(-1, -1), pt(0, 0)), 10, across},
		{"down and left, over 0", oneArc(pt(0, 0), pt(-1, -1)), 10, across},
		{"up and left, over 0", oneArc(pt(0, -1), pt(-1, 0)), 10, across},
		{"down and right, over 0", oneArc(pt(-1, 0), pt(0, -1)), 10, across},
		{"to the right", oneArc(pt(-15, -5), pt(5, -5)), 10, []impl.Cell{cell(-2, -1, 0), cell(-1, -1, 0), cell(0, -1, 0)}},
		{"to the left", oneArc(pt(5, -5), pt(-15, -5)), 10, []impl.Cell{cell(-2, -1, 0), cell(-1, -1, 0), cell(0, -1, 0)}},
		{"up", oneArc(pt(-5, -15), pt(-5, 5)), 10, []impl.Cell{cell(-1, -2, 0), cell(-1, -1, 0), cell(-1, 0, 0)}},
		{"down", oneArc(pt(-5, 5), pt(-5, -15)), 10, []impl.Cell{cell(-1, -2, 0), cell(-1, -1, 0), cell(-1, 0, 0)}},
		{"to a border", oneArc(pt(5, 5), pt(10, 5)), 10, []impl.Cell{cell(0, 0, 0), cell(1, 0, 0)}},
		{"to before a border", oneArc(pt(5, 5), pt(9, 5)), 10, []impl.Cell{cell(0, 0, 0)}},
		{"to a border below 0", oneArc(pt(-5, -5), pt(-10, -5)), 10, []impl.Cell{cell(-1, -1, 0)}},
		{"beyond a border below 0", oneArc(pt(-5, -5), pt(-11, -5)), 10, []impl.Cell{cell(-2, -1, 0), cell(-1, -1, 0)}},
		{"the whole box of an arc, wider than high", oneArc(pt(2, 1), pt(0, 0)), 1, []impl.Cell{cell(0, 0, 0), cell(0, 1, 0), cell(1, 0, 0), cell(1, 1, 0), cell(2, 0, 0), cell(2, 1, 0)}},
		{"two arcs apart, the later one first in order", netOf([]impl.Pt{pt(50, 50), pt(55, 55), pt(-50, 10), pt(-45, 15)}, arc(0, 1, 5), arc(2, 3, 5)), 10, []impl.Cell{cell(-5, 1, 1), cell(5, 5, 0)}},
		{"equal X, the later one first in order", netOf([]impl.Pt{pt(50, 50), pt(55, 55), pt(52, -10), pt(52, -15)}, arc(0, 1, 5), arc(2, 3, 5)), 10, []impl.Cell{cell(5, -2, 1), cell(5, -1, 1), cell(5, 5, 0)}},
		{"size 1 at limits", oneArc(pt(lastAt, -lastAt), pt(lastAt-1, -lastAt)), 1, []impl.Cell{cell(lastAt-1, -lastAt, 0), cell(lastAt, -lastAt, 0)}},
		{"the greatest size", oneArc(pt(-1, lastAt), pt(999, 9999)), lastCell, []impl.Cell{cell(-1, 9, 0), cell(-1, 10, 0), cell(0, 9, 0), cell(0, 10, 0)}},
		{"no arcs", netOf([]impl.Pt{pt(0, 0), pt(5, 5)}), 10, nil},
		{"no nodes", impl.Net{}, 10, nil},
	} {
		if got := impl.GridOf(c.net, c.size); !sameGrid(got, c.want) {
			t.Errorf("%s: GridOf is %v, not %v", c.name, got, c.want)
		}
	}
}

func TestGridsInEveryDirection(t *testing.T) {
	for _, middle := range []impl.Pt{pt(0, 0), pt(-5000, 3000), pt(-1, -7), pt(9994, -9994)} {
		for _, d := range gridPoints(6) {
			n := oneArc(middle, pt(middle.X+d.X, middle.Y+d.Y))
			for _, size := range []int{1, 2, 3, 5, lastCell} {
				sameGridOf(t, n, size, gridBy(n, size))
				sameGridOf(t, impl.Turned(n), size, gridBy(n, size))
			}
		}
	}
}

func TestGridsOfNetworks(t *testing.T) {
	for salt, n := range goodNets() {
		for _, size := range []int{1, 37 + salt, 250, 500, 777, lastCell - 1, lastCell} {
			sameGridOf(t, n, size, gridBy(n, size))
		}
	}
	for salt := range 60 {
		middle := middles()[salt%len(middles())]
		n := closeNet(3+salt%18, 3+salt, middle, 3+salt, salt)
		for _, size := range []int{1, 2, 3, 5, 8, 13, 21, 100, lastCell} {
			sameGridOf(t, n, size, gridBy(n, size))
		}
	}
}

// cellsOf counts a cell once for each of its arcs.
func cellsOf(g []impl.Cell) int {
	count := 0
	for _, c := range g {
		count += len(c.Arcs)
	}
	return count
}

func TestGridsWithTheMostCells(t *testing.T) {
	both := func(a, b impl.Pt) impl.Net { return netOf([]impl.Pt{a, b}, arc(0, 1, 5), arc(1, 0, 5)) }
	three := func(x int) impl.Net {
		return netOf([]impl.Pt{pt(0, 0), pt(999, 0), pt(x, 0)}, arc(0, 1, 5), arc(1, 0, 5), arc(2, 0, 5))
	}
	for _, c := range []struct {
		name string
		net  impl.Net
		size int
		want int
	}{
		{"one row", oneArc(pt(0, 0), pt(2999, 0)), 1, lastCells},
		{"one row, one more", oneArc(pt(0, 0), pt(3000, 0)), 1, 0},
		{"one row the other way", oneArc(pt(1500, 0), pt(-1499, 0)), 1, lastCells},
		{"one row the other way, one more", oneArc(pt(1500, 0), pt(-1500, 0)), 1, 0},
		{"one column", oneArc(pt(-9, 0), pt(-9, -2999)), 1, lastCells},
		{"one column, one more", oneArc(pt(-9, 0), pt(-9, -3000)), 1, 0},
		{"a box", oneArc(pt(-20, 30), pt(29, -29)), 1, lastCells},
		{"a box, one row more", oneArc(pt(-20, 30), pt(29, -30)), 1, 0},
		{"a box, one column more", oneArc(pt(-21, 30), pt(29, -29)), 1, 0},
		{"a box of larger cells", oneArc(pt(-200, 309), pt(299, -290)), 10, lastCells},
		{"a box of larger cells, one row more", oneArc(pt(-200, 310), pt(299, -290)), 10, 0},
		{"the same cells for two arcs", both(pt(0, 5), pt(1499, 5)), 1, lastCells},
		{"the same cells for two arcs, one more", both(pt(0, 5), pt(1500, 5)), 1, 0},
		{"three arcs", three(999), 1, lastCells},
		{"three arcs, only the last one longer", three(1000), 1, 0},
		{"three arcs, only the last one shorter", three(998), 1, lastCells - 1},
		{"one column of larger cells", oneArc(pt(0, -lastAt), pt(0, -1003)), 3, lastCells},
		{"one column of larger cells, one more", oneArc(pt(0, -lastAt), pt(0, -1002)), 3, 0},
	} {
		g := impl.GridOf(c.net, c.size)
		if got := cellsOf(g); got != c.want {
			t.Errorf("%s: GridOf has %d cells of arcs, not %d", c.name, got, c.want)
		}
		if !sameGrid(g, gridBy(c.net, c.size)) {
			t.Errorf("%s: GridOf has other cells than expected", c.name)
		}
	}
}

// With size 1 an arc from corner to corner runs through 400 million cells, which a program cannot list.
func TestGridsOfVeryLongArcs(t *testing.T) {
	long := oneArc(pt(-lastAt, -lastAt), pt(lastAt, lastAt))
	many := fullNet()
	for i := range many.Nodes {
		many.Nodes[i] = cornerPoints()[i%2*24]
	}
	for range 50 {
		for _, n := range []impl.Net{long, impl.Turned(long), many, oneArc(pt(-lastAt, lastAt), pt(lastAt, -lastAt)), oneArc(pt(-lastAt, 0), pt(lastAt, 0))} {
			for _, size := range []int{1, 2, 5} {
				sameGridOf(t, n, size, nil)
			}
			sameNearBy(t, n, nil, 1, n.Nodes[0], 5, nil)
		}
	}
	if got := cellsOf(impl.GridOf(long, lastCell)); got != 21*21 {
		t.Fatalf("the grid of size MaxCell has %d cells", got)
	}
}

func TestGridOfInvalidArguments(t *testing.T) {
	for _, b := range badNets() {
		for _, size := range []int{1, 10, lastCell} {
			sameGridOf(t, b.net, size, nil)
		}
	}
	for _, n := range []impl.Net{sampleNet(), oneArc(pt(0, 0), pt(0, 0)), oneArc(pt(5, 5), pt(-1, -1))} {
		for _, size := range badSizes {
			sameGridOf(t, n, size, nil)
		}
	}
}

func TestNearByExamples(t *testing.T) {
	n := sampleNet()
	g := impl.GridOf(n, 10)
	for _, c := range []struct {
		name string
		g    []impl.Cell
		size int
		p    impl.Pt
		r    int
		want []int
	}{
		{"the example of the stage", g, 10, pt(5, 3), 3, []int{0, 1, 2}},
		{"a smaller radius", g, 10, pt(5, 3), 2, []int{1}},
		{"radius 0", g, 10, pt(10, 0), 0, []int{0, 2, 3, 4}},
		{"none near", g, 10, pt(5, 3), 1, nil},
		{"all", g, 10, pt(10, 5), 100, upTo(6)},
		{"exactly r * r", g, 10, pt(-3, -4), 5, []int{0, 1, 2}},
		{"one more than r * r", g, 10, pt(-1, -3), 3, nil},
		{"no cells", nil, 10, pt(5, 3), 3, nil},
		{"a cell without arcs", []impl.Cell{cell(0, 0)}, 10, pt(5, 3), 3, nil},
		{"only some arcs in the cells", []impl.Cell{cell(0, 0, 2)}, 10, pt(5, 3), 3, []int{2}},
		{"arcs that are not near", []impl.Cell{cell(0, 0, 5, 4, 3)}, 10, pt(5, 3), 3, nil},
		{"arcs that are not near beside one that is", []impl.Cell{cell(0, 0, 5, 0, 3)}, 10, pt(5, 3), 3, []int{0}},
		{"arcs in descending order", []impl.Cell{cell(0, 0, 2, 1, 0)}, 10, pt(5, 3), 3, []int{0, 1, 2}},
		{"cells in descending order", []impl.Cell{cell(0, 0, 2), cell(-1, 0, 1), cell(-1, -1, 0)}, 10, pt(5, 3), 5, []int{0, 1, 2}},
		{"an arc twice in one cell", []impl.Cell{cell(0, 0, 1, 0, 1, 1)}, 10, pt(5, 3), 3, []int{0, 1}},
		{"an arc in several cells", []impl.Cell{cell(0, 0, 1, 2), cell(-1, 0, 2), cell(0, -1, 1)}, 10, pt(5, 3), 5, []int{1, 2}},
		{"the same cell twice", []impl.Cell{cell(0, 0, 2), cell(0, 0, 0, 2), cell(0, 0, 2)}, 10, pt(5, 3), 3, []int{0, 2}},
		{"no indices of arcs", []impl.Cell{cell(0, 0, -1, 6, 7, -2, math.MaxInt, math.MinInt, 70, 1<<32, 1<<32+1)}, 10, pt(5, 3), 3, nil},
		{"no indices of arcs beside one", []impl.Cell{cell(0, 0, -1, 6, 1, math.MaxInt, math.MinInt)}, 10, pt(5, 3), 3, []int{1}},
		{"the last arc", []impl.Cell{cell(2, 0, 6, 5, 4)}, 10, pt(20, 0), 0, []int{4, 5}},
		{"cells beside the range", []impl.Cell{cell(1, 0, 0), cell(-1, 0, 1), cell(0, 1, 2), cell(0, -1, 0)}, 10, pt(5, 4), 3, nil},
		{"cells far from the range", []impl.Cell{cell(math.MinInt, 0, 0), cell(math.MaxInt, 0, 1), cell(0, math.MaxInt, 2), cell(0, math.MinInt, 0), cell(1<<32, 0, 0), cell(0, 1<<32, 0)}, 10, pt(5, 4), lastAt, nil},
		{"the grid of another size, cells too small", impl.GridOf(n, 1), 10, pt(15, 0), 0, nil},
		{"the grid of another size, cells too large", impl.GridOf(n, 21), 10, pt(15, 0), 0, nil},
		{"the grid of another size, where another cell has the number", impl.GridOf(n, 20), 10, pt(15, 0), 0, []int{3, 4}},
		{"the grid of another size, where some fit", impl.GridOf(n, 5), 10, pt(5, 3), 3, []int{0, 1, 2}},
		{"the grid of another network", impl.GridOf(oneArc(pt(0, 0), pt(5, 0)), 10), 10, pt(5, 3), 3, []int{0}},
		{"the grid of a larger network", impl.GridOf(closeNet(4, 12, pt(5, 5), 2, 1), 10), 10, pt(5, 3), 3, []int{0, 1, 2}},
	} {
		if got := impl.NearBy(n, c.g, c.size, c.p, c.r); !slices.Equal(got, c.want) {
			t.Errorf("%s: NearBy is %v, not %v", c.name, got, c.want)
		}
	}
}

// holds returns a grid with the arc 0 in one cell.
func holds(x int, y int) []impl.Cell { return []impl.Cell{cell(x, y, 0)} }

// A single cell with a near arc counts only within the range.
func TestCellsAtTheRange(t *testing.T) {
	for _, p := range []impl.Pt{pt(0, 0), pt(-5, 7), pt(-500, -600), pt(999, -1001)} {
		n := oneArc(p, p)
		for _, size := range []int{1, 2, 3, 10} {
			for r := range 5 {
				x, y := cellAt(p.X, size), cellAt(p.Y, size)
				for _, d := range gridPoints(8) {
					g := holds(x+d.X, y+d.Y)
					var want []int
					if reaches(x+d.X, p.X, r, size) && reaches(y+d.Y, p.Y, r, size) {
						want = []int{0}
					}
					sameNearBy(t, n, g, size, p, r, want)
				}
			}
		}
	}
}

// The range goes one farther than the radius, on each side.
func TestRangeOfOneMore(t *testing.T) {
	p := pt(-40, 300)
	n := oneArc(p, p)
	for _, r := range []int{0, 1, 7, 500} {
		for _, step := range []int{-1, 1} {
			sameNearBy(t, n, holds(p.X+step*(r+1), p.Y), 1, p, r, []int{0})
			sameNearBy(t, n, holds(p.X+step*(r+2), p.Y), 1, p, r, nil)
			sameNearBy(t, n, holds(p.X, p.Y+step*(r+1)), 1, p, r, []int{0})
			sameNearBy(t, n, holds(p.X, p.Y+step*(r+2)), 1, p, r, nil)
			sameNearBy(t, n, holds(p.X+step*(r+1), p.Y-step*(r+1)), 1, p, r, []int{0})
			sameNearBy(t, n, holds(p.X+step*(r+2), p.Y-step*(r+1)), 1, p, r, nil)
			sameNearBy(t, n, holds(p.X+step*(r+1), p.Y-step*(r+2)), 1, p, r, nil)
		}
	}
}

// Where p.X - r - 1 or the like is beyond a limit, the range ends at the limit.
func TestRangeAtTheLimits(t *testing.T) {
	for _, c := range []struct {
		name string
		size int
		p    impl.Pt
		r    int
		x    int
		y    int
		in   bool
	}{
		{"the cell of the greatest X", 1, pt(lastAt, 0), 0, lastAt, 0, true},
		{"beyond the greatest X", 1, pt(lastAt, 0), 0, lastAt + 1, 0, false},
		{"beyond the greatest X, from farther", 1, pt(lastAt-5, 0), 7, lastAt + 1, 0, false},
		{"the cell of the smallest X", 1, pt(-lastAt, 0), 0, -lastAt, 0, true},
		{"beyond the smallest X", 1, pt(-lastAt, 0), 0, -lastAt - 1, 0, false},
		{"beyond the smallest X, from farther", 1, pt(-lastAt+5, 0), 7, -lastAt - 1, 0, false},
		{"the cell of the greatest Y", 1, pt(3, lastAt), 0, 3, lastAt, true},
		{"beyond the greatest Y", 1, pt(3, lastAt), 0, 3, lastAt + 1, false},
		{"beyond the greatest Y, from farther", 1, pt(3, lastAt-5), 7, 3, lastAt + 1, false},
		{"the cell of the smallest Y", 1, pt(3, -lastAt), 0, 3, -lastAt, true},
		{"beyond the smallest Y", 1, pt(3, -lastAt), 0, 3, -lastAt - 1, false},
		{"beyond the smallest Y, from farther", 1, pt(3, -lastAt+5), 7, 3, -lastAt - 1, false},
		{"one before the limit", 1, pt(lastAt-1, 0), 0, lastAt, 0, true},
		{"one before the other limit", 1, pt(-lastAt+1, 0), 0, -lastAt, 0, true},
		{"inward of the limit", 1, pt(lastAt, 0), 0, lastAt - 1, 0, true},
		{"farther inward of the limit", 1, pt(lastAt, 0), 0, lastAt - 2, 0, false},
		{"large cells at the limit", 10, pt(lastAt, -lastAt), 5, 1000, -1000, true},
		{"large cells inward of the limit", 10, pt(lastAt, -lastAt), 5, 999, -1000, true},
		{"large cells beyond the limit", 10, pt(lastAt, -lastAt), 50, 1001, -1000, false},
		{"large cells beyond the other limit", 10, pt(lastAt, -lastAt), 50, 1000, -1001, false},
		{"a size that does not divide the limit", 7, pt(lastAt, -lastAt), 50, 1428, -1429, true},
		{"a size that does not divide the limit, beyond it", 7, pt(lastAt, -lastAt), 50, 1429, -1429, false},
		{"a size that does not divide the limit, beyond the other one", 7, pt(lastAt, -lastAt), 50, 1428, -1430, false},
		{"the greatest radius in the middle", 1, pt(0, 0), lastAt, -lastAt, lastAt, true},
		{"the greatest radius in the middle, beyond X", 1, pt(0, 0), lastAt, lastAt + 1, 0, false},
		{"the greatest radius in the middle, beyond Y", 1, pt(0, 0), lastAt, 0, -lastAt - 1, false},
		{"the greatest radius aside", 1, pt(2, -2), lastAt, 3 - lastAt - 2, lastAt - 1, true},
		{"the greatest radius aside, at the end of the range", 1, pt(2, -2), lastAt, 1 - lastAt, lastAt - 1, true},
		{"the greatest radius aside, beyond the range", 1, pt(2, -2), lastAt, -lastAt, lastAt - 1, false},
		{"the greatest radius aside, beyond the range of Y", 1, pt(2, -2), lastAt, 0, lastAt, false},
		{"the greatest radius at a corner", 1, pt(lastAt, lastAt), lastAt, -1, -1, true},
		{"the greatest radius at a corner, beyond the range", 1, pt(lastAt, lastAt), lastAt, -2, -1, false},
		{"the greatest radius and size", lastCell, pt(lastAt, -lastAt), lastAt, -1, 0, true},
		{"the greatest radius and size, beyond the range", lastCell, pt(lastAt, -lastAt), lastAt, -2, 0, false},
		{"the greatest radius and size, beyond the range of Y", lastCell, pt(lastAt, -lastAt), lastAt, -1, 1, false},
	} {
		var want []int
		if c.in {
			want = []int{0}
		}
		if got := impl.NearBy(oneArc(c.p, c.p), holds(c.x, c.y), c.size, c.p, c.r); !slices.Equal(got, want) {
			t.Errorf("%s: NearBy is %v, not %v", c.name, got, want)
		}
	}
}

func TestNearByOfRoughGrids(t *testing.T) {
	for salt := range 300 {
		middle := middles()[salt%len(middles())]
		n := closeNet(2+salt%9, 1+salt%13, middle, 1+salt%20, salt)
		size := []int{1, 2, 3, 7}[salt%4]
		around := pt(cellAt(middle.X, size), cellAt(middle.Y, size))
		g := roughGrid(1+salt%40, around, 1+20/size, len(n.Arcs), salt)
		for _, p := range closePoints(6, middle, 2+salt%20, salt+1) {
			for _, r := range []int{0, 1, 4, 15} {
				sameNearBy(t, n, g, size, p, r, nearInCells(n, g, size, p, r))
			}
		}
	}
}

func TestNearByOfGridsOfOthers(t *testing.T) {
	for salt := range 120 {
		middle := middles()[salt%len(middles())]
		n := closeNet(2+salt%7, 2+salt%11, middle, 1+salt%15, salt)
		other := closeNet(2+salt%9, 2+salt%17, middle, 1+salt%15, salt+1000)
		for _, g := range [][]impl.Cell{impl.GridOf(other, 3), impl.GridOf(n, 2), impl.GridOf(n, 4)} {
			for _, p := range closePoints(4, middle, 12, salt+1) {
				for _, r := range []int{0, 2, 9} {
					sameNearBy(t, n, g, 3, p, r, nearInCells(n, g, 3, p, r))
				}
			}
		}
	}
}

func TestNearByOfInvalidArguments(t *testing.T) {
	everywhere := []impl.Cell{cell(0, 0, 0, 1, 2, 3, 4, 5), cell(-1, -1, 0, 1, 2, 3, 4, 5)}
	for _, b := range badNets() {
		sameNearBy(t, b.net, everywhere, 100, pt(0, 0), lastAt, nil)
		for _, p := range b.net.Nodes[:min(2, len(b.net.Nodes))] {
			sameNearBy(t, b.net, holds(impl.CellOf(p, 10).X, impl.CellOf(p, 10).Y), 10, p, lastAt, nil)
		}
	}
	n := sampleNet()
	for _, p := range badPoints() {
		for _, size := range []int{1, 10, lastCell} {
			g := append(everywhere, cell(p.X, p.Y, 0, 1, 2), cell(p.X/size, p.Y/size, 0, 1, 2))
			sameNearBy(t, n, g, size, p, lastAt, nil)
		}
	}
	for _, p := range []impl.Pt{pt(0, 0), pt(5, 0), pt(5, -3), pt(-1, -1)} {
		for _, r := range badRadii {
			sameNearBy(t, n, everywhere, 10, p, r, nil)
		}
		for _, size := range badSizes {
			sameNearBy(t, n, everywhere, size, p, 5, nil)
		}
	}
}

// nearAsWithout checks the guarantee for one network, if its grid has room.
func nearAsWithout(t *testing.T, n impl.Net, size int, points []impl.Pt, radii []int) {
	t.Helper()
	g := impl.GridOf(n, size)
	if len(g) == 0 && len(n.Arcs) > 0 {
		return
	}
	for _, p := range points {
		for _, r := range radii {
			if got, want := impl.NearBy(n, g, size, p, r), impl.Near(n, p, r); !slices.Equal(got, want) {
				t.Fatalf("with the grid of size %d of %v, NearBy(%v, %d) is %v, and Near is %v", size, n, p, r, got, want)
			}
		}
	}
}

// Every short arc, with every point around it.
func TestShortArcsAreNearWithTheGrid(t *testing.T) {
	for _, middle := range []impl.Pt{pt(0, 0), pt(-10, 20), pt(lastAt-3, 3-lastAt), pt(3-lastAt, lastAt-3)} {
		var points []impl.Pt
		for _, d := range gridPoints(3) {
			points = append(points, pt(middle.X+d.X, middle.Y+d.Y))
		}
		for i, a := range points {
			// Of the other ends every third one, so that over all first ends each direction is there.
			for j := i % 3; j < len(points); j += 3 {
				for _, size := range []int{1, 2, 5} {
					nearAsWithout(t, oneArc(a, points[j]), size, points, []int{0, 1, 3})
				}
			}
		}
	}
}

func TestSmallNetworksAreNearWithTheGrid(t *testing.T) {
	for salt := range 200 {
		middle := middles()[salt%len(middles())]
		n := closeNet(2+salt%9, 1+salt%25, middle, 1+salt%30, salt)
		points := append(closePoints(8, middle, 2+salt%33, salt+1), n.Nodes[0])
		for _, size := range []int{1, 2, 3, 4, 7, 10, 25, 100, 999, lastCell} {
			nearAsWithout(t, n, size, points, []int{0, 1, 2, 5, 11, 40, lastAt})
		}
	}
}

func TestLargeNetworksAreNearWithTheGrid(t *testing.T) {
	for salt := range 100 {
		middle := middles()[salt%len(middles())]
		n := closeNet(2+salt%19, 1+salt%70, middle, 400+100*salt%6000, salt)
		points := append(closePoints(5, middle, 6000, salt+1), n.Nodes[1])
		for _, size := range []int{100, 333, 512, 999, lastCell} {
			nearAsWithout(t, n, size, points, []int{0, 1, 99, 1000, 5000, lastAt})
		}
	}
	for salt, n := range goodNets() {
		nearAsWithout(t, n, lastCell, append(spreadPoints(5, salt), cornerPoints()[salt%25]), []int{0, 1, 100, 1000, 5000, lastAt})
	}
}

// TestGridsHaveRoom makes sure that the guarantee is not tested with grids that have no room.
func TestGridsHaveRoom(t *testing.T) {
	room := 0
	for salt := range 200 {
		n := closeNet(2+salt%9, 1+salt%25, middles()[salt%len(middles())], 1+salt%30, salt)
		for _, size := range []int{1, 3, 10, lastCell} {
			if len(impl.GridOf(n, size)) > 0 {
				room++
			}
		}
	}
	if room < 600 {
		t.Fatalf("only %d of 800 grids have room", room)
	}
}

// cloned returns a copy of a grid that shares nothing with it.
func cloned(g []impl.Cell) []impl.Cell {
	g = slices.Clone(g)
	for i := range g {
		g[i].Arcs = slices.Clone(g[i].Arcs)
	}
	return g
}

// roomyGrid returns a copy of a grid with spare capacity everywhere, and what reports whether this copy is still the same.
func roomyGrid(plain []impl.Cell) ([]impl.Cell, func() bool) {
	g := roomy(plain, cell(0, 0, 0, 1, 2, 3, 4, 5))
	for i := range g {
		g[i].Arcs = roomy(g[i].Arcs, 0)
	}
	copied := func() []impl.Cell {
		whole := wholeOf(g)
		for i := range whole {
			whole[i].Arcs = wholeOf(whole[i].Arcs)
		}
		return whole
	}
	before := copied()
	return g, func() bool { return sameGrid(before, copied()) }
}

func gridNets() []impl.Net {
	nets := []impl.Net{{}, sampleNet(), fullNet(), oneArc(pt(3, 3), pt(3, 3)), oneArc(pt(-lastAt, -lastAt), pt(lastAt, lastAt))}
	for salt, middle := range middles() {
		nets = append(nets, closeNet(3+salt, 5+3*salt, middle, 20, salt))
	}
	for _, b := range badNets()[:8] {
		nets = append(nets, b.net)
	}
	return nets
}

func TestNearDoesNotModifyOrShare(t *testing.T) {
	for _, plain := range gridNets() {
		n, unchanged := roomyNet(plain)
		for _, p := range append(slices.Clone(plain.Nodes), pt(5, 3), pt(-lastAt, 7), pt(lastAt+1, 0)) {
			for _, r := range []int{-1, 0, 3, 30, lastAt} {
				for i := -1; i <= len(n.Arcs); i++ {
					if impl.Arc2(n, i, p) != impl.Arc2(plain, i, p) {
						t.Fatalf("the spare capacity behind %v counts", plain)
					}
				}
				want := slices.Clone(impl.Near(plain, p, r))
				near := impl.Near(n, p, r)
				// After one call: a second one might undo what the first one did.
				if !unchanged() {
					t.Fatalf("%v was changed to %v", plain, n)
				}
				other := impl.Near(n, p, r)
				if !slices.Equal(near, want) {
					t.Fatalf("the spare capacity behind %v counts", plain)
				}
				spoil(near, -5)
				if !slices.Equal(other, want) || !slices.Equal(impl.Near(n, p, r), want) {
					t.Fatalf("two results of Near for %v share memory", plain)
				}
			}
		}
		if !unchanged() {
			t.Fatalf("%v was changed to %v", plain, n)
		}
	}
}

func TestGridOfDoesNotModifyOrShare(t *testing.T) {
	for _, plain := range gridNets() {
		n, unchanged := roomyNet(plain)
		for _, size := range []int{0, 1, 2, 10, lastCell, lastCell + 1} {
			want := cloned(impl.GridOf(plain, size))
			g := impl.GridOf(n, size)
			if !unchanged() {
				t.Fatalf("%v was changed to %v", plain, n)
			}
			other := impl.GridOf(n, size)
			if !sameGrid(g, want) {
				t.Fatalf("the spare capacity behind %v counts", plain)
			}
			for i := range g {
				if !sameCell(g[i], want[i]) {
					t.Fatalf("a cell of the grid of %v shares memory with one before it", plain)
				}
				spoil(g[i].Arcs, -5-i)
			}
			for i := range g {
				if slices.ContainsFunc(g[i].Arcs, func(a int) bool { return a != -5-i }) {
					t.Fatalf("a cell of the grid of %v shares memory with one behind it", plain)
				}
			}
			spoil(g, cell(-5, -5))
			if !sameGrid(other, want) || !sameGrid(impl.GridOf(n, size), want) {
				t.Fatalf("two grids of %v share memory", plain)
			}
		}
		if !unchanged() {
			t.Fatalf("%v was changed to %v", plain, n)
		}
	}
}

func TestNearByDoesNotModifyOrShare(t *testing.T) {
	for salt, plain := range gridNets() {
		n, unchanged := roomyNet(plain)
		plainGrid := append(roughGrid(30, pt(0, 0), 4, len(plain.Arcs), salt), impl.GridOf(plain, 10)...)
		g, sameAsBefore := roomyGrid(plainGrid)
		for _, p := range append(slices.Clone(plain.Nodes), pt(5, 3), pt(-lastAt, 7), pt(lastAt+1, 0)) {
			for _, r := range []int{-1, 0, 3, 30, lastAt} {
				want := slices.Clone(impl.NearBy(plain, cloned(plainGrid), 10, p, r))
				near := impl.NearBy(n, g, 10, p, r)
				if !unchanged() || !sameAsBefore() {
					t.Fatalf("%v or its grid was changed", plain)
				}
				other := impl.NearBy(n, g, 10, p, r)
				if !slices.Equal(near, want) {
					t.Fatalf("the spare capacity behind %v or %v counts", plain, plainGrid)
				}
				spoil(near, -5)
				if !slices.Equal(other, want) || !slices.Equal(impl.NearBy(n, g, 10, p, r), want) {
					t.Fatalf("two results of NearBy for %v share memory", plain)
				}
			}
		}
	}
}

// Cells and elements that lie behind those of a list are not part of it.
func TestSpareCellsAreNotRead(t *testing.T) {
	n, p := sampleNet(), pt(5, 3)
	arcs := []int{1, 0, 2}
	cells := []impl.Cell{{Arcs: arcs[:1]}, cell(0, 0, 2)}
	sameNearBy(t, n, cells[:1], 10, p, 3, []int{1})
	sameNearBy(t, n, cells[:0], 10, p, 3, nil)
	sameNearBy(t, n, cells, 10, p, 3, []int{1, 2})
	part := impl.Net{Nodes: n.Nodes, Arcs: n.Arcs[:1]}
	sameNearBy(t, part, impl.GridOf(n, 10), 10, p, 3, []int{0})
	sameNear(t, part, p, 3, []int{0})
	sameGridOf(t, part, 10, []impl.Cell{cell(0, 0, 0), cell(1, 0, 0)})
}

// A map has no order of its own, so every call must sort anew.
func TestGridsAreTheSameEveryTime(t *testing.T) {
	n := closeNet(20, 70, pt(0, 0), 60, 1)
	want := gridBy(n, 10)
	if len(want) < 100 {
		t.Fatalf("the grid has only %d cells", len(want))
	}
	for range 50 {
		sameGridOf(t, n, 10, want)
	}
}
