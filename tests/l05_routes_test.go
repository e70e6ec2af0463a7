package tests

import (
	"fmt"
	"math"
	"slices"
	"testing"

	"loop.example/g00640/impl"
)

// lenAlong adds up the lengths of the arcs along r, and reports whether there are all of them.
func lenAlong(n impl.Net, r []int) (int, bool) {
	length := 0
	for i := range len(r) - 1 {
		at := slices.IndexFunc(n.Arcs, func(a impl.Arc) bool { return a.From == r[i] && a.To == r[i+1] })
		if at < 0 {
			return 0, false
		}
		length += n.Arcs[at].Len
	}
	return length, true
}

// isRoute reports whether r is a route in the valid network n.
func isRoute(n impl.Net, r []int) bool {
	outside := func(u int) bool { return u < 0 || u >= len(n.Nodes) }
	_, linked := lenAlong(n, r)
	return len(r) > 0 && !slices.ContainsFunc(r, outside) && linked
}

// arcsOf returns the index of the only arc for each step of the route r.
func arcsOf(n impl.Net, r []int) []int {
	var list []int
	for i := range len(r) - 1 {
		list = append(list, arcsWhere(n, func(a impl.Arc) bool { return a.From == r[i] && a.To == r[i+1] })...)
	}
	return list
}

// visitRoutes visits all routes to t that continue route without a repeated node.
func visitRoutes(n impl.Net, route []int, t int, visit func(route []int)) {
	u := route[len(route)-1]
	if u == t {
		visit(route)
		return
	}
	for _, a := range n.Arcs {
		if a.From == u && !slices.Contains(route, a.To) {
			visitRoutes(n, append(slices.Clone(route), a.To), t, visit)
		}
	}
}

// triedRoute compares all routes from s to t.
func triedRoute(n impl.Net, s int, t int) []int {
	var best []int
	shortest := 0
	visitRoutes(n, []int{s}, t, func(r []int) {
		length, _ := lenAlong(n, r)
		if best == nil || length < shortest || length == shortest && slices.Compare(r, best) < 0 {
			best, shortest = r, length
		}
	})
	return best
}

// routesTo returns the best route from each node to t: the nodes are taken in the order of their distances, so that the routes that theirs continue with are already known.
func routesTo(n impl.Net, table [][]int, t int) [][]int {
	routes := make([][]int, len(n.Nodes))
	routes[t] = []int{t}
	order := upTo(len(n.Nodes))
	slices.SortStableFunc(order, func(u, v int) int { return table[u][t] - table[v][t] })
	for _, u := range order {
		for _, a := range n.Arcs {
			if a.From != u || routes[a.To] == nil || a.Len+table[a.To][t] != table[u][t] {
				continue
			}
			if r := append([]int{u}, routes[a.To]...); routes[u] == nil || slices.Compare(r, routes[u]) < 0 {
				routes[u] = r
			}
		}
	}
	return routes
}

// tiedNets have many routes of the same length.
func tiedNets() []impl.Net {
	var nets []impl.Net
	for salt := range 15 {
		for _, nodes := range []int{5, 6, 7, 12, 20} {
			nets = append(nets, mixedNet(nodes, 3*nodes, 1, salt), mixedNet(nodes, 3*nodes, 2, salt), mixedNet(nodes, 4*nodes, 3, salt), mixedNet(nodes, impl.MaxArcs, 5, salt))
		}
	}
	return append(nets, streetNet())
}

// streetNet has 4 by 5 nodes with arcs of the same length between neighbors, there and back.
func streetNet() impl.Net {
	n := netOf(spreadPoints(20, 3))
	for _, a := range pairsOf(20) {
		low, high := min(a.From, a.To), max(a.From, a.To)
		if high == low+5 || high == low+1 && high%5 != 0 {
			n.Arcs = append(n.Arcs, arc(a.From, a.To, 7))
		}
	}
	return n
}

func routeNets() []impl.Net { return append(distanceNets(), tiedNets()...) }

// sameRoute checks everything that is promised of the best route from s to t.
func sameRoute(t *testing.T, n impl.Net, s int, e int, want []int) {
	t.Helper()
	got := impl.BestRoute(n, s, e)
	if !slices.Equal(got, want) {
		t.Fatalf("BestRoute(%v, %d, %d) is %v, not %v", n, s, e, got, want)
	}
	if len(want) == 0 {
		if got != nil || impl.Between(n, s, e) != noRoute {
			t.Fatalf("in %v there is a route from %d to %d", n, s, e)
		}
		return
	}
	length, _ := lenAlong(n, want)
	if !impl.RouteOk(n, got) || impl.RouteLen(n, got) != length || impl.Between(n, s, e) != length {
		t.Fatalf("in %v the route %v of length %d has RouteOk %t, RouteLen %d and Between %d", n, got, length, impl.RouteOk(n, got), impl.RouteLen(n, got), impl.Between(n, s, e))
	}
	if arcs := impl.RouteArcs(n, got); !slices.Equal(arcs, arcsOf(n, want)) {
		t.Fatalf("in %v the RouteArcs of %v are %v", n, got, arcs)
	}
}

func TestBestRoutes(t *testing.T) {
	for _, n := range routeNets() {
		if !impl.NetOk(n) {
			t.Fatalf("%v is not valid", n)
		}
		table := tableOf(n)
		for e := range n.Nodes {
			routes := routesTo(n, table, e)
			for s := range n.Nodes {
				sameRoute(t, n, s, e, routes[s])
			}
		}
	}
}

// Networks of three and four nodes with these lengths, against all their routes.
func TestBestRoutesOfSmallNetworks(t *testing.T) {
	check := func(n impl.Net) {
		for s := range n.Nodes {
			for e := range n.Nodes {
				if got, want := impl.BestRoute(n, s, e), triedRoute(n, s, e); !slices.Equal(got, want) {
					t.Fatalf("BestRoute(%v, %d, %d) is %v, not %v", n, s, e, got, want)
				}
			}
		}
	}
	visitLenNets(3, []int{0, 1, 2, 3}, check)
	visitLenNets(4, []int{0, 1}, check)
	count := 0
	visitLenNets(4, []int{0, 1, 2}, func(n impl.Net) {
		// Every 29th of them: the number of lengths to choose from has no divisor in common with it.
		if count++; count%29 == 0 {
			check(n)
		}
	})
}

// Networks of up to seven nodes with many ties, against all their routes.
func TestBestRoutesAgainstAllRoutes(t *testing.T) {
	for _, n := range tiedNets() {
		if len(n.Nodes) > 7 {
			continue
		}
		for s := range n.Nodes {
			for e := range n.Nodes {
				sameRoute(t, n, s, e, triedRoute(n, s, e))
			}
		}
	}
}

func TestTies(t *testing.T) {
	eight := spreadPoints(8, 2)
	cases := []struct {
		name string
		s, e int
		want []int
		arcs []impl.Arc
	}{
		{"the first position", 0, 5, []int{0, 1, 4, 5}, []impl.Arc{arc(0, 1, 1), arc(0, 2, 1), arc(1, 4, 1), arc(2, 3, 1), arc(3, 5, 1), arc(4, 5, 1)}},
		{"the first position, by the greater arc", 0, 5, []int{0, 1, 5}, []impl.Arc{arc(0, 1, 8), arc(0, 2, 1), arc(1, 5, 1), arc(2, 5, 8)}},
		{"a middle position", 0, 5, []int{0, 1, 2, 4, 5}, []impl.Arc{arc(0, 1, 1), arc(1, 2, 3), arc(1, 3, 2), arc(2, 4, 2), arc(3, 4, 3), arc(4, 5, 1)}},
		{"the last position", 0, 5, []int{0, 1, 2, 5}, []impl.Arc{arc(0, 1, 1), arc(1, 2, 4), arc(1, 3, 3), arc(1, 4, 2), arc(2, 5, 2), arc(3, 5, 3), arc(4, 5, 4)}},
		{"the first position, against the last one", 0, 7, []int{0, 1, 6, 7}, []impl.Arc{arc(0, 1, 2), arc(0, 4, 2), arc(1, 6, 2), arc(4, 5, 2), arc(5, 7, 2), arc(6, 7, 2)}},
		{"two positions", 0, 7, []int{0, 2, 4, 5, 7}, []impl.Arc{arc(0, 2, 1), arc(0, 3, 1), arc(2, 4, 1), arc(3, 4, 1), arc(4, 5, 1), arc(4, 6, 1), arc(5, 7, 1), arc(6, 7, 1)}},
		{"more nodes than by one arc", 0, 5, []int{0, 1, 2, 5}, []impl.Arc{arc(0, 1, 1), arc(0, 5, 3), arc(1, 2, 1), arc(2, 5, 1)}},
		{"more nodes than by one node", 0, 5, []int{0, 1, 2, 5}, []impl.Arc{arc(0, 1, 1), arc(0, 4, 1), arc(1, 2, 1), arc(2, 5, 1), arc(4, 5, 2)}},
		{"more nodes, in the middle", 0, 7, []int{0, 3, 2, 4, 6, 7}, []impl.Arc{arc(0, 3, 1), arc(2, 4, 1), arc(3, 2, 1), arc(3, 6, 3), arc(4, 6, 1), arc(6, 7, 1)}},
		{"more nodes, at the end", 0, 7, []int{0, 3, 6, 7}, []impl.Arc{arc(0, 3, 1), arc(3, 6, 1), arc(3, 7, 4), arc(6, 7, 3)}},
		{"most nodes of three routes", 0, 7, []int{0, 1, 6, 5, 4, 3, 2, 7}, []impl.Arc{arc(0, 1, 1), arc(0, 7, 7), arc(1, 6, 1), arc(1, 7, 6), arc(2, 7, 1), arc(3, 2, 1), arc(4, 3, 1), arc(5, 4, 1), arc(6, 5, 1)}},
		{"fewer nodes, one arc", 0, 1, []int{0, 1}, []impl.Arc{arc(0, 1, 3), arc(0, 2, 1), arc(2, 3, 1), arc(3, 1, 1)}},
		{"fewer nodes, one node", 0, 5, []int{0, 1, 5}, []impl.Arc{arc(0, 1, 1), arc(0, 2, 1), arc(1, 5, 2), arc(2, 3, 1), arc(3, 5, 1)}},
		{"fewer nodes, at the end", 3, 2, []int{3, 0, 2}, []impl.Arc{arc(0, 2, 3), arc(0, 4, 2), arc(3, 0, 1), arc(4, 2, 1)}},
		{"from a greater node", 7, 0, []int{7, 1, 6, 0}, []impl.Arc{arc(1, 6, 1), arc(2, 3, 1), arc(3, 0, 1), arc(6, 0, 1), arc(7, 1, 1), arc(7, 2, 1)}},
		{"smaller nodes on longer routes", 3, 4, []int{3, 5, 4}, []impl.Arc{arc(0, 4, 3), arc(1, 4, 1), arc(2, 4, 4), arc(3, 0, 2), arc(3, 1, 4), arc(3, 2, 1), arc(3, 5, 2), arc(3, 6, 2), arc(5, 4, 2), arc(6, 4, 2)}},
		{"a smaller node that is one too far", 1, 3, []int{1, 2, 3}, []impl.Arc{arc(0, 3, 2), arc(1, 0, 2), arc(1, 2, 2), arc(2, 3, 1)}},
		{"a smaller node without a route", 1, 3, []int{1, 2, 3}, []impl.Arc{arc(1, 0, 4), arc(1, 2, 2), arc(2, 3, 1)}},
		{"a smaller node without a route, of each length", 2, 3, []int{2, 4, 3}, []impl.Arc{arc(2, 0, 1), arc(2, 1, 3), arc(2, 4, 1), arc(2, 5, 2), arc(4, 0, 1), arc(4, 1, 2), arc(4, 3, 1)}},
		{"the first node after t", 0, 1, []int{0, 1}, []impl.Arc{arc(0, 1, 1), arc(1, 0, 1), arc(1, 2, 1), arc(2, 1, 1)}},
	}
	for _, c := range cases {
		t.Run(c.name, func(t *testing.T) {
			n := netOf(eight, c.arcs...)
			if !impl.NetOk(n) || !slices.Equal(triedRoute(n, c.s, c.e), c.want) {
				t.Fatalf("the case is not as it says: %v", triedRoute(n, c.s, c.e))
			}
			sameRoute(t, n, c.s, c.e, c.want)
		})
	}
}

// Of two routes of the same length that differ in one node only, the smaller one decides, wherever in the route it is and whatever the others are.
func TestTiesAtEachPosition(t *testing.T) {
	for _, route := range [][]int{{0, 1, 2, 3, 4, 5, 6}, {6, 5, 4, 3, 2, 1, 0}, {3, 0, 6, 1, 5, 2, 4}, {0, 6}, {5, 0, 6}} {
		for at := 1; at < len(route)-1; at++ {
			for other := range 8 {
				if slices.Contains(route, other) {
					continue
				}
				n := chainNet(route, 3, arc(route[at-1], other, 2), arc(other, route[at+1], 4))
				n.Nodes = spreadPoints(8, 2)
				want := slices.Clone(route)
				want[at] = min(other, route[at])
				sameRoute(t, n, route[0], route[len(route)-1], want)
			}
		}
	}
}

// A detour by one more node has the same length as the arc that it avoids: it is taken if its node is smaller than the next one.
func TestTiesOfDifferentNumbersOfNodes(t *testing.T) {
	for _, route := range [][]int{{1, 2, 4, 5, 7}, {7, 5, 4, 2, 1}, {4, 1, 7, 2, 5}} {
		for at := 1; at < len(route); at++ {
			for _, other := range []int{0, 3, 6} {
				n := chainNet(route, 3, arc(route[at-1], other, 1), arc(other, route[at], 2))
				n.Nodes = spreadPoints(8, 2)
				want := slices.Clone(route)
				if other < route[at] {
					want = slices.Insert(want, at, other)
				}
				sameRoute(t, n, route[0], route[len(route)-1], want)
			}
		}
	}
}

func TestManyArcsAgainstOne(t *testing.T) {
	for _, route := range [][]int{upTo(20), downFrom(20), stridden(20, 3), stridden(20, 9), stridden(20, 13), {0, 2, 1}, {2, 0, 1}} {
		s, e, arcs := route[0], route[len(route)-1], len(route)-1
		direct := []int{s, e}
		tie := route
		if e < route[1] {
			tie = direct
		}
		for _, c := range []struct {
			length int
			want   []int
		}{{arcs - 1, direct}, {arcs, tie}, {arcs + 1, route}, {impl.MaxLen, route}} {
			n := chainNet(route, 1, arc(s, e, c.length))
			sameRoute(t, n, s, e, c.want)
			sameRoute(t, n, e, s, nil)
		}
	}
}

func TestRouteToItself(t *testing.T) {
	for _, n := range routeNets() {
		for u := range n.Nodes {
			sameRoute(t, n, u, u, []int{u})
			if got := impl.RouteArcs(n, []int{u}); len(got) != 0 {
				t.Fatalf("the RouteArcs of the node %d alone are %v", u, got)
			}
		}
	}
	circle := chainNet([]int{0, 1, 2, 0}, 1)
	sameRoute(t, circle, 1, 1, []int{1})
	if got := impl.RouteLen(circle, []int{1, 2, 0, 1}); got != 3 {
		t.Errorf("the length of the circle is %d", got)
	}
}

func TestNoRoute(t *testing.T) {
	three := spreadPoints(3, 7)
	cases := []struct {
		name        string
		net         impl.Net
		there, back []int
	}{
		{"one direction", netOf(three, arc(0, 1, 7)), []int{0, 1}, nil},
		{"the other direction", netOf(three, arc(1, 0, 1)), nil, []int{1, 0}},
		{"neither direction", netOf(three), nil, nil},
		{"both directions", netOf(three, arc(0, 1, 7), arc(1, 0, 1)), []int{0, 1}, []int{1, 0}},
		{"one direction by a third node", netOf(three, arc(0, 2, 1), arc(2, 1, 1)), []int{0, 2, 1}, nil},
		{"the other direction by a third node", netOf(three, arc(1, 2, 1), arc(2, 0, 1)), nil, []int{1, 2, 0}},
		{"both to a third node", netOf(three, arc(0, 2, 1), arc(1, 2, 1)), nil, nil},
		{"both from a third node", netOf(three, arc(2, 0, 1), arc(2, 1, 1)), nil, nil},
		{"one to a third node, there and back", netOf(three, arc(0, 2, 1), arc(2, 0, 1)), nil, nil},
	}
	for _, c := range cases {
		t.Run(c.name, func(t *testing.T) {
			sameRoute(t, c.net, 0, 1, c.there)
			sameRoute(t, c.net, 1, 0, c.back)
		})
	}
	for nodes := 2; nodes <= impl.MaxNodes; nodes++ {
		n := netOf(spreadPoints(nodes, 3))
		sameRoute(t, n, 0, nodes-1, nil)
		sameRoute(t, n, nodes-1, 0, nil)
	}
}

func TestBestRouteOfNodesThatDoNotExist(t *testing.T) {
	for _, n := range []impl.Net{{}, netOf(spreadPoints(1, 1)), sampleNet(), fullNet(), slowNet(), streetNet()} {
		for _, u := range outsiders(len(n.Nodes)) {
			for _, v := range everyNode(n) {
				if one, two := impl.BestRoute(n, u, v), impl.BestRoute(n, v, u); one != nil || two != nil {
					t.Errorf("between %d and %d the best routes are %v and %v", u, v, one, two)
				}
			}
		}
	}
}

// Every part of a best route is a best route, and the two parts at each of its nodes are linked to it.
func TestPartsOfBestRoutes(t *testing.T) {
	for _, n := range routeNets() {
		best := make([][][]int, len(n.Nodes))
		for s := range best {
			for e := range best {
				best[s] = append(best[s], impl.BestRoute(n, s, e))
			}
		}
		for _, r := range slices.Concat(best...) {
			for i := range r {
				for j := i; j < len(r); j++ {
					if part := best[r[i]][r[j]]; !slices.Equal(part, r[i:j+1]) {
						t.Fatalf("in %v the part from %d to %d of %v is not %v", n, r[i], r[j], r, part)
					}
				}
				if got, ok := impl.Linked(r[:i+1], r[i:]); !ok || !slices.Equal(got, r) {
					t.Fatalf("linked at %d, %v is %v", i, r, got)
				}
			}
		}
	}
}

func TestRoutesAtTheLimits(t *testing.T) {
	n := slowNet()
	sameRoute(t, n, 0, 19, upTo(20))
	if got := impl.RouteLen(n, upTo(20)); got != 190000 {
		t.Errorf("the length of the longest best route is %d", got)
	}
	sameRoute(t, impl.Turned(n), 19, 0, downFrom(20))
	full := fullNet()
	for i := range full.Arcs {
		full.Arcs[i].Len = impl.MaxLen
	}
	table := tableOf(full)
	for e := range full.Nodes {
		for s, want := range routesTo(full, table, e) {
			sameRoute(t, full, s, e, want)
		}
	}
}

// everyList visits the lists of at most that many numbers.
func everyList(numbers []int, most int, visit func(list []int)) {
	var fill func(list []int)
	fill = func(list []int) {
		visit(list)
		if len(list) == most {
			return
		}
		for _, u := range numbers {
			fill(append(slices.Clone(list), u))
		}
	}
	fill(nil)
}

// judged checks what the three functions return for a list, which need not be a route.
func judged(t *testing.T, n impl.Net, r []int) {
	t.Helper()
	ok, length := isRoute(n, r), noRoute
	var arcs []int
	if ok {
		length, _ = lenAlong(n, r)
		arcs = arcsOf(n, r)
	}
	if got := impl.RouteOk(n, r); got != ok {
		t.Fatalf("RouteOk(%v, %v) is %t", n, r, got)
	}
	if got := impl.RouteLen(n, r); got != length {
		t.Fatalf("RouteLen(%v, %v) is %d, not %d", n, r, got, length)
	}
	if got := impl.RouteArcs(n, r); !slices.Equal(got, arcs) || !ok && got != nil {
		t.Fatalf("RouteArcs(%v, %v) is %v, not %v", n, r, got, arcs)
	}
}

// Every list of up to four nodes, and of numbers just beyond them.
func TestListsOfNodes(t *testing.T) {
	nets := append(smallNets(), sampleNet(), chainNet([]int{0, 3, 1, 2, 0}, 4, arc(1, 0, 9)))
	for _, n := range nets {
		numbers := append(upTo(len(n.Nodes)), -1, len(n.Nodes))
		everyList(numbers, 4, func(r []int) { judged(t, n, r) })
	}
}

func TestListsInLargeNetworks(t *testing.T) {
	for _, n := range []impl.Net{fullNet(), slowNet(), streetNet(), longNet(), wideNet(13, 4)} {
		judged(t, n, nil)
		judged(t, n, []int{})
		for _, u := range everyNode(n) {
			judged(t, n, []int{u})
			for _, v := range everyNode(n) {
				judged(t, n, []int{u, v})
				judged(t, n, []int{0, u, v})
				judged(t, n, []int{u, 1, v})
				judged(t, n, []int{u, v, u})
				judged(t, n, []int{0, 1, 0, u, v})
			}
		}
	}
}

func TestRouteExamples(t *testing.T) {
	cases := []struct {
		r    []int
		want int
		arcs []int
	}{
		{nil, -1, nil},
		{[]int{}, -1, nil},
		{[]int{0}, 0, nil},
		{[]int{3}, 0, nil},
		{[]int{-1}, -1, nil},
		{[]int{4}, -1, nil},
		{[]int{0, 1}, 10, []int{0}},
		{[]int{0, 0}, -1, nil},
		{[]int{0, 2}, -1, nil},
		{[]int{3, 0}, -1, nil},
		{[]int{2, 3}, -1, nil},
		{[]int{0, 1, 2}, 20, []int{0, 3}},
		{[]int{0, 3, 2, 1, 0}, 50, []int{1, 5, 4, 2}},
		{[]int{0, 1, 0, 1, 0, 1}, 50, []int{0, 2, 0, 2, 0}},
		{[]int{1, 2, 1, 0, 3, 2, 1, 0}, 80, []int{3, 4, 2, 1, 5, 4, 2}},
		{[]int{-1, 0, 1}, -1, nil},
		{[]int{0, -1, 1}, -1, nil},
		{[]int{0, 1, -1}, -1, nil},
		{[]int{4, 0, 1}, -1, nil},
		{[]int{0, 1, 4}, -1, nil},
		{[]int{0, 1, 2, 0}, -1, nil},
		{[]int{2, 0, 1, 2}, -1, nil},
		{[]int{0, 1, 1, 2}, -1, nil},
		{[]int{0, math.MaxInt}, -1, nil},
		{[]int{math.MinInt, 0}, -1, nil},
	}
	for _, c := range cases {
		n := sampleNet()
		if ok, length, arcs := impl.RouteOk(n, c.r), impl.RouteLen(n, c.r), impl.RouteArcs(n, c.r); ok != (c.want >= 0) || length != c.want || !slices.Equal(arcs, c.arcs) {
			t.Errorf("RouteOk, RouteLen and RouteArcs of %v are %t, %d and %v", c.r, ok, length, arcs)
		}
	}
}

// A route may be longer than any network.
func TestLongRoutes(t *testing.T) {
	n := netOf(spreadPoints(3, 1), arc(0, 1, impl.MaxLen), arc(1, 0, impl.MaxLen), arc(1, 2, 1))
	r := slices.Repeat([]int{0, 1}, 10000)
	if got := impl.RouteLen(n, r); !impl.RouteOk(n, r) || got != 199990000 {
		t.Errorf("the length there and back is %d", got)
	}
	if got := impl.RouteArcs(n, r); len(got) != 19999 || !slices.Equal(got[:19998], slices.Repeat([]int{0, 1}, 9999)) || got[19998] != 0 {
		t.Errorf("there and back has %d arcs", len(got))
	}
	for _, last := range []int{1, 3, -1} {
		bad := append(slices.Clone(r), last)
		if impl.RouteOk(n, bad) || impl.RouteLen(n, bad) != -1 || impl.RouteArcs(n, bad) != nil {
			t.Errorf("with %d behind it, it is still a route", last)
		}
	}
}

func TestRoutesOfInvalidNetworks(t *testing.T) {
	lists := [][]int{nil, {}, {0}, {1}, {2}, {-1}, {0, 1}, {1, 2}, {0, 1, 2}, {1, 0}, {0, 2}, {0, 0}, {1, 1}, {19, 19}, {19}, {20}}
	for _, b := range badNets() {
		for _, a := range b.net.Arcs {
			for _, r := range append(slices.Clone(lists), []int{a.From}, []int{a.From, a.To}) {
				if impl.RouteOk(b.net, r) || impl.RouteLen(b.net, r) != -1 || impl.RouteArcs(b.net, r) != nil {
					t.Fatalf("%s: %v is a route", b.name, r)
				}
			}
			if got := impl.BestRoute(b.net, a.From, a.To); got != nil {
				t.Fatalf("%s: the best route along %v is %v", b.name, a, got)
			}
		}
		for _, u := range everyNode(b.net) {
			for _, v := range []int{0, 1, 2, u} {
				if got := impl.BestRoute(b.net, u, v); got != nil {
					t.Fatalf("%s: the best route from %d to %d is %v", b.name, u, v, got)
				}
			}
			if impl.RouteOk(b.net, []int{u}) || impl.RouteLen(b.net, []int{u}) != -1 {
				t.Fatalf("%s: the node %d is a route", b.name, u)
			}
		}
	}
}

func TestLinked(t *testing.T) {
	cases := []struct {
		a, b, want []int
		ok         bool
	}{
		{[]int{0, 1}, []int{1, 2}, []int{0, 1, 2}, true},
		{[]int{5}, []int{5}, []int{5}, true},
		{[]int{5}, []int{5, 6, 7}, []int{5, 6, 7}, true},
		{[]int{3, 4, 5}, []int{5}, []int{3, 4, 5}, true},
		{[]int{1, 1}, []int{1, 1}, []int{1, 1, 1}, true},
		{[]int{1, 2, 1}, []int{1, 2, 1}, []int{1, 2, 1, 2, 1}, true},
		{[]int{-7, math.MinInt}, []int{math.MinInt, math.MaxInt}, []int{-7, math.MinInt, math.MaxInt}, true},
		{[]int{0}, []int{0, 0}, []int{0, 0}, true},
		{nil, nil, nil, false},
		{[]int{}, []int{}, nil, false},
		{nil, []int{1, 2}, nil, false},
		{[]int{}, []int{0}, nil, false},
		{[]int{1, 2}, nil, nil, false},
		{[]int{0}, []int{}, nil, false},
		{[]int{5}, []int{6}, nil, false},
		{[]int{0, 1}, []int{2}, nil, false},
		{[]int{1, 0}, []int{1, 2}, nil, false},
		{[]int{0, 1}, []int{2, 1}, nil, false},
		{[]int{0, 1, 2}, []int{0, 1, 2}, nil, false},
		{[]int{1}, []int{-1}, nil, false},
	}
	for _, c := range cases {
		if got, ok := impl.Linked(c.a, c.b); ok != c.ok || !slices.Equal(got, c.want) || !ok && got != nil {
			t.Errorf("Linked(%v, %v) is %v, %t", c.a, c.b, got, ok)
		}
	}
}

// Every two lists of up to three of these numbers.
func TestLinkedOfPairs(t *testing.T) {
	var lists [][]int
	everyList([]int{-1, 0, 1, 2}, 3, func(list []int) { lists = append(lists, list) })
	for _, a := range lists {
		for _, b := range lists {
			var want []int
			fits := len(a) > 0 && len(b) > 0 && a[len(a)-1] == b[0]
			if fits {
				want = append(append(want, a[:len(a)-1]...), b...)
			}
			if got, ok := impl.Linked(a, b); ok != fits || !slices.Equal(got, want) {
				t.Fatalf("Linked(%v, %v) is %v, %t", a, b, got, ok)
			}
		}
	}
}

func TestLinkedDoesNotModifyOrShare(t *testing.T) {
	lists := [][]int{{}, {1}, {2}, {1, 2}, {2, 1}, {1, 3, 2}, {2, 3, 3, 1}}
	for _, first := range lists {
		for _, second := range lists {
			a, b := roomy(first, 1), roomy(second, 1)
			one, two := wholeOf(a), wholeOf(b)
			got, ok := impl.Linked(a, b)
			want := slices.Clone(got)
			again, _ := impl.Linked(a, b)
			spoil(got, -5)
			if !slices.Equal(again, want) {
				t.Errorf("two results of Linked(%v, %v) share memory", first, second)
			}
			if !slices.Equal(wholeOf(a), one) || !slices.Equal(wholeOf(b), two) {
				t.Errorf("Linked changed %v or %v, or what is behind it", first, second)
			}
			if plain, fits := impl.Linked(slices.Clone(first), slices.Clone(second)); fits != ok || !slices.Equal(plain, want) {
				t.Errorf("the spare capacity behind %v or %v counts", first, second)
			}
		}
	}
	// One list twice, and two lists that lie in one.
	loop := roomy([]int{4, 6, 4}, 9)
	if got, ok := impl.Linked(loop, loop); !ok || !slices.Equal(got, []int{4, 6, 4, 6, 4}) {
		t.Errorf("linked to itself, %v is %v", loop, got)
	}
	got, ok := impl.Linked(loop[:2], loop[1:])
	if spoil(got, -5); !ok || !slices.Equal(loop, []int{4, 6, 4}) {
		t.Errorf("linked from its parts, the list is %v", loop)
	}
}

func TestRoutesDoNotModifyOrShare(t *testing.T) {
	for _, plain := range append(allNets(), slowNet(), streetNet()) {
		n, unchanged := roomyNet(plain)
		for s := range min(len(n.Nodes), 21) {
			e := (s*7 + 3) % len(n.Nodes)
			best := impl.BestRoute(n, s, e)
			if !slices.Equal(best, impl.BestRoute(plain, s, e)) {
				t.Fatalf("the spare capacity behind %v counts", plain)
			}
			route := best
			if route == nil {
				route = []int{s}
			}
			r := roomy(route, 0)
			whole := wholeOf(r)
			ok, length, arcs := impl.RouteOk(n, r), impl.RouteLen(n, r), impl.RouteArcs(n, r)
			if ok != impl.NetOk(plain) || ok && length != impl.RouteLen(plain, slices.Clone(r)) {
				t.Fatalf("in %v the route %v has RouteOk %t and RouteLen %d", plain, r, ok, length)
			}
			spoil(best, -5)
			spoil(arcs, -5)
			if !slices.Equal(wholeOf(r), whole) {
				t.Fatalf("the route %v was changed", r)
			}
			if !slices.Equal(impl.BestRoute(n, s, e), impl.BestRoute(plain, s, e)) || !slices.Equal(impl.RouteArcs(n, r), impl.RouteArcs(plain, slices.Clone(r))) {
				t.Fatalf("the routes of %v are not the same in the second call", plain)
			}
		}
		if !unchanged() {
			t.Fatalf("%v was changed to %v", plain, n)
		}
	}
}

// Between the corners of a street grid all routes without a detour are of the same length and have equally many nodes.
func TestStreetGrid(t *testing.T) {
	n := streetNet()
	for _, c := range []struct {
		s, e int
		want []int
	}{
		{0, 19, []int{0, 1, 2, 3, 4, 9, 14, 19}},
		{19, 0, []int{19, 14, 9, 4, 3, 2, 1, 0}},
		{4, 15, []int{4, 3, 2, 1, 0, 5, 10, 15}},
		{15, 4, []int{15, 10, 5, 0, 1, 2, 3, 4}},
		{6, 13, []int{6, 7, 8, 13}},
		{13, 6, []int{13, 8, 7, 6}},
	} {
		t.Run(fmt.Sprint(c.s, " to ", c.e), func(t *testing.T) { sameRoute(t, n, c.s, c.e, c.want) })
	}
}
