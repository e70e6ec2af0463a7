package tests

import (
	"math"
	"slices"
	"testing"

	"loop.example/g00640/impl"
)

// unpackedBy follows the document step by step; nil stands for false.
func unpackedBy(h impl.Hier, u int, v int) []int {
	node := func(w int) bool { return w >= 0 && w < len(h.Rank) }
	at := slices.IndexFunc(h.Arcs, func(a impl.HArc) bool { return a.From == u && a.To == v })
	if at < 0 || !node(u) || !node(v) {
		return nil
	}
	via := h.Arcs[at].Via
	if via == -1 {
		return []int{u, v}
	}
	if !node(via) || h.Rank[via] >= h.Rank[u] || h.Rank[via] >= h.Rank[v] {
		return nil
	}
	one, two := unpackedBy(h, u, via), unpackedBy(h, via, v)
	if one == nil || two == nil || len(one)+len(two) > 2000 {
		return nil
	}
	return slices.Concat(one[:len(one)-1], two)
}

// stepBefore returns the smallest node from which an arc leads up to u on a shortest way, in the direction of the search.
func stepBefore(h impl.Hier, dists []int, u int, backwards bool) int {
	var list []int
	for _, a := range h.Arcs {
		low, high := a.From, a.To
		if backwards {
			low, high = high, low
		}
		if high == u && h.Rank[low] < h.Rank[u] && dists[low] != noRoute && dists[low]+a.Len == dists[u] {
			list = append(list, low)
		}
	}
	return slices.Min(list)
}

// stationsBy returns the nodes between the arcs of the hierarchy that a query uses, or nil if there is no way.
func stationsBy(h impl.Hier, s int, e int) []int {
	ups, downs := climbedBy(h, s, false), climbedBy(h, e, true)
	top, shortest := -1, 0
	for u := range min(len(ups), len(downs)) {
		if sum := ups[u] + downs[u]; ups[u] != noRoute && downs[u] != noRoute && (top == -1 || sum < shortest) {
			top, shortest = u, sum
		}
	}
	if top == -1 {
		return nil
	}
	list := []int{top}
	for list[0] != s {
		list = slices.Insert(list, 0, stepBefore(h, ups, list[0], false))
	}
	for list[len(list)-1] != e {
		list = append(list, stepBefore(h, downs, list[len(list)-1], true))
	}
	return list
}

// routeBy follows the document step by step; nil stands for false.
func routeBy(h impl.Hier, s int, e int) []int {
	stations := stationsBy(h, s, e)
	if stations == nil {
		return nil
	}
	route := []int{s}
	for i := range len(stations) - 1 {
		part := unpackedBy(h, stations[i], stations[i+1])
		if part == nil {
			return nil
		}
		route = append(route, part[1:]...)
	}
	return route
}

func bucketsBy(h impl.Hier, to []int) []impl.Bucket {
	if len(to) > 20 {
		return nil
	}
	var list []impl.Bucket
	for i, e := range to {
		downs := climbedBy(h, e, true)
		if downs == nil {
			return nil
		}
		for u, d := range downs {
			if d != noRoute {
				list = append(list, impl.Bucket{Node: u, To: i, Len: d})
			}
		}
	}
	return list
}

// climbsOf returns the distances of the nodes of a list, or nil if one of them is none.
func climbsOf(h impl.Hier, list []int, backwards bool) [][]int {
	climbs := [][]int{}
	for _, u := range list {
		dists := climbedBy(h, u, backwards)
		if dists == nil {
			return nil
		}
		climbs = append(climbs, dists)
	}
	return climbs
}

// lensBy returns the lists of a table.
func lensBy(h impl.Hier, from []int, to []int) [][]int {
	ups, downs := climbsOf(h, from, false), climbsOf(h, to, true)
	if len(from) > 20 || len(to) > 20 || ups == nil || downs == nil {
		return nil
	}
	var lists [][]int
	for i := range from {
		list := slices.Repeat([]int{noRoute}, len(to))
		for j := range to {
			for u := range h.Rank {
				if up, down := ups[i][u], downs[j][u]; up != noRoute && down != noRoute && (list[j] == noRoute || up+down < list[j]) {
					list[j] = up + down
				}
			}
		}
		lists = append(lists, list)
	}
	return lists
}

// sameUnpacked checks one arc; it is not unpacked if want is empty.
func sameUnpacked(t *testing.T, h impl.Hier, u int, v int, want []int) {
	t.Helper()
	if got, ok := impl.UnpackArc(h, u, v); !slices.Equal(got, want) || ok != (len(want) > 0) {
		t.Fatalf("UnpackArc(%v, %d, %d) is %v, %t, not %v", h, u, v, got, ok, want)
	}
}

// sameHierRoute checks one route; there is none if want is empty.
func sameHierRoute(t *testing.T, h impl.Hier, s int, e int, want []int) {
	t.Helper()
	if got, ok := impl.HierRoute(h, s, e); !slices.Equal(got, want) || ok != (len(want) > 0) {
		t.Fatalf("HierRoute(%v, %d, %d) is %v, %t, not %v", h, s, e, got, ok, want)
	}
}

func sameBuckets(t *testing.T, h impl.Hier, to []int, want []impl.Bucket) {
	t.Helper()
	if got := impl.Buckets(h, to); !slices.Equal(got, want) {
		t.Fatalf("Buckets(%v, %v) is %v, not %v", h, to, got, want)
	}
}

func sameRows(rows []impl.Row, lists [][]int) bool {
	return slices.EqualFunc(rows, lists, func(r impl.Row, list []int) bool { return slices.Equal(r.D, list) })
}

func sameTable(t *testing.T, h impl.Hier, from []int, to []int, want [][]int) {
	t.Helper()
	if got := impl.Table(h, from, to); !sameRows(got, want) {
		t.Fatalf("Table(%v, %v, %v) is %v, not %v", h, from, to, got, want)
	}
}

// numbersFor returns the nodes of a hierarchy and numbers that are none.
func numbersFor(h impl.Hier) []int { return append(outsiders(len(h.Rank)), upTo(len(h.Rank))...) }

// unpacksWell checks every arc and every route, also those of numbers that are no nodes.
func unpacksWell(t *testing.T, h impl.Hier) {
	t.Helper()
	for _, s := range numbersFor(h) {
		for _, e := range numbersFor(h) {
			sameUnpacked(t, h, s, e, unpackedBy(h, s, e))
			sameHierRoute(t, h, s, e, routeBy(h, s, e))
		}
	}
}

// tabulatesWell checks buckets and tables of lists of the nodes.
func tabulatesWell(t *testing.T, h impl.Hier, salt int) {
	t.Helper()
	nodes := upTo(len(h.Rank))
	for _, to := range [][]int{nil, nodes, downFrom(len(nodes)), append(shuffled(len(nodes), salt), nodes...), append(upTo(len(nodes)/2), nodes[:len(nodes)/3]...)} {
		sameBuckets(t, h, to, bucketsBy(h, to))
		for _, from := range [][]int{nodes, shuffled(len(nodes), salt+1)[:len(nodes)/2]} {
			sameTable(t, h, from, to, lensBy(h, from, to))
			sameTable(t, h, to, from, lensBy(h, to, from))
		}
	}
}

// routesWell checks that what a hierarchy returns, which is built from a network with that table of distances, is true of the network.
func routesWell(t *testing.T, n impl.Net, table [][]int, order []int) {
	t.Helper()
	h, ok := impl.Build(n, order)
	if !ok {
		t.Fatalf("there is no hierarchy for the order %v of %v", order, n)
	}
	for _, a := range h.Arcs {
		r, ok := impl.UnpackArc(h, a.From, a.To)
		if length, is := lenAlong(n, r); !ok || !is || length != a.Len || r[0] != a.From || r[len(r)-1] != a.To {
			t.Fatalf("for the order %v of %v the arc %v is %v, %t", order, n, a, r, ok)
		}
	}
	nodes := upTo(len(n.Nodes))
	if rows := impl.Table(h, nodes, nodes); !sameRows(rows, table) {
		t.Fatalf("for the order %v of %v the table is %v, not %v", order, n, rows, table)
	}
	for s := range nodes {
		for e := range nodes {
			r, ok := impl.HierRoute(h, s, e)
			length, is := lenAlong(n, r)
			if ok != (table[s][e] != noRoute) || ok && (!is || length != table[s][e] || length != impl.Query(h, s, e) || r[0] != s || r[len(r)-1] != e) || !ok && len(r) > 0 {
				t.Fatalf("for the order %v of %v the route from %d to %d is %v, %t", order, n, s, e, r, ok)
			}
		}
	}
}

func TestMaxWay(t *testing.T) {
	if impl.MaxWay != 2000 {
		t.Errorf("MaxWay is %d", impl.MaxWay)
	}
}

func TestUnpackArcExamples(t *testing.T) {
	pair := []impl.HArc{own(0, 1, 5), own(1, 2, 6)}
	with := func(arcs ...impl.HArc) []impl.HArc { return append(slices.Clone(pair), arcs...) }
	stage := []impl.HArc{own(0, 1, 10), own(0, 3, 15), own(1, 0, 10), own(1, 2, 10), harc(1, 3, 25, 0), own(2, 1, 10), harc(2, 3, 35, 1), own(3, 2, 15)}
	cases := []struct {
		name string
		rank []int
		arcs []impl.HArc
		u, v int
		want []int
	}{
		{"the example of the stage", upTo(4), stage, 2, 3, []int{2, 1, 0, 3}},
		{"the shortcut in it", upTo(4), stage, 1, 3, []int{1, 0, 3}},
		{"an arc that it does not have", upTo(4), stage, 3, 0, nil},
		{"an arc of the network, up", upTo(3), pair, 0, 1, []int{0, 1}},
		{"an arc of the network, down", downFrom(3), pair, 0, 1, []int{0, 1}},
		{"an arc of the network between equal ranks", []int{7, 7, 7}, pair, 1, 2, []int{1, 2}},
		{"only an arc back", upTo(3), pair, 1, 0, nil},
		{"no arc, although there is a route", upTo(3), pair, 0, 2, nil},
		{"no arcs", upTo(3), nil, 0, 2, nil},
		{"no arc from a node to itself", upTo(3), pair, 1, 1, nil},
		{"a shortcut", []int{1, 0, 2}, with(harc(0, 2, 11, 1)), 0, 2, []int{0, 1, 2}},
		{"a shortcut down", []int{2, 0, 1}, with(harc(0, 2, 11, 1)), 0, 2, []int{0, 1, 2}},
		{"a shortcut between equal ranks", []int{9, 0, 9}, with(harc(0, 2, 11, 1)), 0, 2, []int{0, 1, 2}},
		{"ranks below and above those of nodes", []int{math.MaxInt, math.MinInt, -1}, with(harc(0, 2, 11, 1)), 0, 2, []int{0, 1, 2}},
		{"arcs in no order", []int{1, 0, 2}, []impl.HArc{own(1, 2, 6), harc(0, 2, 11, 1), own(0, 1, 5)}, 0, 2, []int{0, 1, 2}},
		{"Len does not count", []int{1, 0, 2}, []impl.HArc{own(0, 1, 0), own(1, 2, -6), harc(0, 2, math.MinInt, 1)}, 0, 2, []int{0, 1, 2}},
		{"Len above MaxFar", []int{1, 0, 2}, []impl.HArc{own(0, 1, 1000001), own(1, 2, math.MaxInt), harc(0, 2, 7, 1)}, 0, 2, []int{0, 1, 2}},
		{"two levels in front", []int{2, 1, 0, 3}, []impl.HArc{own(0, 2, 1), own(2, 1, 1), harc(0, 1, 2, 2), own(1, 3, 1), harc(0, 3, 3, 1)}, 0, 3, []int{0, 2, 1, 3}},
		{"two levels behind", []int{2, 1, 0, 3}, []impl.HArc{own(0, 1, 1), own(1, 2, 1), own(2, 3, 1), harc(1, 3, 2, 2), harc(0, 3, 3, 1)}, 0, 3, []int{0, 1, 2, 3}},
		{"two levels in front and behind", []int{3, 0, 2, 1, 4}, []impl.HArc{own(0, 1, 1), own(1, 2, 1), harc(0, 2, 2, 1), own(2, 3, 1), own(3, 4, 1), harc(2, 4, 2, 3), harc(0, 4, 4, 2)}, 0, 4, []int{0, 1, 2, 3, 4}},
		{"three levels", []int{3, 0, 2, 1, 4}, []impl.HArc{own(0, 1, 1), own(1, 3, 1), harc(0, 3, 2, 1), own(3, 2, 1), harc(0, 2, 3, 3), own(2, 4, 1), harc(0, 4, 4, 2)}, 0, 4, []int{0, 1, 3, 2, 4}},
		{"the same node twice", []int{0, 1, 3, 2}, []impl.HArc{harc(2, 3, 9, 1), harc(2, 1, 9, 0), harc(1, 3, 9, 0), own(2, 0, 9), own(0, 1, 9), own(1, 0, 9), own(0, 3, 9)}, 2, 3, []int{2, 0, 1, 0, 3}},
		{"a loop of the network's kind", upTo(2), []impl.HArc{own(1, 1, 5)}, 1, 1, []int{1, 1}},
		{"a loop by a node", upTo(2), []impl.HArc{own(0, 1, 5), own(1, 0, 5), harc(1, 1, 10, 0)}, 1, 1, []int{1, 0, 1}},
		{"others that are not valid", []int{1, 0, 2}, with(harc(0, 2, 11, 1), own(9, 9, 9), harc(2, 0, 0, -7), harc(2, 1, 5, 99)), 0, 2, []int{0, 1, 2}},
		{"the first part is missing", []int{1, 0, 2}, []impl.HArc{own(1, 2, 6), harc(0, 2, 11, 1)}, 0, 2, nil},
		{"the second part is missing", []int{1, 0, 2}, []impl.HArc{own(0, 1, 5), harc(0, 2, 11, 1)}, 0, 2, nil},
		{"there are only arcs back", []int{1, 0, 2}, []impl.HArc{own(1, 0, 5), own(2, 1, 6), harc(0, 2, 11, 1)}, 0, 2, nil},
		{"a part of the first part is missing", []int{2, 1, 0, 3}, []impl.HArc{own(0, 2, 1), harc(0, 1, 2, 2), own(1, 3, 1), harc(0, 3, 3, 1)}, 0, 3, nil},
		{"the last part of the second part is missing", []int{2, 1, 0, 3}, []impl.HArc{own(0, 1, 1), own(1, 2, 1), harc(1, 3, 2, 2), harc(0, 3, 3, 1)}, 0, 3, nil},
		{"the first one is of the network", []int{1, 0, 2}, []impl.HArc{own(0, 1, 5), own(0, 2, 20), harc(0, 2, 11, 1), own(1, 2, 6)}, 0, 2, []int{0, 2}},
		{"the first one is a shortcut", []int{1, 0, 2}, []impl.HArc{own(0, 1, 5), harc(0, 2, 20, 1), own(0, 2, 11), own(1, 2, 6)}, 0, 2, []int{0, 1, 2}},
		{"the first one, not next to the other", []int{1, 0, 2}, []impl.HArc{harc(0, 2, 20, 1), own(0, 1, 5), own(1, 2, 6), own(0, 2, 11)}, 0, 2, []int{0, 1, 2}},
		{"the first of three", []int{1, 0, 2, 0}, []impl.HArc{harc(0, 2, 20, 3), own(0, 3, 5), own(0, 2, 1), own(3, 2, 6), harc(0, 2, 11, 1), own(0, 1, 5), own(1, 2, 6)}, 0, 2, []int{0, 3, 2}},
		{"the first one is not valid, the other one is", []int{1, 0, 2}, []impl.HArc{harc(0, 2, 11, -2), own(0, 2, 11)}, 0, 2, nil},
		{"the first one cannot be unpacked, the other one can", []int{1, 0, 2}, []impl.HArc{harc(0, 2, 11, 1), own(0, 2, 11)}, 0, 2, nil},
		{"a part has a first one", []int{2, 1, 0, 3}, []impl.HArc{own(0, 2, 1), own(2, 1, 1), harc(0, 1, 2, 2), own(0, 1, 1), own(1, 3, 1), harc(0, 3, 3, 1)}, 0, 3, []int{0, 2, 1, 3}},
		{"a part has a first one that is not valid", []int{2, 1, 0, 3}, []impl.HArc{own(0, 2, 1), own(2, 1, 1), harc(0, 1, 2, 9), own(0, 1, 1), own(1, 3, 1), harc(0, 3, 3, 1)}, 0, 3, nil},
		{"no ranks", nil, pair, 0, 1, nil},
		{"no ranks and no arcs", nil, nil, 0, 0, nil},
		{"From is the number of ranks", []int{0, 1}, []impl.HArc{own(2, 1, 5)}, 2, 1, nil},
		{"From is the last node", []int{0, 1}, []impl.HArc{own(1, 0, 5)}, 1, 0, []int{1, 0}},
		{"From is negative", []int{0, 1}, []impl.HArc{own(-1, 1, 5)}, -1, 1, nil},
		{"From is the smallest number", []int{0, 1}, []impl.HArc{own(math.MinInt, 1, 5)}, math.MinInt, 1, nil},
		{"To is the number of ranks", []int{0, 1}, []impl.HArc{own(1, 2, 5)}, 1, 2, nil},
		{"To is negative", []int{0, 1}, []impl.HArc{own(1, -1, 5)}, 1, -1, nil},
		{"To is the greatest number", []int{0, 1}, []impl.HArc{own(1, math.MaxInt, 5)}, 1, math.MaxInt, nil},
		{"neither end is a node", []int{0, 1}, []impl.HArc{own(7, 8, 5)}, 7, 8, nil},
		{"the From of a shortcut is no node", []int{1, 0}, []impl.HArc{harc(2, 0, 5, 1), own(2, 1, 5), own(1, 0, 5)}, 2, 0, nil},
		{"the To of a shortcut is no node", []int{1, 0}, []impl.HArc{harc(0, 2, 5, 1), own(0, 1, 5), own(1, 2, 5)}, 0, 2, nil},
		{"Via -2", []int{1, 0, 2}, with(harc(0, 2, 11, -2), own(0, -2, 1), own(-2, 2, 1)), 0, 2, nil},
		{"the smallest Via", []int{1, 0, 2}, with(harc(0, 2, 11, math.MinInt)), 0, 2, nil},
		{"Via is the number of ranks", []int{1, 0, 2}, with(harc(0, 2, 11, 3), own(0, 3, 1), own(3, 2, 1)), 0, 2, nil},
		{"the greatest Via", []int{1, 0, 2}, with(harc(0, 2, 11, math.MaxInt)), 0, 2, nil},
		{"Via is From", []int{1, 0, 2}, with(harc(0, 2, 11, 0), own(0, 0, 1)), 0, 2, nil},
		{"Via is To", []int{1, 0, 2}, with(harc(0, 2, 11, 2), own(2, 2, 1)), 0, 2, nil},
		{"Via is From with the smallest rank", []int{0, 1, 2}, with(harc(0, 2, 11, 0), own(0, 0, 1)), 0, 2, nil},
		{"Via is To with the smallest rank", []int{1, 2, 0}, with(harc(0, 2, 11, 2), own(2, 2, 1)), 0, 2, nil},
		{"Via has the rank of From", []int{1, 1, 2}, with(harc(0, 2, 11, 1)), 0, 2, nil},
		{"Via has the rank of To", []int{2, 1, 1}, with(harc(0, 2, 11, 1)), 0, 2, nil},
		{"Via has the rank of both", []int{1, 1, 1}, with(harc(0, 2, 11, 1)), 0, 2, nil},
		{"Via is above From", []int{0, 1, 2}, with(harc(0, 2, 11, 1)), 0, 2, nil},
		{"Via is above To", []int{2, 1, 0}, with(harc(0, 2, 11, 1)), 0, 2, nil},
		{"Via is above both", []int{0, 2, 1}, with(harc(0, 2, 11, 1)), 0, 2, nil},
		{"Via is one below both", []int{1, 0, 1}, with(harc(0, 2, 11, 1)), 0, 2, []int{0, 1, 2}},
		{"a part with Via -2", []int{2, 1, 0, 3}, []impl.HArc{own(0, 2, 1), own(2, 1, 1), harc(0, 1, 2, -2), own(1, 3, 1), harc(0, 3, 3, 1)}, 0, 3, nil},
		{"a part past a node that is below both ends of the whole only", []int{3, 1, 2, 3}, []impl.HArc{own(0, 2, 1), own(2, 1, 1), harc(0, 1, 2, 2), own(1, 3, 1), harc(0, 3, 3, 1)}, 0, 3, nil},
		{"a cycle of two", upTo(3), []impl.HArc{harc(0, 2, 5, 1), harc(0, 1, 5, 2), harc(1, 2, 5, 0)}, 0, 2, nil},
		{"a cycle of the arc itself", []int{0, 0}, []impl.HArc{harc(0, 0, 5, 0), harc(0, 1, 5, 1), harc(1, 1, 5, 1)}, 0, 0, nil},
		{"a cycle between equal ranks", []int{0, 0, 0}, []impl.HArc{harc(0, 2, 5, 1), harc(0, 1, 5, 2), harc(1, 2, 5, 0)}, 0, 2, nil},
		{"a cycle behind parts that are valid", []int{3, 2, 1, 0}, []impl.HArc{harc(0, 1, 5, 2), harc(0, 2, 5, 3), own(0, 3, 1), own(3, 2, 1), harc(2, 1, 5, 0)}, 0, 1, nil},
	}
	for _, c := range cases {
		t.Run(c.name, func(t *testing.T) {
			h := hierOf(c.rank, c.arcs...)
			sameUnpacked(t, h, c.u, c.v, c.want)
			for _, u := range numbersFor(h) {
				for _, v := range numbersFor(h) {
					sameUnpacked(t, h, u, v, unpackedBy(h, u, v))
				}
			}
		})
	}
}

// combHier has an arc from 0 to each further node, and one from each further node to the next one. The arcs from 0 lead past the node before, so that the route to a node passes all before it.
func combHier(last int) impl.Hier {
	h := hierOf(upTo(last+1), own(0, 1, 1))
	h.Rank[0] = last + 1
	for u := 1; u < last; u++ {
		h.Arcs = append(h.Arcs, own(u, u+1, 1), harc(0, u+1, u+1, u))
	}
	return h
}

// turnedHier has every arc reversed.
func turnedHier(h impl.Hier) impl.Hier {
	turned := copyOf(h)
	for i, a := range h.Arcs {
		turned.Arcs[i].From, turned.Arcs[i].To = a.To, a.From
	}
	return turned
}

func turnedRoute(r []int) []int {
	turned := slices.Clone(r)
	slices.Reverse(turned)
	return turned
}

// Two routes are linked that have two nodes more than the last one has numbers before it.
func TestLongestRoutesOfTwoNodesAtTheEnd(t *testing.T) {
	for _, last := range []int{1, 2, 3, 998, 1000, 1997, 1998, 1999, 2000, 2001, 30000} {
		var want []int
		if last <= 1998 {
			want = upTo(last + 1)
		}
		h := combHier(last)
		sameUnpacked(t, h, 0, last, want)
		sameUnpacked(t, turnedHier(h), last, 0, turnedRoute(want))
		// Further arcs do not count.
		if last > 1998 {
			sameUnpacked(t, h, 0, 1998, upTo(1999))
		}
	}
}

// joinedHier has two routes of these numbers of nodes, which the arc from the first to the last node links at the node first - 1.
func joinedHier(first int, second int) impl.Hier {
	mid, last := first-1, first+second-2
	h := hierOf(upTo(last + 1))
	h.Rank[0], h.Rank[mid], h.Rank[last] = last+2, last+1, last+2
	for u := 1; u < first; u++ {
		h.Arcs = append(h.Arcs, own(u-1, u, 1))
		if u > 1 {
			h.Arcs = append(h.Arcs, harc(0, u, u, u-1))
		}
	}
	// The second route is put together from its end.
	for u := last - 1; u >= mid; u-- {
		h.Arcs = append(h.Arcs, own(u, u+1, 1))
		if u < last-1 {
			h.Rank[u+1] = last - u - 1
			h.Arcs = append(h.Arcs, harc(u, last, last-u, u+1))
		}
	}
	h.Arcs = append(h.Arcs, harc(0, last, last, mid))
	return h
}

func TestLongestRoutesOfTwoParts(t *testing.T) {
	for _, c := range []struct {
		first, second int
		linked        bool
	}{{2, 2, true}, {3, 2, true}, {5, 7, true}, {1000, 999, true}, {1000, 1000, true}, {1000, 1001, false}, {1001, 1000, false}, {1001, 999, true}, {1500, 500, true}, {1500, 501, false}, {500, 1501, false}, {1998, 2, true}, {2, 1998, true}, {1999, 2, false}, {2, 1999, false}, {1999, 1999, false}, {3, 1997, true}, {3, 1998, false}} {
		h := joinedHier(c.first, c.second)
		mid, last := c.first-1, c.first+c.second-2
		var want []int
		if c.linked {
			want = upTo(last + 1)
		}
		sameUnpacked(t, h, 0, last, want)
		sameUnpacked(t, turnedHier(h), last, 0, turnedRoute(want))
		sameUnpacked(t, h, 0, mid, upTo(c.first))
		sameUnpacked(t, h, mid, last, upTo(last + 1)[mid:])
		// In one more arc this arc is linked with a single one.
		h.Rank = append(h.Rank, last+3)
		h.Rank[0], h.Rank[last] = last+3, last+2
		h.Arcs = append(h.Arcs, own(last, last+1, 1), harc(0, last+1, last+1, last))
		if len(want)+2 > 2000 {
			sameUnpacked(t, h, 0, last+1, nil)
		} else if c.linked {
			sameUnpacked(t, h, 0, last+1, upTo(last+2))
		}
	}
}

// doubledHier has an arc between every two nodes, past the node before the smaller one. So the routes become twice as long from node to node.
func doubledHier(nodes int) impl.Hier {
	h := hierOf(upTo(nodes))
	for _, pair := range pairsOf(nodes) {
		h.Arcs = append(h.Arcs, harc(pair.From, pair.To, 1, min(pair.From, pair.To)-1))
	}
	return h
}

// A route of a great many nodes is not made.
func TestRoutesThatDouble(t *testing.T) {
	h := doubledHier(60)
	for u := range 59 {
		r, ok := impl.UnpackArc(h, u, u+1)
		if ok != (u <= 10) || ok && len(r) != 1<<u+1 || !ok && len(r) > 0 {
			t.Fatalf("the arc from %d to %d is %v, %t", u, u+1, r, ok)
		}
		if u <= 10 {
			sameUnpacked(t, h, u, u+1, unpackedBy(h, u, u+1))
			sameUnpacked(t, h, u+1, u, unpackedBy(h, u+1, u))
			sameUnpacked(t, h, u, 59, unpackedBy(h, u, 59))
		}
	}
	if r, ok := impl.HierRoute(h, 58, 59); ok || len(r) > 0 {
		t.Errorf("the route is %v, %t", r, ok)
	}
}

func TestHierRouteExamples(t *testing.T) {
	stage := hierOf(upTo(4), own(0, 1, 10), own(0, 3, 15), own(1, 0, 10), own(1, 2, 10), harc(1, 3, 25, 0), own(2, 1, 10), harc(2, 3, 35, 1), own(3, 2, 15))
	diamond := []impl.HArc{own(0, 1, 5), own(0, 2, 5), own(1, 3, 5), own(2, 3, 5)}
	// Two ways from 0 to 5: of those of the same length, a search from the end decides at 3 and 4, one from the start at 1 and 2.
	crossed := []impl.HArc{own(0, 1, 1), own(0, 2, 1), own(1, 4, 1), own(2, 3, 1), own(3, 5, 1), own(4, 5, 1)}
	cases := []struct {
		name string
		h    impl.Hier
		s, e int
		want []int
	}{
		{"the example of the stage", stage, 3, 0, []int{3, 2, 1, 0}},
		{"a shortcut of shortcuts", stage, 2, 3, []int{2, 1, 0, 3}},
		{"the same node", hierOf(upTo(2), own(0, 1, 5), own(1, 0, 6)), 0, 0, []int{0}},
		{"the same node, the one with the greatest rank", hierOf(upTo(2), own(0, 1, 5), own(1, 0, 6)), 1, 1, []int{1}},
		{"the same node without arcs", hierOf(upTo(2)), 1, 1, []int{1}},
		{"the only node", hierOf([]int{0}), 0, 0, []int{0}},
		{"the same node with a loop", hierOf([]int{0}, own(0, 0, 1)), 0, 0, []int{0}},
		{"no node", hierOf([]int{0}), 1, 1, nil},
		{"a negative number", hierOf([]int{0}), -1, -1, nil},
		{"no nodes", impl.Hier{}, 0, 0, nil},
		{"the start is no node", hierOf(upTo(2), own(0, 1, 5), own(1, 0, 6)), 2, 1, nil},
		{"the goal is no node", hierOf(upTo(2), own(0, 1, 5), own(1, 0, 6)), 1, 2, nil},
		{"up only: they meet at the goal", hierOf(upTo(3), own(0, 1, 5), own(1, 2, 5)), 0, 2, []int{0, 1, 2}},
		{"down only: they meet at the start", hierOf(upTo(3), own(1, 0, 5), own(2, 1, 5)), 2, 0, []int{2, 1, 0}},
		{"up and down", hierOf([]int{0, 2, 1}, own(0, 1, 5), own(1, 2, 6)), 0, 2, []int{0, 1, 2}},
		{"several arcs up and down", hierOf([]int{0, 2, 4, 3, 1}, own(0, 1, 5), own(1, 2, 6), own(2, 3, 7), own(3, 4, 8)), 0, 4, upTo(5)},
		{"shortcuts up and down", hierOf([]int{2, 0, 4, 1, 3}, own(0, 1, 5), harc(0, 2, 11, 1), own(1, 2, 6), own(2, 3, 7), harc(2, 4, 15, 3), own(3, 4, 8)), 0, 4, upTo(5)},
		{"down and up, without a shortcut", hierOf([]int{1, 0, 2}, own(0, 1, 5), own(1, 2, 6)), 0, 2, nil},
		{"down and up, with a shortcut", hierOf([]int{1, 0, 2}, own(0, 1, 5), harc(0, 2, 11, 1), own(1, 2, 6)), 0, 2, []int{0, 1, 2}},
		{"against an arc", hierOf(upTo(2), own(0, 1, 5)), 1, 0, nil},
		{"they meet nowhere", hierOf(upTo(4), own(0, 2, 5), own(3, 1, 5)), 0, 1, nil},
		{"one long arc is shorter", hierOf(upTo(3), own(0, 1, 5), own(0, 2, 10), own(1, 2, 6)), 0, 2, []int{0, 2}},
		{"several arcs are shorter", hierOf(upTo(3), own(0, 1, 5), own(0, 2, 12), own(1, 2, 6)), 0, 2, upTo(3)},
		{"the smaller of two tops, the lower one", hierOf([]int{0, 2, 3, 1}, diamond...), 0, 3, []int{0, 1, 3}},
		{"the smaller of two tops, the higher one", hierOf([]int{0, 3, 2, 1}, diamond...), 0, 3, []int{0, 1, 3}},
		{"the greater of two tops is nearer", hierOf([]int{0, 2, 3, 1}, own(0, 1, 5), own(0, 2, 5), own(1, 3, 5), own(2, 3, 4)), 0, 3, []int{0, 2, 3}},
		{"tops in another order than the arcs", hierOf([]int{0, 2, 3, 1}, diamond[3], diamond[2], diamond[1], diamond[0]), 0, 3, []int{0, 1, 3}},
		{"three tops, one of them too far", hierOf([]int{0, 9, 3, 4, 1}, own(0, 1, 1), own(0, 2, 2), own(0, 3, 3), own(1, 4, 10), own(2, 4, 3), own(3, 4, 2)), 0, 4, []int{0, 2, 4}},
		{"the goal is a top, too, and smaller", hierOf([]int{3, 0, 4}, own(1, 0, 8), own(1, 2, 4), own(2, 0, 4)), 1, 0, []int{1, 0}},
		{"the goal is a top, too, and greater", hierOf([]int{4, 0, 3}, own(1, 0, 4), own(1, 2, 8), own(0, 2, 4)), 1, 2, []int{1, 0, 2}},
		{"the start is a top, too, and smaller", hierOf([]int{3, 0, 4}, own(0, 1, 8), own(0, 2, 4), own(2, 1, 4)), 0, 1, []int{0, 1}},
		{"the start is a top, too, and greater", hierOf([]int{4, 0, 3}, own(2, 1, 8), own(2, 0, 4), own(0, 1, 4)), 2, 1, []int{2, 0, 1}},
		{"two predecessors", hierOf(upTo(4), diamond...), 0, 3, []int{0, 1, 3}},
		{"two predecessors, the smaller one with the greater rank", hierOf([]int{0, 2, 1, 3}, diamond...), 0, 3, []int{0, 1, 3}},
		{"two predecessors in another order than the arcs", hierOf(upTo(4), diamond[3], diamond[2], diamond[1], diamond[0]), 0, 3, []int{0, 1, 3}},
		{"two predecessors, of which the smaller one is farther", hierOf(upTo(4), own(0, 1, 6), own(0, 2, 5), own(1, 3, 4), own(2, 3, 5)), 0, 3, []int{0, 1, 3}},
		{"two predecessors, of which the smaller one is too far", hierOf(upTo(4), own(0, 1, 6), own(0, 2, 5), own(1, 3, 5), own(2, 3, 5)), 0, 3, []int{0, 2, 3}},
		{"two predecessors, of which one is the start", hierOf(upTo(3), own(0, 1, 5), own(0, 2, 11), own(1, 2, 6)), 0, 2, []int{0, 2}},
		{"two predecessors, of which the greater one is the start", hierOf([]int{1, 2, 0}, own(2, 0, 5), own(2, 1, 11), own(0, 1, 6)), 2, 1, []int{2, 0, 1}},
		{"three predecessors", hierOf([]int{3, 2, 1, 0, 4}, own(3, 0, 5), own(3, 1, 5), own(3, 2, 5), own(0, 4, 6), own(1, 4, 5), own(2, 4, 5)), 3, 4, []int{3, 1, 4}},
		{"predecessors are found backwards", hierOf(upTo(6), crossed...), 0, 5, []int{0, 2, 3, 5}},
		{"two successors", turnedHier(hierOf(upTo(4), diamond...)), 3, 0, []int{3, 1, 0}},
		{"two successors, the smaller one with the greater rank", turnedHier(hierOf([]int{0, 2, 1, 3}, diamond...)), 3, 0, []int{3, 1, 0}},
		{"two successors, of which the smaller one is farther", turnedHier(hierOf(upTo(4), own(0, 1, 6), own(0, 2, 5), own(1, 3, 4), own(2, 3, 5))), 3, 0, []int{3, 1, 0}},
		{"two successors, of which the smaller one is too far", turnedHier(hierOf(upTo(4), own(0, 1, 6), own(0, 2, 5), own(1, 3, 5), own(2, 3, 5))), 3, 0, []int{3, 2, 0}},
		{"two successors, of which the greater one is the goal", turnedHier(hierOf([]int{1, 2, 0}, own(2, 0, 5), own(2, 1, 11), own(0, 1, 6))), 1, 2, []int{1, 0, 2}},
		{"successors are found forwards", turnedHier(hierOf(upTo(6), crossed...)), 5, 0, []int{5, 3, 2, 0}},
		{"successors are found forwards, not backwards", hierOf(downFrom(6), crossed...), 0, 5, []int{0, 1, 4, 5}},
		{"predecessors are found backwards, not forwards", turnedHier(hierOf(downFrom(6), crossed...)), 5, 0, []int{5, 4, 1, 0}},
		{"a node that is not reached would fit as predecessor", hierOf([]int{1, 0, 2}, own(0, 2, 6), own(1, 2, 5)), 1, 2, []int{1, 2}},
		{"a node that is not reached would fit as successor", hierOf([]int{1, 0, 2}, own(2, 0, 6), own(2, 1, 5)), 2, 1, []int{2, 1}},
		{"a node that is not reached would fit as top", hierOf([]int{2, 0, 1}, own(0, 2, 6), own(1, 2, 5)), 1, 2, []int{1, 2}},
		{"a node of greater rank would fit as predecessor", hierOf([]int{2, 3, 1, 0}, own(3, 1, 2), own(3, 2, 4), own(1, 0, 5), own(2, 0, 3)), 3, 0, []int{3, 2, 0}},
		{"a node of greater rank would fit as successor", turnedHier(hierOf([]int{2, 3, 1, 0}, own(3, 1, 2), own(3, 2, 4), own(1, 0, 5), own(2, 0, 3))), 0, 3, []int{0, 2, 3}},
		{"a node of the same rank would fit as predecessor", hierOf([]int{2, 0, 1, 2}, own(1, 0, 4), own(1, 2, 4), own(0, 3, 3), own(2, 3, 3)), 1, 3, []int{1, 2, 3}},
		{"a node of the same rank would fit as successor", turnedHier(hierOf([]int{2, 0, 1, 2}, own(1, 0, 4), own(1, 2, 4), own(0, 3, 3), own(2, 3, 3))), 3, 1, []int{3, 2, 1}},
		{"a shortcut on the way cannot be unpacked", hierOf([]int{1, 0, 2}, own(0, 1, 5), harc(0, 2, 11, 1)), 0, 2, nil},
		{"a shortcut on the way down cannot be unpacked", hierOf([]int{1, 0, 2}, own(2, 1, 5), harc(2, 0, 11, 1)), 2, 0, nil},
		{"the second of three arcs cannot be unpacked", hierOf([]int{1, 2, 3, 4, 0}, own(0, 1, 5), harc(1, 2, 5, 4), own(2, 3, 5)), 0, 3, nil},
		{"a shortcut past a node above", hierOf(upTo(3), own(0, 1, 5), harc(0, 2, 6, 1), own(1, 2, 6)), 0, 2, nil},
		{"a shortcut beside the way cannot be unpacked", hierOf([]int{1, 0, 2}, own(0, 1, 5), own(0, 2, 11), harc(2, 0, 11, 1), harc(1, 2, 5, 9)), 0, 2, []int{0, 2}},
		{"a shortcut that is too long does not matter", hierOf([]int{1, 0, 2, 3}, harc(0, 3, 30, 1), own(0, 2, 11), own(2, 3, 11)), 0, 3, []int{0, 2, 3}},
		{"the smaller top cannot be unpacked, the greater one could", hierOf([]int{1, 3, 4, 2, 0}, harc(0, 1, 5, 4), own(0, 2, 5), own(1, 3, 5), own(2, 3, 5)), 0, 3, nil},
		{"the greater top cannot be unpacked", hierOf([]int{1, 3, 4, 2, 0}, own(0, 1, 5), harc(0, 2, 5, 4), own(1, 3, 5), own(2, 3, 5)), 0, 3, []int{0, 1, 3}},
		{"the smaller predecessor cannot be unpacked", hierOf([]int{1, 2, 3, 4, 0}, own(0, 1, 5), own(0, 2, 5), harc(1, 3, 5, 4), own(2, 3, 5)), 0, 3, nil},
		{"the shorter of several arcs counts, the first one is unpacked", hierOf([]int{1, 0, 2}, own(0, 1, 5), harc(0, 2, 20, 1), own(0, 2, 3), own(1, 2, 6)), 0, 2, []int{0, 1, 2}},
		{"the first of several arcs cannot be unpacked", hierOf([]int{1, 0, 2}, harc(0, 2, 20, 1), own(0, 2, 3)), 0, 2, nil},
		{"ranks twice", hierOf([]int{4, 4, 5}, own(0, 2, 5), own(2, 1, 6)), 0, 1, []int{0, 2, 1}},
		{"ranks below and above those of nodes", hierOf([]int{math.MinInt, 99, math.MaxInt, -5}, own(0, 1, 5), own(1, 2, 6), own(2, 3, 7)), 0, 3, upTo(4)},
		{"a sum that is not that of the parts", hierOf([]int{1, 0, 2}, own(0, 1, 5), harc(0, 2, 3, 1), own(1, 2, 6)), 0, 2, upTo(3)},
		{"the longest arcs", hierOf([]int{0, 2, 1}, own(0, 1, 1000000), own(1, 2, 1000000)), 0, 2, upTo(3)},
		{"an arc that is too long, unused", hierOf(upTo(3), own(0, 1, 5), own(1, 2, 1000001)), 0, 1, nil},
		{"an arc without length, unused", hierOf(upTo(3), own(0, 1, 5), own(2, 1, 0)), 0, 1, nil},
		{"an arc from no node, unused", hierOf(upTo(3), own(0, 1, 5), own(3, 1, 5)), 0, 1, nil},
		{"an arc to no node, even for the same node", hierOf(upTo(3), own(0, 1, 5), own(1, -1, 5)), 0, 0, nil},
	}
	for _, c := range cases {
		t.Run(c.name, func(t *testing.T) {
			sameHierRoute(t, c.h, c.s, c.e, c.want)
			unpacksWell(t, c.h)
		})
	}
}

// MaxWay limits the routes of the arcs, but not the route of them all.
func TestRoutesOfLongParts(t *testing.T) {
	for _, last := range []int{10, 1998, 1999} {
		h := combHier(last)
		h.Rank[last] = last + 2
		// The long arc is the only shortest way up.
		h.Arcs[len(h.Arcs)-1].Len = 1
		up := slices.Clone(h.Arcs)
		for u := last - 1; u >= 0; u-- {
			h.Rank = append(h.Rank, h.Rank[u])
		}
		// The way down has the same arcs, mirrored at the node last.
		for _, a := range up {
			via := a.Via
			if via != -1 {
				via = 2*last - via
			}
			h.Arcs = append(h.Arcs, harc(2*last-a.To, 2*last-a.From, a.Len, via))
		}
		var want []int
		if last <= 1998 {
			want = upTo(2*last + 1)
		}
		sameHierRoute(t, h, 0, 2*last, want)
		if got := impl.Query(h, 0, 2*last); got != 2 {
			t.Fatalf("the query is %d", got)
		}
	}
}

// Every order of every network of at most three nodes, with several lengths, and of some of four nodes.
func TestRoutesOfSmallNetworks(t *testing.T) {
	check := func(n impl.Net) {
		table := tableOf(n)
		visitOrders(len(n.Nodes), func(order []int) { routesWell(t, n, table, order) })
	}
	for nodes := range 3 {
		visitLenNets(nodes, []int{0, 1, 2, 3}, check)
	}
	visitLenNets(3, []int{0, 1, 2}, check)
	for _, lens := range [][]int{{0, 1}, {0, 1, 2}, {0, 1, 3}, {0, 5000, 10000}} {
		count := 0
		visitLenNets(4, lens, func(n impl.Net) {
			// Numbers that are no divisors of how many there are.
			if count++; count%23 == 0 && len(lens) == 2 || count%3067 == 0 {
				check(n)
			}
		})
	}
	for salt := range 4 {
		check(mixedNet(5, 9, 2, salt))
		check(mixedNet(5, 14, 3, salt))
	}
	check(chainNet([]int{0, 3, 1, 4, 2}, 5))
	check(ringNet(5, 2))
}

func TestRoutesOfNetworks(t *testing.T) {
	for salt, n := range contractNets() {
		orders := [][]int{upTo(len(n.Nodes)), shuffled(len(n.Nodes), salt), impl.OrderOf(n)}
		// Each network with one of them, most often; OrderOf finds none if there is no room.
		if order := orders[salt%3]; len(order) == len(n.Nodes) {
			routesWell(t, n, tableOf(n), order)
		}
	}
}

// Of several routes of the same length the one that the document describes is returned.
func TestRoutesAsDescribed(t *testing.T) {
	for salt := range 6 {
		for _, n := range []impl.Net{mixedNet(4, 8, 2, salt), mixedNet(6, 16, 2, salt), mixedNet(8, 30, 3, salt), ringNet(6, 1), starNet(5, 2), roughNet(12, 60, 5, 2, salt)} {
			h, _ := impl.Build(n, shuffled(len(n.Nodes), salt))
			unpacksWell(t, h)
			tabulatesWell(t, h, salt)
		}
	}
	for salt, n := range tiedNets() {
		h, _ := impl.Build(n, shuffled(len(n.Nodes), salt))
		unpacksWell(t, h)
		tabulatesWell(t, h, salt)
	}
}

// foldedHier has, in no order, an arc between almost every two of a few nodes, also from a node to itself, and some of them twice. Some lead past a node that has no smaller rank or is none at all.
func foldedHier(nodes int, salt int) impl.Hier {
	pick := shuffled(4000, 1000*nodes+salt)
	next := func(below int) int {
		x := pick[0]
		pick = pick[1:]
		return x % below
	}
	h := impl.Hier{}
	for range nodes {
		h.Rank = append(h.Rank, next(2*nodes)-1)
	}
	for range nodes * nodes * 2 {
		u, v, via := next(nodes), next(nodes), next(nodes+3)-2
		if next(4) > 0 {
			below := slices.DeleteFunc(upTo(nodes), func(w int) bool { return h.Rank[w] >= min(h.Rank[u], h.Rank[v]) })
			below = append(below, -1)
			via = below[next(len(below))]
		}
		h.Arcs = append(h.Arcs, harc(u, v, 1+next(4), via))
	}
	return h
}

// Hierarchies with ranks twice or out of range, with arcs twice and in no order, and with cycles of Via.
func TestHierarchiesThatAreNotValid(t *testing.T) {
	shortcuts, failures, longest := 0, 0, 0
	for salt := range 150 {
		for nodes := 1; nodes <= 7; nodes++ {
			h := foldedHier(nodes, salt)
			unpacksWell(t, h)
			for _, a := range h.Arcs {
				r, ok := impl.UnpackArc(h, a.From, a.To)
				if longest = max(longest, len(r)); len(r) > 2 {
					shortcuts++
				} else if !ok {
					failures++
				}
			}
			if salt < 30 {
				tabulatesWell(t, h, salt)
			}
		}
	}
	if shortcuts < 2000 || failures < 2000 || longest < 6 {
		t.Errorf("there are %d shortcuts and %d failures, and the longest route has %d nodes", shortcuts, failures, longest)
	}
	for salt := range 40 {
		for _, nodes := range []int{2, 3, 5, 8} {
			h := roughHier(nodes, 4*nodes, salt)
			unpacksWell(t, h)
			tabulatesWell(t, h, salt)
		}
	}
}

func bucket(node int, to int, length int) impl.Bucket {
	return impl.Bucket{Node: node, To: to, Len: length}
}

func TestBucketsExamples(t *testing.T) {
	stage := hierOf(upTo(4), own(0, 1, 10), own(0, 3, 15), own(1, 0, 10), own(1, 2, 10), harc(1, 3, 25, 0), own(2, 1, 10), harc(2, 3, 35, 1), own(3, 2, 15))
	line := hierOf(upTo(3), own(1, 0, 5), own(2, 1, 6), own(0, 1, 3))
	cases := []struct {
		name string
		h    impl.Hier
		to   []int
		want []impl.Bucket
	}{
		{"the example of the stage", stage, []int{0}, []impl.Bucket{bucket(0, 0, 0), bucket(1, 0, 10), bucket(2, 0, 20), bucket(3, 0, 35)}},
		{"no nodes", line, nil, nil},
		{"no nodes, an empty list", line, []int{}, nil},
		{"no nodes of an empty hierarchy", impl.Hier{}, nil, nil},
		{"one node that others reach", line, []int{0}, []impl.Bucket{bucket(0, 0, 0), bucket(1, 0, 5), bucket(2, 0, 11)}},
		{"a node that nothing but itself reaches", line, []int{2}, []impl.Bucket{bucket(2, 0, 0)}},
		{"a node without arcs", hierOf([]int{3, 5}), []int{1}, []impl.Bucket{bucket(1, 0, 0)}},
		{"two nodes", line, []int{0, 1}, []impl.Bucket{bucket(0, 0, 0), bucket(1, 0, 5), bucket(2, 0, 11), bucket(1, 1, 0), bucket(2, 1, 6)}},
		{"two nodes, the greater one first", line, []int{1, 0}, []impl.Bucket{bucket(1, 0, 0), bucket(2, 0, 6), bucket(0, 1, 0), bucket(1, 1, 5), bucket(2, 1, 11)}},
		{"a node twice", line, []int{1, 1}, []impl.Bucket{bucket(1, 0, 0), bucket(2, 0, 6), bucket(1, 1, 0), bucket(2, 1, 6)}},
		{"a node twice, another one in between", line, []int{1, 2, 1}, []impl.Bucket{bucket(1, 0, 0), bucket(2, 0, 6), bucket(2, 1, 0), bucket(1, 2, 0), bucket(2, 2, 6)}},
		{"nodes in descending order of rank", hierOf(downFrom(3), own(0, 1, 5), own(1, 2, 6)), []int{2}, []impl.Bucket{bucket(0, 0, 11), bucket(1, 0, 6), bucket(2, 0, 0)}},
		{"arcs up only", hierOf(upTo(2), own(0, 1, 5)), []int{1, 0}, []impl.Bucket{bucket(1, 0, 0), bucket(0, 1, 0)}},
		{"several arcs with the same ends", hierOf(upTo(2), own(1, 0, 5), own(1, 0, 3), own(1, 0, 4)), []int{0}, []impl.Bucket{bucket(0, 0, 0), bucket(1, 0, 3)}},
		{"a Via that is no node", hierOf(upTo(2), harc(1, 0, 5, 9)), []int{0}, []impl.Bucket{bucket(0, 0, 0), bucket(1, 0, 5)}},
		{"equal ranks", hierOf([]int{0, 0, 1}, own(1, 0, 5), own(2, 0, 7), own(2, 1, 1)), []int{0}, []impl.Bucket{bucket(0, 0, 0), bucket(2, 0, 7)}},
		{"a number that is no node", line, []int{3}, nil},
		{"a negative number", line, []int{-1}, nil},
		{"the first one is no node", line, []int{3, 0, 1}, nil},
		{"the last one is no node", line, []int{0, 1, math.MinInt}, nil},
		{"one in the middle is no node", line, []int{0, math.MaxInt, 1}, nil},
		{"a node of an empty hierarchy", impl.Hier{}, []int{0}, nil},
		{"the longest arcs", hierOf(upTo(3), own(1, 0, 1000000), own(2, 1, 1000000)), []int{0}, []impl.Bucket{bucket(0, 0, 0), bucket(1, 0, 1000000), bucket(2, 0, 2000000)}},
		{"an arc that is too long, unused", hierOf(upTo(2), own(0, 1, 1000001)), []int{0}, nil},
		{"an arc without length", hierOf(upTo(2), own(0, 1, 0)), []int{0}, nil},
		{"an arc to no node", hierOf(upTo(2), own(0, 2, 5)), []int{0}, nil},
	}
	for _, c := range cases {
		t.Run(c.name, func(t *testing.T) {
			sameBuckets(t, c.h, c.to, c.want)
			for _, u := range numbersFor(c.h) {
				sameBuckets(t, c.h, []int{u}, bucketsBy(c.h, []int{u}))
				sameBuckets(t, c.h, append(slices.Clone(c.to), u), bucketsBy(c.h, append(slices.Clone(c.to), u)))
			}
		})
	}
}

func TestTableExamples(t *testing.T) {
	stage := hierOf(upTo(4), own(0, 1, 10), own(0, 3, 15), own(1, 0, 10), own(1, 2, 10), harc(1, 3, 25, 0), own(2, 1, 10), harc(2, 3, 35, 1), own(3, 2, 15))
	hill := hierOf([]int{0, 2, 1}, own(0, 1, 5), own(1, 2, 6))
	cases := []struct {
		name     string
		h        impl.Hier
		from, to []int
		want     [][]int
	}{
		{"the example of the stage", stage, []int{3, 0}, []int{0, 2}, [][]int{{35, 15}, {0, 20}}},
		{"no nodes", hill, nil, nil, nil},
		{"no nodes of an empty hierarchy", impl.Hier{}, nil, nil, nil},
		{"no nodes from", hill, nil, []int{0, 1}, nil},
		{"no nodes to", hill, []int{0, 1}, nil, [][]int{nil, nil}},
		{"no nodes to, empty lists", hill, []int{2}, []int{}, [][]int{{}}},
		{"one node", hill, []int{1}, []int{1}, [][]int{{0}}},
		{"all nodes", hill, upTo(3), upTo(3), [][]int{{0, 5, 11}, {-1, 0, 6}, {-1, -1, 0}}},
		{"rows and columns in the order of the lists", hill, []int{2, 0}, []int{2, 1, 0}, [][]int{{0, -1, -1}, {11, 5, 0}}},
		{"a node from twice", hill, []int{0, 1, 0}, []int{2}, [][]int{{11}, {6}, {11}}},
		{"a node to twice", hill, []int{0}, []int{2, 1, 2}, [][]int{{11, 5, 11}}},
		{"nodes that reach nothing", hierOf(upTo(2)), []int{0, 1}, []int{0, 1}, [][]int{{0, -1}, {-1, 0}}},
		{"down and up, without a shortcut", hierOf([]int{1, 0, 2}, own(0, 1, 5), own(1, 2, 6)), []int{0}, []int{2, 1}, [][]int{{-1, 5}}},
		{"several tops", hierOf([]int{0, 2, 3, 1}, own(0, 1, 5), own(0, 2, 6), own(1, 3, 7), own(2, 3, 5)), []int{0}, []int{3}, [][]int{{11}}},
		{"several tops, the first one is nearer", hierOf([]int{0, 2, 3, 1}, own(0, 1, 5), own(0, 2, 6), own(1, 3, 5), own(2, 3, 5)), []int{0}, []int{3}, [][]int{{10}}},
		{"a node from is no node", hill, []int{0, 3}, []int{1}, nil},
		{"the first node from is no node", hill, []int{-1, 0}, []int{1}, nil},
		{"a node from is no node, no nodes to", hill, []int{0, 3}, nil, nil},
		{"a node to is no node", hill, []int{0}, []int{1, 3}, nil},
		{"the first node to is no node", hill, []int{0, 1}, []int{math.MinInt, 1}, nil},
		{"a node to is no node, no nodes from", hill, nil, []int{3}, nil},
		{"neither is a node", hill, []int{math.MaxInt}, []int{math.MaxInt}, nil},
		{"an empty hierarchy", impl.Hier{}, []int{0}, nil, nil},
		{"an arc that is too long, unused", hierOf(upTo(2), own(0, 1, 1000001)), []int{0}, []int{0}, nil},
		{"an arc that is too long, no nodes to", hierOf(upTo(2), own(0, 1, 1000001)), []int{0}, nil, nil},
		{"an arc from no node", hierOf(upTo(2), own(2, 1, 5)), []int{0}, []int{0}, nil},
		{"equal ranks", hierOf([]int{0, 0, 1}, own(0, 1, 5), own(0, 2, 7), own(2, 1, 1)), []int{0}, []int{1, 2}, [][]int{{8, 7}}},
		{"the longest arcs", hierOf([]int{0, 2, 1}, own(0, 1, 1000000), own(1, 2, 1000000)), []int{0}, []int{2}, [][]int{{2000000}}},
	}
	for _, c := range cases {
		t.Run(c.name, func(t *testing.T) {
			sameTable(t, c.h, c.from, c.to, c.want)
			for _, u := range numbersFor(c.h) {
				for _, v := range numbersFor(c.h) {
					sameTable(t, c.h, []int{u}, []int{v}, lensBy(c.h, []int{u}, []int{v}))
					sameTable(t, c.h, append(slices.Clone(c.from), u), append(slices.Clone(c.to), v), lensBy(c.h, append(slices.Clone(c.from), u), append(slices.Clone(c.to), v)))
				}
			}
		})
	}
}

// The limit is to the number of elements: also of nodes twice, and whether the other list is empty or not.
func TestLongestTables(t *testing.T) {
	h, _ := impl.Build(starNet(19, 3), upTo(20))
	many := hierOf(upTo(50), own(0, 1, 5))
	lists := [][]int{upTo(21)[:20], downFrom(20), slices.Repeat([]int{7}, 20), append(upTo(19), 0)}
	for _, list := range lists {
		for _, g := range []impl.Hier{h, many} {
			if got, want := impl.Buckets(g, list), bucketsBy(g, list); len(got) < 20 || !slices.Equal(got, want) {
				t.Fatalf("Buckets(%v, %v) is %v, not %v", g, list, got, want)
			}
			for _, other := range append(lists, []int{3}) {
				if rows := impl.Table(g, list, other); len(rows) != 20 || !sameRows(rows, lensBy(g, list, other)) {
					t.Fatalf("Table(%v, %v, %v) is %v", g, list, other, rows)
				}
				sameTable(t, g, other, list, lensBy(g, other, list))
			}
			sameTable(t, g, list, nil, make([][]int, 20))
			sameTable(t, g, nil, list, nil)
			for _, more := range []int{1, 2, 80} {
				long := append(slices.Clone(list), slices.Repeat([]int{3}, more)...)
				sameBuckets(t, g, long, nil)
				for _, other := range append(lists, nil, []int{3}, long) {
					sameTable(t, g, long, other, nil)
					sameTable(t, g, other, long, nil)
				}
			}
		}
	}
	// There are 21 different nodes.
	sameBuckets(t, many, upTo(21), nil)
	sameTable(t, many, upTo(21), []int{0}, nil)
	sameTable(t, many, []int{0}, upTo(21), nil)
}

// The tables of hierarchies made by Build have the distances of the network.
func TestTablesOfNetworks(t *testing.T) {
	for salt, n := range searchNets() {
		h, _ := impl.Build(n, shuffled(len(n.Nodes), salt))
		table := tableOf(n)
		from, to := shuffled(len(n.Nodes), salt), shuffled(len(n.Nodes), salt+1)[:len(n.Nodes)/2]
		rows := impl.Table(h, from, to)
		for i, s := range from {
			for j, e := range to {
				if got := rows[i].D[j]; got != table[s][e] || got != impl.Query(h, s, e) {
					t.Fatalf("for %v in the row of %d and the column of %d there is %d, not %d", n, s, e, got, table[s][e])
				}
			}
		}
	}
}

// One arc that is not valid leaves no distances, but arcs that do not need it are unpacked.
func TestUnpackingWithInvalidArcs(t *testing.T) {
	good := hierOf([]int{0, 3, 1, 2}, own(0, 1, 5), own(1, 2, 6), own(2, 3, 7), harc(1, 3, 13, 2))
	var bad []impl.HArc
	for _, u := range outsiders(4) {
		bad = append(bad, own(u, 1, 5), own(1, u, 5), own(u, u, 5), harc(3, u, 5, 0))
	}
	for _, l := range []int{0, -1, 1000001, 1 << 40, math.MinInt, math.MaxInt} {
		bad = append(bad, own(2, 1, l), own(1, 0, l), own(2, 2, l), harc(3, 0, l, 1))
	}
	for _, a := range bad {
		for at := range len(good.Arcs) + 1 {
			h := copyOf(good)
			h.Arcs = slices.Insert(h.Arcs, at, a)
			sameUnpacked(t, h, 0, 1, []int{0, 1})
			sameUnpacked(t, h, 1, 3, []int{1, 2, 3})
			unpacksWell(t, h)
			for u := range 4 {
				sameHierRoute(t, h, u, u, nil)
				sameHierRoute(t, h, 0, u, nil)
				sameBuckets(t, h, []int{u}, nil)
				sameTable(t, h, []int{u}, []int{0}, nil)
				sameTable(t, h, []int{u}, nil, nil)
			}
		}
	}
	unpacksWell(t, good)
	sameHierRoute(t, good, 0, 3, upTo(4))
}

// Neither the number of nodes nor that of arcs is limited.
func TestRoutesOfManyNodes(t *testing.T) {
	const many = 30000
	h := hierOf(upTo(many))
	for u := many - 1; u > 0; u-- {
		h.Arcs = append(h.Arcs, own(u, u-1, 3), own(u-1, u, 2))
	}
	sameHierRoute(t, h, 0, many-1, upTo(many))
	sameHierRoute(t, h, many-1, 0, downFrom(many))
	sameHierRoute(t, h, 17, 17, []int{17})
	sameUnpacked(t, h, many-2, many-1, []int{many - 2, many - 1})
	to := slices.Repeat([]int{0, many - 1}, 10)
	buckets := impl.Buckets(h, to)
	if len(buckets) != 10*(many+1) || buckets[many-1] != bucket(many-1, 0, 3*(many-1)) || buckets[many] != bucket(many-1, 1, 0) || buckets[many+1] != bucket(0, 2, 0) {
		t.Fatalf("there are %d buckets", len(buckets))
	}
	rows := impl.Table(h, to, to)
	for i, r := range rows {
		for j, d := range r.D {
			if want := []int{0, 2 * (many - 1), 3 * (many - 1), 0}[i%2*2+j%2]; d != want {
				t.Fatalf("in row %d and column %d there is %d, not %d", i, j, d, want)
			}
		}
	}
	if len(rows) != 20 {
		t.Fatalf("there are %d rows", len(rows))
	}
}

// queriedHiers are valid and others.
func queriedHiers() []impl.Hier {
	hiers := []impl.Hier{{}, hierOf([]int{0}), hierOf(nil, own(0, 1, 5)), hierOf(upTo(2), own(0, 1, 0)), hierOf(upTo(2), own(0, 5, 1)), combHier(30), doubledHier(6)}
	for salt, n := range searchNets() {
		if salt%11 == 0 {
			h, _ := impl.Build(n, shuffled(len(n.Nodes), salt))
			hiers = append(hiers, h)
		}
	}
	for salt := range 20 {
		hiers = append(hiers, roughHier(6, 30, salt), foldedHier(5, salt))
	}
	return hiers
}

func TestUnpackingDoesNotModifyOrShare(t *testing.T) {
	for _, plain := range queriedHiers() {
		h, unchanged := roomyHier(plain)
		for s := -1; s <= len(h.Rank); s++ {
			for e := range len(h.Rank) {
				part, _ := impl.UnpackArc(h, s, e)
				route, _ := impl.HierRoute(h, s, e)
				otherPart, _ := impl.UnpackArc(h, s, e)
				otherRoute, _ := impl.HierRoute(h, s, e)
				wantPart, _ := impl.UnpackArc(plain, s, e)
				wantRoute, _ := impl.HierRoute(plain, s, e)
				if !slices.Equal(part, wantPart) || !slices.Equal(route, wantRoute) {
					t.Fatalf("the spare capacity behind %v counts", plain)
				}
				spoil(part, -5)
				spoil(route, -6)
				if !slices.Equal(otherPart, wantPart) || !slices.Equal(otherRoute, wantRoute) {
					t.Fatalf("two results for %d and %d of %v share memory", s, e, plain)
				}
			}
		}
		if !unchanged() {
			t.Fatalf("%v was changed to %v", plain, h)
		}
	}
}

func TestTablesDoNotModifyOrShare(t *testing.T) {
	for salt, plain := range queriedHiers() {
		h, unchanged := roomyHier(plain)
		nodes := min(len(h.Rank), 20)
		for _, list := range [][]int{nil, upTo(nodes), shuffled(nodes, salt), upTo(nodes + 1), slices.Repeat(upTo(nodes), 2)} {
			from, to := roomy(list, 0), roomy(list, 0)
			before := wholeOf(from)
			buckets, rows := impl.Buckets(h, to), impl.Table(h, from, to)
			otherBuckets, otherRows := impl.Buckets(h, to), impl.Table(h, to, to)
			wantBuckets, want := bucketsBy(plain, list), lensBy(plain, list, list)
			if !slices.Equal(buckets, wantBuckets) || !sameRows(rows, want) {
				t.Fatalf("the spare capacity behind %v or %v counts", plain, list)
			}
			spoil(buckets, bucket(-5, -5, -5))
			for i := range rows {
				spoil(rows[i].D, -6)
				if !sameRows(rows[i+1:], want[i+1:]) {
					t.Fatalf("two rows for %v of %v share memory", list, plain)
				}
			}
			spoil(rows, impl.Row{})
			if !slices.Equal(otherBuckets, wantBuckets) || !sameRows(otherRows, want) {
				t.Fatalf("two results for %v of %v share memory", list, plain)
			}
			if !slices.Equal(before, wholeOf(from)) || !slices.Equal(before, wholeOf(to)) {
				t.Fatalf("%v was changed to %v or %v", list, from, to)
			}
		}
		if !unchanged() {
			t.Fatalf("%v was changed to %v", plain, h)
		}
	}
}

// Ranks, arcs and nodes that lie behind those of a list are not part of it.
func TestSpareArcsAreNotUnpacked(t *testing.T) {
	whole, _ := impl.Build(chainNet(upTo(4), 5), []int{1, 0, 2, 3})
	part := impl.Hier{Rank: whole.Rank[:3], Arcs: whole.Arcs[:2]}
	sameUnpacked(t, part, 0, 1, []int{0, 1})
	sameUnpacked(t, part, 0, 2, nil)
	sameUnpacked(t, part, 1, 2, nil)
	sameHierRoute(t, part, 0, 2, nil)
	sameUnpacked(t, whole, 0, 2, upTo(3))
	sameUnpacked(t, impl.Hier{Rank: whole.Rank[:3], Arcs: whole.Arcs}, 2, 3, nil)
	nodes := []int{0, 1, 2, 3}
	sameBuckets(t, part, nodes[:1], []impl.Bucket{bucket(0, 0, 0)})
	sameTable(t, whole, nodes[:1], nodes[2:3], [][]int{{10}})
}
