package tests

import (
	"cmp"
	"math"
	"slices"
	"testing"

	"loop.example/g00640/impl"
)

func harc(from int, to int, length int, via int) impl.HArc {
	return impl.HArc{From: from, To: to, Len: length, Via: via}
}

// own is an arc that the network has itself.
func own(from int, to int, length int) impl.HArc { return harc(from, to, length, -1) }

func hierOf(rank []int, arcs ...impl.HArc) impl.Hier { return impl.Hier{Rank: rank, Arcs: arcs} }

func sameHier(a impl.Hier, b impl.Hier) bool {
	return slices.Equal(a.Rank, b.Rank) && slices.Equal(a.Arcs, b.Arcs)
}

func copyOf(h impl.Hier) impl.Hier { return hierOf(slices.Clone(h.Rank), slices.Clone(h.Arcs)...) }

func byHierEnds(a impl.HArc, b impl.HArc) int {
	return cmp.Or(cmp.Compare(a.From, b.From), cmp.Compare(a.To, b.To))
}

// isOrderOf reports whether a list has each of the numbers below many once and nothing else.
func isOrderOf(list []int, many int) bool {
	counts := map[int]int{}
	for _, u := range list {
		counts[u]++
	}
	for u := range counts {
		if u < 0 || u >= many || counts[u] != 1 {
			return false
		}
	}
	return len(counts) == many
}

// ranksOf returns for each number its place in an order.
func ranksOf(order []int) []int {
	var ranks []int
	for u := range order {
		ranks = append(ranks, slices.Index(order, u))
	}
	return ranks
}

// visitOrders visits all orders of that many numbers.
func visitOrders(count int, visit func(order []int)) {
	order := upTo(count)
	var place func(i int)
	place = func(i int) {
		if i == count {
			visit(slices.Clone(order))
			return
		}
		for j := i; j < count; j++ {
			order[i], order[j] = order[j], order[i]
			place(i + 1)
			order[i], order[j] = order[j], order[i]
		}
	}
	place(0)
}

// lowWays returns the length of the shortest route between every two nodes that has only nodes of smaller rank than both in between, or noRoute.
func lowWays(n impl.Net, order []int) [][]int {
	ways := lensOf(n)
	table := lensOf(n)
	for _, via := range order {
		// Shorter routes by via itself do not count for it.
		for u := range ways {
			if !slices.Contains(order[:slices.Index(order, via)], u) {
				ways[u][via], ways[via][u] = table[u][via], table[via][u]
			}
		}
		for _, pair := range pairsOf(len(order)) {
			one, two, old := table[pair.From][via], table[via][pair.To], table[pair.From][pair.To]
			if one != noRoute && two != noRoute && (old == noRoute || one+two < old) {
				table[pair.From][pair.To] = one + two
			}
		}
	}
	return ways
}

// viaBy returns -1 if the network has an arc that is as long as the shortest way, and otherwise the first node of the order that parts this way in two.
func viaBy(lens [][]int, ways [][]int, order []int, u int, w int) int {
	if lens[u][w] == ways[u][w] {
		return -1
	}
	for _, v := range order {
		if v == u || v == w {
			break
		}
		if one, two := ways[u][v], ways[v][w]; one != noRoute && two != noRoute && one+two == ways[u][w] {
			return v
		}
	}
	panic("a way without an arc and without a node in between")
}

// hierBy computes the hierarchy from the shortest ways, without adding arcs one after the other.
func hierBy(n impl.Net, order []int) impl.Hier {
	h := hierOf(ranksOf(order))
	lens, ways := lensOf(n), lowWays(n, order)
	for _, pair := range pairsOf(len(order)) {
		u, w := pair.From, pair.To
		if ways[u][w] != noRoute {
			h.Arcs = append(h.Arcs, harc(u, w, ways[u][w], viaBy(lens, ways, order, u, w)))
		}
	}
	return h
}

func sameBuild(t *testing.T, n impl.Net, order []int, want impl.Hier) {
	t.Helper()
	got, ok := impl.Build(n, order)
	if !ok || !sameHier(got, want) {
		t.Fatalf("Build(%v, %v) is %v, %t, not %v", n, order, got, ok, want)
	}
	if !impl.HierOk(n, got) {
		t.Fatalf("%v, built from %v, is not valid", got, n)
	}
}

// buildsWell checks a hierarchy that is built, and that its queries return the distances of the table.
func buildsWell(t *testing.T, n impl.Net, table [][]int, order []int) {
	t.Helper()
	sameBuild(t, n, order, hierBy(n, order))
	h, _ := impl.Build(n, order)
	for s := range n.Nodes {
		for e := range n.Nodes {
			if got := impl.Query(h, s, e); got != table[s][e] {
				t.Fatalf("for the order %v of %v the query from %d to %d is %d, not %d", order, n, s, e, got, table[s][e])
			}
		}
	}
}

func notBuilt(t *testing.T, name string, n impl.Net, order []int) {
	t.Helper()
	if h, ok := impl.Build(n, order); ok || h.Rank != nil || h.Arcs != nil {
		t.Errorf("%s: Build(%v, %v) is %v, %t", name, n, order, h, ok)
	}
}

func TestHierarchyLimits(t *testing.T) {
	if impl.MaxHier != 400 || impl.MaxFar != 1000000 {
		t.Errorf("MaxHier is %d and MaxFar %d", impl.MaxHier, impl.MaxFar)
	}
}

func TestRankedExamples(t *testing.T) {
	cases := []struct {
		name  string
		order []int
		many  int
		want  []int
	}{
		{"the example of the stage", []int{2, 0, 1}, 3, []int{1, 2, 0}},
		{"no nodes", nil, 0, nil},
		{"no nodes, an empty list", []int{}, 0, nil},
		{"one node", []int{0}, 1, []int{0}},
		{"two nodes", []int{0, 1}, 2, []int{0, 1}},
		{"two nodes, exchanged", []int{1, 0}, 2, []int{1, 0}},
		{"an order that is not its own rank", []int{3, 0, 2, 4, 1}, 5, []int{1, 4, 2, 0, 3}},
		{"empty, but one node", nil, 1, nil},
		{"one node, but none", []int{0}, 0, nil},
		{"too short by the last", []int{0, 1}, 3, nil},
		{"too short by the first", []int{1, 2}, 3, nil},
		{"too long by one more", []int{0, 1, 2}, 2, nil},
		{"too long by a node twice", []int{0, 1, 1}, 2, nil},
		{"too long by a negative number", []int{-1, 0, 1}, 2, nil},
		{"the first node twice", []int{0, 0}, 2, nil},
		{"the last node twice", []int{0, 2, 2}, 3, nil},
		{"a node twice, apart", []int{1, 0, 1}, 3, nil},
		{"all the same", []int{1, 1, 1}, 3, nil},
		{"a negative number first", []int{-1, 1, 2}, 3, nil},
		{"a negative number last", []int{0, 1, -1}, 3, nil},
		{"the smallest number", []int{0, math.MinInt}, 2, nil},
		{"equal to many, first", []int{3, 1, 2}, 3, nil},
		{"equal to many, last", []int{0, 1, 3}, 3, nil},
		{"from 1 on", []int{1, 2, 3}, 3, nil},
		{"the greatest number", []int{0, math.MaxInt}, 2, nil},
		{"a negative many", []int{0, 1}, -2, nil},
		{"a negative many, empty", nil, -1, nil},
		{"the smallest many", []int{0}, math.MinInt, nil},
		{"the greatest many", []int{0, 1}, math.MaxInt, nil},
		{"the greatest many, empty", nil, math.MaxInt, nil},
	}
	for _, c := range cases {
		if got := impl.Ranked(c.order, c.many); !slices.Equal(got, c.want) {
			t.Errorf("%s: Ranked(%v, %d) is %v, not %v", c.name, c.order, c.many, got, c.want)
		}
	}
}

// Every list of at most five small numbers, with every number of nodes around its length.
func TestRankedOfEveryList(t *testing.T) {
	everyList([]int{-1, 0, 1, 2, 3, 4, 5}, 5, func(list []int) {
		for many := -1; many <= 6; many++ {
			var want []int
			if isOrderOf(list, many) {
				want = ranksOf(list)
			}
			if got := impl.Ranked(list, many); !slices.Equal(got, want) {
				t.Fatalf("Ranked(%v, %d) is %v, not %v", list, many, got, want)
			}
		}
	})
}

// There is no limit to the number of nodes of an order.
func TestRankedOfLongOrders(t *testing.T) {
	for _, many := range []int{21, 100, 5000} {
		order := shuffled(many, 1)
		rank := impl.Ranked(order, many)
		if len(rank) != many {
			t.Fatalf("of %d nodes there are %d ranks", many, len(rank))
		}
		for u, r := range rank {
			if order[r] != u {
				t.Fatalf("the rank of %d is %d, where there is %d", u, r, order[r])
			}
		}
		if again := impl.Ranked(rank, many); !slices.Equal(again, order) {
			t.Fatalf("the ranks of the ranks are not the order")
		}
		order[many/2] = order[many/2-1]
		if got := impl.Ranked(order, many); got != nil {
			t.Fatalf("with a node twice Ranked is %v", got)
		}
	}
}

func TestBuildExamples(t *testing.T) {
	// Each of these networks has the arcs 0 1 3 and 1 2 4, and the node 1 is the first of the order, unless it is said.
	cases := []struct {
		name   string
		others []impl.Arc
		order  []int
		want   []impl.HArc
	}{
		{"no other arc", nil, []int{1, 0, 2}, []impl.HArc{own(0, 1, 3), harc(0, 2, 7, 1), own(1, 2, 4)}},
		{"the same with the ends exchanged", nil, []int{1, 2, 0}, []impl.HArc{own(0, 1, 3), harc(0, 2, 7, 1), own(1, 2, 4)}},
		{"an arc that is much shorter", []impl.Arc{arc(0, 2, 1)}, []int{1, 0, 2}, []impl.HArc{own(0, 1, 3), own(0, 2, 1), own(1, 2, 4)}},
		{"an arc that is one shorter", []impl.Arc{arc(0, 2, 6)}, []int{1, 0, 2}, []impl.HArc{own(0, 1, 3), own(0, 2, 6), own(1, 2, 4)}},
		{"an arc that is as long", []impl.Arc{arc(0, 2, 7)}, []int{1, 0, 2}, []impl.HArc{own(0, 1, 3), own(0, 2, 7), own(1, 2, 4)}},
		{"an arc that is one longer", []impl.Arc{arc(0, 2, 8)}, []int{1, 0, 2}, []impl.HArc{own(0, 1, 3), harc(0, 2, 7, 1), own(1, 2, 4)}},
		{"an arc that is much longer", []impl.Arc{arc(0, 2, 10000)}, []int{1, 0, 2}, []impl.HArc{own(0, 1, 3), harc(0, 2, 7, 1), own(1, 2, 4)}},
		{"the node is the last", []impl.Arc{arc(0, 2, 8)}, []int{0, 2, 1}, []impl.HArc{own(0, 1, 3), own(0, 2, 8), own(1, 2, 4)}},
		{"the node is above the start", nil, []int{0, 1, 2}, []impl.HArc{own(0, 1, 3), own(1, 2, 4)}},
		{"the node is above the end", nil, []int{2, 1, 0}, []impl.HArc{own(0, 1, 3), own(1, 2, 4)}},
		{"there and back", []impl.Arc{arc(1, 0, 5), arc(2, 1, 6)}, []int{1, 0, 2}, []impl.HArc{own(0, 1, 3), harc(0, 2, 7, 1), own(1, 0, 5), own(1, 2, 4), harc(2, 0, 11, 1), own(2, 1, 6)}},
		{"there and back, only at one end", []impl.Arc{arc(1, 0, 5)}, []int{1, 0, 2}, []impl.HArc{own(0, 1, 3), harc(0, 2, 7, 1), own(1, 0, 5), own(1, 2, 4)}},
		{"an arc back", []impl.Arc{arc(2, 0, 1)}, []int{1, 0, 2}, []impl.HArc{own(0, 1, 3), harc(0, 2, 7, 1), own(1, 2, 4), own(2, 0, 1)}},
		{"another route that is shorter", []impl.Arc{arc(0, 3, 1), arc(3, 2, 1)}, []int{1, 0, 2, 3}, []impl.HArc{own(0, 1, 3), harc(0, 2, 7, 1), own(0, 3, 1), own(1, 2, 4), own(3, 2, 1)}},
		{"another node later, a longer sum", []impl.Arc{arc(0, 3, 4), arc(3, 2, 4)}, []int{1, 3, 0, 2}, []impl.HArc{own(0, 1, 3), harc(0, 2, 7, 1), own(0, 3, 4), own(1, 2, 4), own(3, 2, 4)}},
		{"another node later, a sum as long", []impl.Arc{arc(0, 3, 4), arc(3, 2, 3)}, []int{1, 3, 0, 2}, []impl.HArc{own(0, 1, 3), harc(0, 2, 7, 1), own(0, 3, 4), own(1, 2, 4), own(3, 2, 3)}},
		{"another node later, a shorter sum", []impl.Arc{arc(0, 3, 3), arc(3, 2, 3)}, []int{1, 3, 0, 2}, []impl.HArc{own(0, 1, 3), harc(0, 2, 6, 3), own(0, 3, 3), own(1, 2, 4), own(3, 2, 3)}},
		{"another node before, a longer sum", []impl.Arc{arc(0, 3, 4), arc(3, 2, 4)}, []int{3, 1, 0, 2}, []impl.HArc{own(0, 1, 3), harc(0, 2, 7, 1), own(0, 3, 4), own(1, 2, 4), own(3, 2, 4)}},
		{"another node before, a sum as long", []impl.Arc{arc(0, 3, 4), arc(3, 2, 3)}, []int{3, 1, 0, 2}, []impl.HArc{own(0, 1, 3), harc(0, 2, 7, 3), own(0, 3, 4), own(1, 2, 4), own(3, 2, 3)}},
		{"another node before, a shorter sum", []impl.Arc{arc(0, 3, 3), arc(3, 2, 3)}, []int{3, 1, 0, 2}, []impl.HArc{own(0, 1, 3), harc(0, 2, 6, 3), own(0, 3, 3), own(1, 2, 4), own(3, 2, 3)}},
		{"a shortcut is replaced, then an arc as long does not count", []impl.Arc{arc(0, 2, 9), arc(0, 3, 3), arc(0, 4, 2), arc(3, 2, 3), arc(4, 2, 4)}, []int{1, 3, 4, 0, 2}, []impl.HArc{own(0, 1, 3), harc(0, 2, 6, 3), own(0, 3, 3), own(0, 4, 2), own(1, 2, 4), own(3, 2, 3), own(4, 2, 4)}},
		{"a shortcut is replaced twice", []impl.Arc{arc(0, 2, 9), arc(0, 3, 3), arc(0, 4, 2), arc(3, 2, 3), arc(4, 2, 3)}, []int{1, 3, 4, 0, 2}, []impl.HArc{own(0, 1, 3), harc(0, 2, 5, 4), own(0, 3, 3), own(0, 4, 2), own(1, 2, 4), own(3, 2, 3), own(4, 2, 3)}},
		{"a shortcut that is used for a later one", []impl.Arc{arc(2, 3, 5)}, []int{1, 2, 0, 3}, []impl.HArc{own(0, 1, 3), harc(0, 2, 7, 1), harc(0, 3, 12, 2), own(1, 2, 4), own(2, 3, 5)}},
		{"a shortcut that is used for a later one in front", []impl.Arc{arc(3, 0, 5)}, []int{1, 0, 2, 3}, []impl.HArc{own(0, 1, 3), harc(0, 2, 7, 1), own(1, 2, 4), own(3, 0, 5), harc(3, 2, 12, 0)}},
		{"two shortcuts that are used for a later one", []impl.Arc{arc(2, 3, 5), arc(3, 4, 6)}, []int{1, 3, 2, 0, 4}, []impl.HArc{own(0, 1, 3), harc(0, 2, 7, 1), harc(0, 4, 18, 2), own(1, 2, 4), own(2, 3, 5), harc(2, 4, 11, 3), own(3, 4, 6)}},
		{"an arc that comes too late for an earlier one", []impl.Arc{arc(2, 3, 5)}, []int{2, 1, 0, 3}, []impl.HArc{own(0, 1, 3), harc(0, 3, 12, 1), own(1, 2, 4), harc(1, 3, 9, 2), own(2, 3, 5)}},
		{"an arc that is replaced before it is used", []impl.Arc{arc(0, 2, 9), arc(2, 3, 5)}, []int{1, 2, 0, 3}, []impl.HArc{own(0, 1, 3), harc(0, 2, 7, 1), harc(0, 3, 12, 2), own(1, 2, 4), own(2, 3, 5)}},
		{"two starts and two ends", []impl.Arc{arc(1, 4, 6), arc(3, 1, 5)}, []int{1, 0, 2, 3, 4}, []impl.HArc{own(0, 1, 3), harc(0, 2, 7, 1), harc(0, 4, 9, 1), own(1, 2, 4), own(1, 4, 6), own(3, 1, 5), harc(3, 2, 9, 1), harc(3, 4, 11, 1)}},
		{"one start is below the node", []impl.Arc{arc(3, 1, 5)}, []int{0, 1, 2, 3}, []impl.HArc{own(0, 1, 3), own(1, 2, 4), own(3, 1, 5), harc(3, 2, 9, 1)}},
		{"one end is below the node", []impl.Arc{arc(1, 3, 5)}, []int{2, 1, 0, 3}, []impl.HArc{own(0, 1, 3), harc(0, 3, 8, 1), own(1, 2, 4), own(1, 3, 5)}},
		{"longer than MaxLen", []impl.Arc{arc(2, 3, 9996)}, []int{1, 2, 0, 3}, []impl.HArc{own(0, 1, 3), harc(0, 2, 7, 1), harc(0, 3, 10003, 2), own(1, 2, 4), own(2, 3, 9996)}},
	}
	for _, c := range cases {
		t.Run(c.name, func(t *testing.T) {
			n := withArcs(netOf(spreadPoints(len(c.order), 2), arc(0, 1, 3), arc(1, 2, 4)), c.others...)
			sameBuild(t, n, c.order, hierOf(ranksOf(c.order), c.want...))
			buildsWell(t, n, tableOf(n), c.order)
		})
	}
}

func TestBuildOfSmallest(t *testing.T) {
	for _, n := range []impl.Net{{}, {Nodes: []impl.Pt{}, Arcs: []impl.Arc{}}} {
		sameBuild(t, n, nil, impl.Hier{})
		sameBuild(t, n, []int{}, impl.Hier{})
		notBuilt(t, "an order of one node for no nodes", n, []int{0})
	}
	sameBuild(t, netOf(spreadPoints(1, 2)), []int{0}, hierOf([]int{0}))
	sameBuild(t, netOf(spreadPoints(2, 2)), []int{1, 0}, hierOf([]int{1, 0}))
	sameBuild(t, netOf(spreadPoints(20, 2)), downFrom(20), hierOf(downFrom(20)))
	sameBuild(t, twoNet(arc(0, 1, 5)), []int{1, 0}, hierOf([]int{1, 0}, own(0, 1, 5)))
	sameBuild(t, twoNet(arc(0, 1, 5), arc(1, 0, 6)), []int{0, 1}, hierOf([]int{0, 1}, own(0, 1, 5), own(1, 0, 6)))
	sameBuild(t, sampleNet(), upTo(4), hierOf(upTo(4), own(0, 1, 10), own(0, 3, 15), own(1, 0, 10), own(1, 2, 10), harc(1, 3, 25, 0), own(2, 1, 10), harc(2, 3, 35, 1), own(3, 2, 15)))
}

// Sums are not limited by MaxLen; in a valid network none comes near MaxFar.
func TestBuildOfLongChains(t *testing.T) {
	inner := append(upTo(20)[1:19], 0, 19)
	chain := chainNet(upTo(20), impl.MaxLen)
	h, ok := impl.Build(chain, inner)
	if !ok || !slices.Contains(h.Arcs, harc(0, 19, 190000, 18)) || len(h.Arcs) != 19+18 {
		t.Fatalf("Build is %v, %t", h, ok)
	}
	for _, order := range [][]int{inner, upTo(20), downFrom(20), stridden(20, 7)} {
		buildsWell(t, chain, tableOf(chain), order)
		buildsWell(t, slowNet(), tableOf(slowNet()), order)
	}
}

// The most arcs are those between all nodes, which are fewer than MaxHier.
func TestBuildOfTheMostArcs(t *testing.T) {
	for _, n := range []impl.Net{starNet(19, 3), starNet(19, impl.MaxLen)} {
		h, ok := impl.Build(n, upTo(20))
		if !ok || len(h.Arcs) != 380 || !impl.HierOk(n, h) {
			t.Fatalf("Build has %d arcs, %t", len(h.Arcs), ok)
		}
		buildsWell(t, n, tableOf(n), upTo(20))
		if h, ok := impl.Build(n, downFrom(20)); !ok || len(h.Arcs) != 38 {
			t.Fatalf("with the center last, Build has %d arcs, %t", len(h.Arcs), ok)
		}
	}
}

func TestBuildAndQuery(t *testing.T) {
	for salt, n := range contractNets() {
		table := tableOf(n)
		orders := [][]int{upTo(len(n.Nodes)), downFrom(len(n.Nodes)), shuffled(len(n.Nodes), salt), impl.OrderOf(n)}
		for _, order := range orders {
			// OrderOf finds none if there is no room.
			if len(order) == len(n.Nodes) {
				buildsWell(t, n, table, order)
			}
		}
	}
}

// Every order of every network of at most three nodes, with several lengths.
func TestEveryOrderOfSmallNetworks(t *testing.T) {
	check := func(n impl.Net) {
		table := tableOf(n)
		visitOrders(len(n.Nodes), func(order []int) { buildsWell(t, n, table, order) })
	}
	for nodes := range 3 {
		visitLenNets(nodes, []int{0, 1, 2, 3}, check)
	}
	visitLenNets(3, []int{0, 1, 2, 3}, check)
	for _, lens := range [][]int{{0, 1}, {0, 1, 2}, {0, 1, 3}, {0, 5000, 10000}} {
		count := 0
		visitLenNets(4, lens, func(n impl.Net) {
			// Of those with more than two lengths every 307th, which is no divisor of their number.
			if count++; len(lens) == 2 || count%307 == 0 {
				check(n)
			}
		})
	}
}

// Every order of networks of five and six nodes, many of them with routes of the same length.
func TestEveryOrderOfLargerNetworks(t *testing.T) {
	nets := []impl.Net{starNet(4, 3), ringNet(5, 2), chainNet([]int{0, 3, 1, 4, 2}, 5), mixedNet(6, 12, 3, 1)}
	for salt := range 8 {
		nets = append(nets, mixedNet(5, 8, 2, salt), mixedNet(5, 14, 4, salt), mixedNet(5, 20, 10000, salt))
	}
	for _, n := range nets {
		table := tableOf(n)
		visitOrders(len(n.Nodes), func(order []int) { buildsWell(t, n, table, order) })
	}
}

// badOrders are no orders of that many nodes, of which there are at least two.
func badOrders(many int) [][]int {
	orders := [][]int{nil, {}, upTo(many - 1), upTo(many)[1:], upTo(many + 1), append(upTo(many), 0), append(upTo(many), -1), append(downFrom(many), many-1), append([]int{-1}, upTo(many)...)}
	for _, u := range append(outsiders(many), 0, 1, many-1) {
		for _, at := range []int{0, many / 2, many - 1} {
			// Another node at its own place would be an order.
			if order := upTo(many); order[at] != u {
				order[at] = u
				orders = append(orders, order)
			}
		}
	}
	return orders
}

func TestBuildWithInvalidOrders(t *testing.T) {
	for _, n := range []impl.Net{twoNet(arc(0, 1, 5)), sampleNet(), fullNet(), netOf(spreadPoints(20, 2))} {
		for _, order := range badOrders(len(n.Nodes)) {
			notBuilt(t, "no order", n, order)
		}
	}
	for _, order := range [][]int{nil, {}, {1}, {-1}, {0, 0}, {0, 1}, {math.MaxInt}, {math.MinInt}} {
		notBuilt(t, "no order of one node", netOf(spreadPoints(1, 2)), order)
	}
}

func TestHierarchiesOfInvalidNetworks(t *testing.T) {
	for _, b := range badNets() {
		for _, order := range [][]int{nil, {0}, upTo(len(b.net.Nodes)), downFrom(len(b.net.Nodes)), upTo(20)} {
			notBuilt(t, b.name, b.net, order)
			if impl.HierOk(b.net, hierOf(order)) {
				t.Errorf("%s: a hierarchy with the ranks %v is valid", b.name, order)
			}
		}
		// The arcs of the network alone make no hierarchy of it.
		h := hierOf(upTo(len(b.net.Nodes)))
		for _, a := range b.net.Arcs {
			h.Arcs = append(h.Arcs, own(a.From, a.To, a.Len))
		}
		if impl.HierOk(b.net, h) {
			t.Errorf("%s: %v is valid", b.name, h)
		}
	}
}

// isHier reports what the document says of a valid hierarchy of the valid network n.
func isHier(n impl.Net, h impl.Hier) bool {
	if !isOrderOf(h.Rank, len(n.Nodes)) || len(h.Arcs) > 400 {
		return false
	}
	node := func(u int) bool { return u >= 0 && u < len(n.Nodes) }
	arcOf := func(u, w int) *impl.HArc {
		for _, a := range h.Arcs {
			if a.From == u && a.To == w {
				return &a
			}
		}
		return nil
	}
	for i, a := range h.Arcs {
		if !node(a.From) || !node(a.To) || a.From == a.To || a.Len <= 0 || a.Len > 1000000 || i > 0 && byHierEnds(h.Arcs[i-1], a) >= 0 {
			return false
		}
		if a.Via == -1 {
			if !slices.Contains(n.Arcs, arc(a.From, a.To, a.Len)) {
				return false
			}
			continue
		}
		if !node(a.Via) || h.Rank[a.Via] >= h.Rank[a.From] || h.Rank[a.Via] >= h.Rank[a.To] {
			return false
		}
		one, two := arcOf(a.From, a.Via), arcOf(a.Via, a.To)
		if one == nil || two == nil || one.Len+two.Len != a.Len {
			return false
		}
	}
	return true
}

// tallNet and its hierarchy have, for every two of the nodes above 0, an arc by the node before the smaller one. So the lengths double from node to node; that of the arc from 7 to 8 is longest.
func tallNet(longest int) (impl.Net, impl.Hier) {
	n := netOf(spreadPoints(9, 2))
	for u := 1; u < 9; u++ {
		to, from := 7900, 7900
		switch u {
		case 7:
			to, from = longest-126*7900-2300, 1
		case 8:
			to, from = 1, 2300
		}
		n = withArcs(n, arc(u, 0, to), arc(0, u, from))
	}
	h := hierOf(upTo(9))
	lens := lensOf(n)
	for _, a := range n.Arcs {
		h.Arcs = append(h.Arcs, own(a.From, a.To, a.Len))
	}
	for via := range 8 {
		for _, pair := range pairsOf(9) {
			if min(pair.From, pair.To) == via+1 {
				length := lens[pair.From][via] + lens[via][pair.To]
				lens[pair.From][pair.To] = length
				h.Arcs = append(h.Arcs, harc(pair.From, pair.To, length, via))
			}
		}
	}
	slices.SortFunc(h.Arcs, byHierEnds)
	return n, h
}

func TestLongestArcs(t *testing.T) {
	for _, c := range []struct {
		longest int
		valid   bool
	}{{999999, true}, {1000000, true}, {1000001, false}, {1000002, false}} {
		n, h := tallNet(c.longest)
		if !impl.NetOk(n) || !slices.Contains(h.Arcs, harc(7, 8, c.longest, 6)) {
			t.Fatalf("%v and %v are not what they should be", n, h)
		}
		if impl.HierOk(n, h) != c.valid || isHier(n, h) != c.valid {
			t.Errorf("with an arc of length %d it is %t that a hierarchy is valid", c.longest, impl.HierOk(n, h))
		}
		// Without this arc it is valid, too.
		h.Arcs = slices.DeleteFunc(h.Arcs, func(a impl.HArc) bool { return a.Len == c.longest })
		if !impl.HierOk(n, h) {
			t.Errorf("%v is not valid", h)
		}
	}
}

func TestValidHierarchies(t *testing.T) {
	line := chainNet(upTo(4), 5)
	cases := []struct {
		name string
		n    impl.Net
		h    impl.Hier
	}{
		{"no nodes", impl.Net{}, impl.Hier{}},
		{"no nodes, empty lists", impl.Net{Nodes: []impl.Pt{}}, impl.Hier{Rank: []int{}, Arcs: []impl.HArc{}}},
		{"one node", netOf(spreadPoints(1, 2)), hierOf([]int{0})},
		{"no arcs, although the network has some", line, hierOf(upTo(4))},
		{"some arcs of the network", line, hierOf(upTo(4), own(1, 2, 5))},
		{"all arcs of the network without shortcuts", line, hierOf([]int{2, 0, 1, 3}, own(0, 1, 5), own(1, 2, 5), own(2, 3, 5))},
		{"a shortcut", line, hierOf([]int{2, 0, 1, 3}, own(0, 1, 5), harc(0, 2, 10, 1), own(1, 2, 5))},
		{"a shortcut of shortcuts", line, hierOf([]int{2, 0, 1, 3}, own(0, 1, 5), harc(0, 2, 10, 1), harc(0, 3, 15, 2), own(1, 2, 5), own(2, 3, 5))},
		{"a shortcut by another node", line, hierOf([]int{2, 1, 0, 3}, own(0, 1, 5), harc(0, 3, 15, 1), own(1, 2, 5), harc(1, 3, 10, 2), own(2, 3, 5))},
		{"a shortcut that is longer than an arc", chainNet(upTo(3), 5, arc(0, 2, 1)), hierOf([]int{1, 0, 2}, own(0, 1, 5), harc(0, 2, 10, 1), own(1, 2, 5))},
		{"a shortcut in place of an arc as long", chainNet(upTo(3), 5, arc(0, 2, 10)), hierOf([]int{1, 0, 2}, own(0, 1, 5), harc(0, 2, 10, 1), own(1, 2, 5))},
		{"an arc in place of a shortcut that is shorter", chainNet(upTo(3), 5, arc(0, 2, 99)), hierOf([]int{1, 0, 2}, own(0, 1, 5), own(0, 2, 99), own(1, 2, 5))},
		{"the greater node of two that are as short", netOf(spreadPoints(4, 2), arc(0, 1, 5), arc(0, 3, 5), arc(1, 2, 5), arc(3, 2, 5)), hierOf([]int{2, 0, 3, 1}, own(0, 1, 5), harc(0, 2, 10, 3), own(0, 3, 5), own(1, 2, 5), own(3, 2, 5))},
		{"the first node is the way", netOf(spreadPoints(3, 2), arc(0, 2, 3), arc(1, 0, 4)), hierOf([]int{0, 1, 2}, own(0, 2, 3), own(1, 0, 4), harc(1, 2, 7, 0))},
		{"the longest arc", twoNet(arc(0, 1, 10000)), hierOf([]int{0, 1}, own(0, 1, 10000))},
		{"the shortest arc", twoNet(arc(1, 0, 1)), hierOf([]int{0, 1}, own(1, 0, 1))},
	}
	for _, c := range cases {
		if !impl.HierOk(c.n, c.h) || !isHier(c.n, c.h) {
			t.Errorf("%s: %v is not valid for %v", c.name, c.h, c.n)
		}
	}
}

// Each of these hierarchies of one network breaks one rule.
func TestInvalidHierarchies(t *testing.T) {
	n := netOf(spreadPoints(5, 2), arc(0, 1, 5), arc(1, 2, 6), arc(1, 3, 7), arc(2, 3, 8), arc(3, 1, 9))
	good := hierOf([]int{3, 0, 1, 2, 4}, own(0, 1, 5), harc(0, 2, 11, 1), harc(0, 3, 12, 1), own(1, 2, 6), own(1, 3, 7), own(2, 3, 8), own(3, 1, 9), harc(3, 2, 15, 1))
	if !impl.HierOk(n, good) {
		t.Fatalf("%v is not valid", good)
	}
	cases := []struct {
		name   string
		change func(h *impl.Hier)
	}{
		{"no ranks", func(h *impl.Hier) { h.Rank = nil }},
		{"one rank too few", func(h *impl.Hier) { h.Rank = h.Rank[:4] }},
		{"one rank too many", func(h *impl.Hier) { h.Rank = append(h.Rank, 5) }},
		{"a rank twice at the end", func(h *impl.Hier) { h.Rank = append(h.Rank, 4) }},
		{"a rank twice", func(h *impl.Hier) { h.Rank[4] = 3 }},
		{"a rank equal to the number of nodes", func(h *impl.Hier) { h.Rank[4] = 5 }},
		{"a negative rank", func(h *impl.Hier) { h.Rank[1] = -1 }},
		{"the smallest rank", func(h *impl.Hier) { h.Rank[1] = math.MinInt }},
		{"the greatest rank", func(h *impl.Hier) { h.Rank[4] = math.MaxInt }},
		{"To out of order", func(h *impl.Hier) { h.Arcs[0], h.Arcs[1] = h.Arcs[1], h.Arcs[0] }},
		{"From out of order", func(h *impl.Hier) { h.Arcs[4], h.Arcs[5] = h.Arcs[5], h.Arcs[4] }},
		{"the last two out of order", func(h *impl.Hier) { h.Arcs[6], h.Arcs[7] = h.Arcs[7], h.Arcs[6] }},
		{"the first arc last", func(h *impl.Hier) { h.Arcs = append(h.Arcs[1:], h.Arcs[0]) }},
		{"an arc twice", func(h *impl.Hier) { h.Arcs = slices.Insert(h.Arcs, 3, h.Arcs[3]) }},
		{"the last arc twice", func(h *impl.Hier) { h.Arcs = append(h.Arcs, h.Arcs[7]) }},
		{"a loop of the network's kind", func(h *impl.Hier) { h.Arcs = slices.Insert(h.Arcs, 0, own(0, 0, 5)) }},
		{"a loop by a node", func(h *impl.Hier) { h.Arcs = append(h.Arcs, harc(3, 3, 16, 1)) }},
		{"a negative From", func(h *impl.Hier) { h.Arcs = slices.Insert(h.Arcs, 0, own(-1, 1, 5)) }},
		{"a From that is no node", func(h *impl.Hier) { h.Arcs = append(h.Arcs, own(5, 1, 5)) }},
		{"a negative To", func(h *impl.Hier) { h.Arcs = slices.Insert(h.Arcs, 0, own(0, -1, 5)) }},
		{"a To that is no node", func(h *impl.Hier) { h.Arcs = append(h.Arcs, own(3, 5, 5)) }},
		{"the greatest To", func(h *impl.Hier) { h.Arcs = append(h.Arcs, own(3, math.MaxInt, 5)) }},
		{"Len 0", func(h *impl.Hier) { h.Arcs[5].Len = 0 }},
		{"Len 0 by a node", func(h *impl.Hier) { h.Arcs[1].Len = 0 }},
		{"a negative Len", func(h *impl.Hier) { h.Arcs[5].Len = -8 }},
		{"Len MaxFar", func(h *impl.Hier) { h.Arcs[5].Len = 1000000 }},
		{"Len MaxFar + 1", func(h *impl.Hier) { h.Arcs[5].Len = 1000001 }},
		{"Via -1, the arc of the network is longer", func(h *impl.Hier) { h.Arcs[5].Len = 7 }},
		{"Via -1, the arc of the network is shorter", func(h *impl.Hier) { h.Arcs[5].Len = 9 }},
		{"Via -1, no arc of the network", func(h *impl.Hier) { h.Arcs[1].Via = -1 }},
		{"Via -1, only an arc back", func(h *impl.Hier) { h.Arcs = slices.Insert(h.Arcs, 6, own(2, 1, 6)) }},
		{"Via -1, the other Len is that of another arc", func(h *impl.Hier) { h.Arcs[3].Len = 7 }},
		{"Via -2", func(h *impl.Hier) { h.Arcs[1].Via = -2 }},
		{"Via -2 for an arc of the network", func(h *impl.Hier) { h.Arcs[5].Via = -2 }},
		{"the smallest Via", func(h *impl.Hier) { h.Arcs[1].Via = math.MinInt }},
		{"Via is the number of nodes", func(h *impl.Hier) { h.Arcs[1].Via = 5 }},
		{"the greatest Via", func(h *impl.Hier) { h.Arcs[1].Via = math.MaxInt }},
		{"Via is From", func(h *impl.Hier) { h.Arcs[1].Via = 0 }},
		{"Via is To", func(h *impl.Hier) { h.Arcs[1].Via = 2 }},
		{"Via has a greater Rank than both ends", func(h *impl.Hier) { h.Rank[1], h.Rank[4] = 4, 0 }},
		{"no arc from From to Via", func(h *impl.Hier) { h.Arcs = h.Arcs[1:] }},
		{"no arc from Via to To", func(h *impl.Hier) { h.Arcs = slices.Delete(h.Arcs, 3, 4) }},
		{"a Via that leads to neither", func(h *impl.Hier) { h.Rank = []int{3, 1, 2, 4, 0}; h.Arcs[1].Via = 4 }},
		{"a sum that is one shorter", func(h *impl.Hier) { h.Arcs[1].Len = 10 }},
		{"a sum that is one longer", func(h *impl.Hier) { h.Arcs[1].Len = 12 }},
		{"the sum of another arc", func(h *impl.Hier) { h.Arcs[7].Len = 16 }},
	}
	for _, c := range cases {
		h := copyOf(good)
		c.change(&h)
		if impl.HierOk(n, h) || isHier(n, h) {
			t.Errorf("%s: %v is valid", c.name, h)
		}
	}
	// The node in between must be below both ends.
	visitOrders(3, func(rank []int) {
		line := chainNet(upTo(3), 5)
		h := hierOf(rank, own(0, 1, 5), harc(0, 2, 10, 1), own(1, 2, 5))
		if got := impl.HierOk(line, h); got != (rank[1] == 0) {
			t.Errorf("with the ranks %v it is %t that %v is valid", rank, got, h)
		}
	})
	for _, other := range []impl.Net{{}, netOf(n.Nodes), netOf(n.Nodes[:4], n.Arcs...), netOf(spreadPoints(6, 2), n.Arcs...), impl.Turned(n)} {
		if impl.HierOk(other, good) {
			t.Errorf("it is valid for %v, too", other)
		}
	}
}

// A hierarchy with more than MaxHier arcs cannot be in order; it is not valid.
func TestTooManyArcs(t *testing.T) {
	star := starNet(19, 3)
	h, _ := impl.Build(star, upTo(20))
	for _, more := range []int{19, 20, 21, 22, 5000} {
		long := copyOf(h)
		for range more {
			long.Arcs = append(long.Arcs, h.Arcs[len(h.Arcs)-1])
		}
		if impl.HierOk(star, long) {
			t.Errorf("with %d arcs it is valid", len(long.Arcs))
		}
		// For distances the number of arcs does not count.
		if impl.Query(long, 1, 19) != 6 || impl.Query(long, 19, 18) != 6 {
			t.Errorf("with %d arcs the queries are %d and %d", len(long.Arcs), impl.Query(long, 1, 19), impl.Query(long, 19, 18))
		}
	}
}

// Whatever number of a valid hierarchy is changed, HierOk agrees with the document.
func TestChangedHierarchies(t *testing.T) {
	valid, judged := 0, 0
	judge := func(n impl.Net, h impl.Hier) {
		want := isHier(n, h)
		if got := impl.HierOk(n, h); got != want {
			t.Fatalf("HierOk(%v, %v) is %t", n, h, got)
		}
		if judged++; want {
			valid++
		}
	}
	for salt := range 20 {
		for _, n := range []impl.Net{mixedNet(4, 9, 2, salt), mixedNet(5, 12, 3, salt), mixedNet(7, 15, 5, salt), ringNet(5, 2)} {
			h, _ := impl.Build(n, shuffled(len(n.Nodes), salt))
			judge(n, h)
			for i := range h.Rank {
				for r := -1; r <= len(h.Rank); r++ {
					changed := copyOf(h)
					changed.Rank[i] = r
					judge(n, changed)
					// Two ranks exchanged are still an order.
					if r >= 0 && r < len(h.Rank) {
						changed.Rank[slices.Index(h.Rank, r)] = h.Rank[i]
						judge(n, changed)
					}
				}
			}
			for i, a := range h.Arcs {
				judge(n, hierOf(h.Rank, slices.Delete(slices.Clone(h.Arcs), i, i+1)...))
				for v := -2; v <= len(n.Nodes); v++ {
					for _, b := range []impl.HArc{harc(v, a.To, a.Len, a.Via), harc(a.From, v, a.Len, a.Via), harc(a.From, a.To, a.Len, v), harc(a.From, a.To, a.Len+v, a.Via), harc(a.From, a.To, a.Len+1, v)} {
						changed := copyOf(h)
						changed.Arcs[i] = b
						judge(n, changed)
						slices.SortStableFunc(changed.Arcs, byHierEnds)
						judge(n, changed)
					}
				}
			}
		}
	}
	if valid < 1000 || judged-valid < 10000 {
		t.Errorf("of %d hierarchies only %d are valid", judged, valid)
	}
}

// climbedBy goes round by round along all arcs to greater ranks, from s, or backwards.
func climbedBy(h impl.Hier, s int, backwards bool) []int {
	if s < 0 || s >= len(h.Rank) {
		return nil
	}
	for _, a := range h.Arcs {
		if a.From < 0 || a.From >= len(h.Rank) || a.To < 0 || a.To >= len(h.Rank) || a.Len < 1 || a.Len > 1000000 {
			return nil
		}
	}
	dists := slices.Repeat([]int{noRoute}, len(h.Rank))
	dists[s] = 0
	for range h.Rank {
		for _, a := range h.Arcs {
			low, high := a.From, a.To
			if backwards {
				low, high = high, low
			}
			if h.Rank[low] < h.Rank[high] && dists[low] != noRoute && (dists[high] == noRoute || dists[high] > dists[low]+a.Len) {
				dists[high] = dists[low] + a.Len
			}
		}
	}
	return dists
}

func queryBy(h impl.Hier, s int, e int) int {
	ups, downs := climbedBy(h, s, false), climbedBy(h, e, true)
	best := noRoute
	for u := range min(len(ups), len(downs)) {
		if ups[u] != noRoute && downs[u] != noRoute && (best == noRoute || best > ups[u]+downs[u]) {
			best = ups[u] + downs[u]
		}
	}
	return best
}

// climbsWell checks the distances of the node s, which need not be one.
func climbsWell(t *testing.T, h impl.Hier, s int) {
	t.Helper()
	if got, want := impl.Ups(h, s), climbedBy(h, s, false); !slices.Equal(got, want) {
		t.Fatalf("Ups(%v, %d) is %v, not %v", h, s, got, want)
	}
	if got, want := impl.Downs(h, s), climbedBy(h, s, true); !slices.Equal(got, want) {
		t.Fatalf("Downs(%v, %d) is %v, not %v", h, s, got, want)
	}
}

func sameQuery(t *testing.T, h impl.Hier, s int, e int) {
	t.Helper()
	if got, want := impl.Query(h, s, e), queryBy(h, s, e); got != want {
		t.Fatalf("Query(%v, %d, %d) is %d, not %d", h, s, e, got, want)
	}
}

// answersWell checks all distances and queries, also those for numbers that are no nodes.
func answersWell(t *testing.T, h impl.Hier) {
	t.Helper()
	nodes := append(outsiders(len(h.Rank)), upTo(len(h.Rank))...)
	for _, s := range nodes {
		climbsWell(t, h, s)
		for _, e := range nodes {
			sameQuery(t, h, s, e)
		}
	}
}

func TestUpsAndDownsExamples(t *testing.T) {
	cases := []struct {
		name       string
		h          impl.Hier
		s          int
		ups, downs []int
	}{
		{"one node", hierOf([]int{0}), 0, []int{0}, []int{0}},
		{"a node without arcs", hierOf(upTo(3), own(0, 2, 5), own(2, 0, 5)), 1, []int{-1, 0, -1}, []int{-1, 0, -1}},
		{"one arc up", hierOf(upTo(2), own(0, 1, 5)), 0, []int{0, 5}, []int{0, -1}},
		{"one arc down", hierOf(upTo(2), own(1, 0, 5)), 0, []int{0, -1}, []int{0, 5}},
		{"the arcs of the other end", hierOf(upTo(2), own(0, 1, 5), own(1, 0, 6)), 1, []int{-1, 0}, []int{-1, 0}},
		{"the numbers of the nodes do not count", hierOf([]int{1, 0}, own(0, 1, 5), own(1, 0, 6)), 1, []int{6, 0}, []int{5, 0}},
		{"three arcs up", hierOf(upTo(4), own(0, 1, 5), own(1, 2, 6), own(2, 3, 7)), 0, []int{0, 5, 11, 18}, []int{0, -1, -1, -1}},
		{"three arcs down", hierOf(upTo(4), own(1, 0, 5), own(2, 1, 6), own(3, 2, 7)), 0, []int{0, -1, -1, -1}, []int{0, 5, 11, 18}},
		{"several arcs are shorter than one", hierOf(upTo(3), own(0, 1, 5), own(0, 2, 12), own(1, 2, 6)), 0, []int{0, 5, 11}, []int{0, -1, -1}},
		{"one arc is shorter than several", hierOf(upTo(3), own(0, 1, 5), own(0, 2, 10), own(1, 2, 6)), 0, []int{0, 5, 10}, []int{0, -1, -1}},
		{"several arcs back are shorter", hierOf(upTo(3), own(1, 0, 5), own(2, 0, 12), own(2, 1, 6)), 0, []int{0, -1, -1}, []int{0, 5, 11}},
		{"an arc to a smaller rank is not used", hierOf([]int{0, 2, 1}, own(0, 1, 5), own(1, 2, 6)), 0, []int{0, 5, -1}, []int{0, -1, -1}},
		{"nor from a smaller rank", hierOf([]int{0, 2, 1}, own(1, 0, 5), own(2, 1, 6)), 0, []int{0, -1, -1}, []int{0, 5, -1}},
		{"a way that goes down in between", hierOf([]int{1, 0, 2}, own(0, 1, 1), own(0, 2, 9), own(1, 2, 1)), 0, []int{0, -1, 9}, []int{0, -1, -1}},
		{"arcs in no order", hierOf(upTo(4), own(2, 3, 7), own(1, 2, 6), own(0, 1, 5)), 0, []int{0, 5, 11, 18}, []int{0, -1, -1, -1}},
		{"several arcs with the same ends", hierOf(upTo(2), own(0, 1, 5), own(0, 1, 3), own(0, 1, 4)), 0, []int{0, 3}, []int{0, -1}},
		{"a loop", hierOf(upTo(2), own(0, 0, 5), own(0, 1, 3), own(1, 1, 2)), 0, []int{0, 3}, []int{0, -1}},
		{"a Via that is no node", hierOf(upTo(2), harc(0, 1, 5, 9), harc(1, 0, 6, -7)), 0, []int{0, 5}, []int{0, 6}},
		{"the same rank", hierOf([]int{4, 4, 5}, own(0, 1, 5), own(0, 2, 9), own(1, 0, 5), own(1, 2, 1)), 0, []int{0, -1, 9}, []int{0, -1, -1}},
		{"all the same rank", hierOf([]int{0, 0}, own(0, 1, 5), own(1, 0, 5)), 0, []int{0, -1}, []int{0, -1}},
		{"ranks below and above those of nodes", hierOf([]int{math.MinInt, 1, 99, math.MaxInt}, own(0, 1, 5), own(1, 2, 6), own(2, 3, 7)), 0, []int{0, 5, 11, 18}, []int{0, -1, -1, -1}},
		{"the smallest and the greatest rank", hierOf([]int{math.MaxInt, math.MinInt}, own(0, 1, 5), own(1, 0, 6)), 1, []int{6, 0}, []int{5, 0}},
		{"the longest arcs", hierOf(upTo(3), own(0, 1, 1000000), own(1, 2, 1000000)), 0, []int{0, 1000000, 2000000}, []int{0, -1, -1}},
		{"the shortest arcs", hierOf(upTo(3), own(0, 1, 1), own(0, 2, 3), own(1, 2, 1)), 0, []int{0, 1, 2}, []int{0, -1, -1}},
	}
	for _, c := range cases {
		t.Run(c.name, func(t *testing.T) {
			if ups, downs := impl.Ups(c.h, c.s), impl.Downs(c.h, c.s); !slices.Equal(ups, c.ups) || !slices.Equal(downs, c.downs) {
				t.Fatalf("Ups is %v and Downs %v", ups, downs)
			}
			answersWell(t, c.h)
		})
	}
}

func TestQueryExamples(t *testing.T) {
	cases := []struct {
		name       string
		h          impl.Hier
		s, e, want int
	}{
		{"the same node", hierOf(upTo(2), own(0, 1, 5), own(1, 0, 6)), 0, 0, 0},
		{"the same node without arcs", hierOf(upTo(2)), 1, 1, 0},
		{"no arcs", hierOf(upTo(2)), 0, 1, -1},
		{"up only", hierOf(upTo(2), own(0, 1, 5)), 0, 1, 5},
		{"down only", hierOf(upTo(2), own(1, 0, 5)), 1, 0, 5},
		{"against an arc", hierOf(upTo(2), own(0, 1, 5)), 1, 0, -1},
		{"up and down", hierOf([]int{0, 2, 1}, own(0, 1, 5), own(1, 2, 6)), 0, 2, 11},
		{"down and up, without a shortcut", hierOf([]int{1, 0, 2}, own(0, 1, 5), own(1, 2, 6)), 0, 2, -1},
		{"down and up, with a shortcut", hierOf([]int{1, 0, 2}, own(0, 1, 5), harc(0, 2, 11, 1), own(1, 2, 6)), 0, 2, 11},
		{"several arcs up and down", hierOf([]int{0, 2, 4, 3, 1}, own(0, 1, 5), own(1, 2, 6), own(2, 3, 7), own(3, 4, 8)), 0, 4, 26},
		{"the smaller of two sums is the first", hierOf([]int{0, 2, 3, 1}, own(0, 1, 5), own(0, 2, 6), own(1, 3, 7), own(2, 3, 7)), 0, 3, 12},
		{"the smaller of two sums is the second", hierOf([]int{0, 2, 3, 1}, own(0, 1, 5), own(0, 2, 6), own(1, 3, 7), own(2, 3, 5)), 0, 3, 11},
		{"the smaller sum has the longer way up", hierOf([]int{0, 2, 3, 1}, own(0, 1, 1), own(0, 2, 9), own(1, 3, 9), own(2, 3, 1)), 0, 3, 10},
		{"a sum at the goal itself", hierOf(upTo(3), own(0, 1, 5), own(0, 2, 1), own(2, 1, 1)), 0, 1, 2},
		{"a sum at the start itself", hierOf(upTo(3), own(1, 0, 5), own(1, 2, 1), own(2, 0, 3)), 1, 0, 4},
		{"they meet nowhere", hierOf(upTo(4), own(0, 2, 5), own(3, 1, 5)), 0, 1, -1},
		{"a way by a node of the same rank does not count", hierOf([]int{1, 1, 1}, own(0, 1, 5), own(1, 2, 6)), 0, 2, -1},
		{"the start is no node", hierOf(upTo(2), own(0, 1, 5), own(1, 0, 6)), 2, 1, -1},
		{"the goal is no node", hierOf(upTo(2), own(0, 1, 5), own(1, 0, 6)), 1, 2, -1},
		{"the goal is negative", hierOf(upTo(2), own(0, 1, 5), own(1, 0, 6)), 0, -1, -1},
		{"neither is a node", hierOf(upTo(2), own(0, 1, 5), own(1, 0, 6)), -1, -1, -1},
		{"no nodes", impl.Hier{}, 0, 0, -1},
		{"the longest arcs", hierOf([]int{0, 2, 1}, own(0, 1, 1000000), own(1, 2, 1000000)), 0, 2, 2000000},
	}
	for _, c := range cases {
		t.Run(c.name, func(t *testing.T) {
			if got := impl.Query(c.h, c.s, c.e); got != c.want {
				t.Fatalf("the query from %d to %d is %d, not %d", c.s, c.e, got, c.want)
			}
			answersWell(t, c.h)
		})
	}
}

// One arc that is not valid, wherever it is and whether it is used or not, leaves no distances.
func TestArcsThatAreNotValid(t *testing.T) {
	good := hierOf([]int{0, 2, 1}, own(0, 1, 5), own(1, 2, 6))
	var bad []impl.HArc
	for _, u := range outsiders(3) {
		bad = append(bad, own(u, 1, 5), own(1, u, 5), own(u, u, 5), own(2, u, 5))
	}
	for _, l := range []int{0, -1, 1000001, 1 << 40, math.MinInt, math.MaxInt} {
		bad = append(bad, own(0, 1, l), own(1, 0, l), own(2, 2, l), harc(2, 0, l, 1))
	}
	for _, a := range bad {
		for at := range 3 {
			h := copyOf(good)
			h.Arcs = slices.Insert(h.Arcs, at, a)
			for _, s := range append(outsiders(3), 0, 1, 2) {
				if ups, downs := impl.Ups(h, s), impl.Downs(h, s); ups != nil || downs != nil {
					t.Fatalf("Ups(%v, %d) is %v and Downs %v", h, s, ups, downs)
				}
				if got := impl.Query(h, s, 0); got != -1 {
					t.Fatalf("Query(%v, %d, 0) is %d", h, s, got)
				}
			}
		}
	}
	answersWell(t, good)
	for _, h := range []impl.Hier{{}, hierOf([]int{}), hierOf(nil, own(0, 0, 1)), hierOf(nil, own(0, 1, 5))} {
		answersWell(t, h)
		if impl.Ups(h, 0) != nil || impl.Downs(h, 0) != nil {
			t.Errorf("without nodes %v has distances", h)
		}
	}
}

// roughHier is a hierarchy that is most often not valid: its ranks are any small numbers, and its arcs any arcs.
func roughHier(nodes int, arcs int, salt int) impl.Hier {
	order, lens := shuffled(arcs, salt), shuffled(3*arcs, salt+1)
	h := impl.Hier{}
	for u := range nodes {
		h.Rank = append(h.Rank, lens[u]%(nodes+1)-1)
	}
	for i, x := range order {
		h.Arcs = append(h.Arcs, harc(x%nodes, lens[i]%nodes, 1+lens[arcs+i]%9, x%5-2))
	}
	return h
}

func TestUpsAndDowns(t *testing.T) {
	for salt := range 60 {
		for _, nodes := range []int{2, 3, 5, 8, 20} {
			answersWell(t, roughHier(nodes, 4*nodes, salt))
			answersWell(t, roughHier(nodes, nodes+3, salt))
		}
	}
	// Ranks whose differences exceed 64 bits.
	ranks := []int{math.MinInt, math.MinInt + 1, -1, 0, 1, math.MaxInt - 1, math.MaxInt}
	for salt := range 200 {
		h := roughHier(7, 20, salt)
		for i, u := range shuffled(7, salt) {
			h.Rank[u] = ranks[i]
		}
		answersWell(t, h)
	}
	for salt, n := range contractNets() {
		h, _ := impl.Build(n, shuffled(len(n.Nodes), salt))
		for u := range n.Nodes {
			climbsWell(t, h, u)
		}
	}
}

// Neither the number of nodes nor that of arcs is limited, and the order of the arcs does not matter.
func TestDistancesOfManyNodes(t *testing.T) {
	const many = 30000
	h := hierOf(upTo(many))
	for u := many - 1; u > 0; u-- {
		h.Arcs = append(h.Arcs, own(u, u-1, 1000000), own(u-1, u, 999999))
	}
	ups, downs := impl.Ups(h, 0), impl.Downs(h, 0)
	if len(ups) != many || len(downs) != many {
		t.Fatalf("there are %d and %d distances", len(ups), len(downs))
	}
	for u := range many {
		if ups[u] != 999999*u || downs[u] != 1000000*u {
			t.Fatalf("up to %d the distance is %d, and down %d", u, ups[u], downs[u])
		}
	}
	if got := impl.Query(h, 0, many-1); got != 999999*(many-1) {
		t.Errorf("the query is %d", got)
	}
	for range 20 {
		if got := impl.Query(h, many-1, 5); got != 1000000*(many-6) {
			t.Fatalf("the query is %d", got)
		}
	}
}

// roomyHier returns a copy of a hierarchy with spare capacity, and what reports whether this copy is still the same.
func roomyHier(plain impl.Hier) (impl.Hier, func() bool) {
	h := impl.Hier{Rank: roomy(plain.Rank, 3), Arcs: roomy(plain.Arcs, harc(0, 1, 1, -1))}
	rank, arcs := wholeOf(h.Rank), wholeOf(h.Arcs)
	return h, func() bool { return slices.Equal(rank, wholeOf(h.Rank)) && slices.Equal(arcs, wholeOf(h.Arcs)) }
}

func TestBuildDoesNotModifyOrShare(t *testing.T) {
	for salt, plain := range append(allNets(), slowNet(), streetNet(), starNet(19, 3), gateNet(7, 7, 21)) {
		n, unchanged := roomyNet(plain)
		for _, list := range [][]int{upTo(len(n.Nodes)), shuffled(len(n.Nodes), salt), {0, 0, 1}} {
			order := roomy(list, 0)
			before := wholeOf(order)
			want, valid := impl.Build(plain, list)
			h, ok := impl.Build(n, order)
			again, _ := impl.Build(n, order)
			ranks, others := impl.Ranked(order, len(n.Nodes)), impl.Ranked(order, len(n.Nodes))
			if ok != valid || !sameHier(h, want) || !slices.Equal(ranks, impl.Ranked(list, len(n.Nodes))) {
				t.Fatalf("the spare capacity behind %v or %v counts", plain, list)
			}
			spoil(h.Rank, -5)
			spoil(ranks, -7)
			if !slices.Equal(h.Arcs, want.Arcs) {
				t.Fatalf("the ranks and arcs of one hierarchy of %v share memory", plain)
			}
			spoil(h.Arcs, harc(-3, -3, -3, -3))
			if !sameHier(again, want) || ok && !slices.Equal(others, want.Rank) {
				t.Fatalf("two results for the order %v of %v share memory", list, plain)
			}
			if !unchanged() || !slices.Equal(before, wholeOf(order)) {
				t.Fatalf("%v or %v was changed to %v or %v", plain, list, n, order)
			}
		}
	}
}

func TestQueriesDoNotModifyOrShare(t *testing.T) {
	hiers := []impl.Hier{{}, hierOf([]int{0}), hierOf(nil, own(0, 1, 5)), hierOf(upTo(2), own(0, 1, 0)), hierOf(upTo(2), own(0, 5, 1))}
	for salt, n := range searchNets() {
		h, _ := impl.Build(n, shuffled(len(n.Nodes), salt))
		hiers = append(hiers, h)
	}
	for salt := range 20 {
		hiers = append(hiers, roughHier(6, 30, salt))
	}
	for _, plain := range hiers {
		h, unchanged := roomyHier(plain)
		for s := -1; s <= len(h.Rank); s++ {
			ups, downs := impl.Ups(h, s), impl.Downs(h, s)
			moreUps, moreDowns := impl.Ups(h, s), impl.Downs(h, s)
			if !slices.Equal(ups, impl.Ups(plain, s)) || !slices.Equal(downs, impl.Downs(plain, s)) || impl.Query(h, s, 0) != impl.Query(plain, s, 0) {
				t.Fatalf("the spare capacity behind %v counts", plain)
			}
			spoil(ups, -5)
			spoil(downs, -6)
			if !slices.Equal(moreUps, impl.Ups(plain, s)) || !slices.Equal(moreDowns, impl.Downs(plain, s)) {
				t.Fatalf("two results for the node %d of %v share memory", s, plain)
			}
		}
		for _, n := range []impl.Net{sampleNet(), netOf(spreadPoints(len(h.Rank), 2))} {
			if impl.HierOk(n, h) != impl.HierOk(n, plain) {
				t.Fatalf("the spare capacity behind %v counts", plain)
			}
		}
		if !unchanged() {
			t.Fatalf("%v was changed to %v", plain, h)
		}
	}
}

// The networks and the hierarchies that HierOk is asked for stay as they are.
func TestHierOkDoesNotModify(t *testing.T) {
	for salt, plain := range searchNets() {
		built, _ := impl.Build(plain, shuffled(len(plain.Nodes), salt))
		n, sameAsBefore := roomyNet(plain)
		h, unchanged := roomyHier(built)
		if !impl.HierOk(n, h) {
			t.Fatalf("the spare capacity behind %v or %v counts", n, h)
		}
		if !sameAsBefore() || !unchanged() {
			t.Fatalf("%v or %v was changed to %v or %v", plain, built, n, h)
		}
	}
}

// Nodes, ranks and arcs that lie behind those of a list are not part of it.
func TestSpareRanksAreNotRead(t *testing.T) {
	whole := chainNet(upTo(4), 5)
	n := impl.Net{Nodes: whole.Nodes[:3], Arcs: whole.Arcs[:2]}
	order := []int{1, 0, 2, 3}
	sameBuild(t, n, order[:3], hierOf([]int{1, 0, 2}, own(0, 1, 5), harc(0, 2, 10, 1), own(1, 2, 5)))
	notBuilt(t, "an order that is too long", n, order)
	notBuilt(t, "an order that is too short", n, order[:2])
	h, _ := impl.Build(whole, order)
	part := impl.Hier{Rank: h.Rank[:3], Arcs: h.Arcs[:2]}
	if got := impl.Ups(part, 0); !slices.Equal(got, []int{0, -1, 10}) || impl.Ups(part, 3) != nil || impl.Query(part, 1, 2) != -1 {
		t.Errorf("Ups of %v is %v", part, got)
	}
}
