package tests

import (
	"math"
	"math/rand/v2"
	"runtime"
	"slices"
	"sync"
	"testing"
	"time"

	"loop.example/g00640/impl"
)

// withoutNode keeps the arcs that neither come from v nor lead to it.
func withoutNode(n impl.Net, v int) impl.Net {
	kept := netOf(n.Nodes)
	for _, i := range arcsWhere(n, func(a impl.Arc) bool { return a.From != v && a.To != v }) {
		kept.Arcs = append(kept.Arcs, n.Arcs[i])
	}
	return kept
}

// lensOf returns the length of the arc between every two nodes, or noRoute.
func lensOf(n impl.Net) [][]int {
	lens := make([][]int, len(n.Nodes))
	for u := range lens {
		lens[u] = slices.Repeat([]int{noRoute}, len(n.Nodes))
	}
	for _, a := range n.Arcs {
		lens[a.From][a.To] = a.Len
	}
	return lens
}

// shortcutsBy computes Shortcuts from a table of distances, for every two nodes in the order of arcs.
func shortcutsBy(n impl.Net, v int) []impl.Arc {
	lens, table := lensOf(n), tableOf(withoutNode(n, v))
	var arcs []impl.Arc
	for _, pair := range pairsOf(len(n.Nodes)) {
		u, w := pair.From, pair.To
		if lens[u][v] == noRoute || lens[v][w] == noRoute {
			continue
		}
		sum := lens[u][v] + lens[v][w]
		if sum <= 10000 && (table[u][w] == noRoute || table[u][w] > sum) {
			arcs = append(arcs, arc(u, w, sum))
		}
	}
	return arcs
}

// mergedBy returns the arcs that Contracted has if there is room.
func mergedBy(n impl.Net, v int) []impl.Arc {
	lens := lensOf(withoutNode(n, v))
	for _, a := range shortcutsBy(n, v) {
		if l := lens[a.From][a.To]; l == noRoute || l > a.Len {
			lens[a.From][a.To] = a.Len
		}
	}
	var arcs []impl.Arc
	for _, pair := range pairsOf(len(n.Nodes)) {
		if l := lens[pair.From][pair.To]; l != noRoute {
			arcs = append(arcs, arc(pair.From, pair.To, l))
		}
	}
	return arcs
}

func contractedBy(n impl.Net, v int) impl.Net {
	arcs := mergedBy(n, v)
	if len(arcs) > 70 {
		return impl.Net{}
	}
	return netOf(n.Nodes, arcs...)
}

func diffBy(n impl.Net, v int) int {
	return len(shortcutsBy(n, v)) - (len(n.Arcs) - len(withoutNode(n, v).Arcs))
}

func orderBy(n impl.Net) []int {
	var order []int
	for range n.Nodes {
		least, at := math.MaxInt, noRoute
		for u := range n.Nodes {
			if d := diffBy(n, u); d < least && !slices.Contains(order, u) {
				least, at = d, u
			}
		}
		n = contractedBy(n, at)
		if emptyNet(n) {
			return nil
		}
		order = append(order, at)
	}
	return order
}

func sameShortcuts(t *testing.T, n impl.Net, v int, want []impl.Arc) {
	t.Helper()
	if got := impl.Shortcuts(n, v); !slices.Equal(got, want) {
		t.Fatalf("Shortcuts(%v, %d) is %v, not %v", n, v, got, want)
	}
}

func sameContracted(t *testing.T, n impl.Net, v int, want impl.Net) {
	t.Helper()
	if got := impl.Contracted(n, v); !sameNet(got, want) || !impl.NetOk(got) {
		t.Fatalf("Contracted(%v, %d) is %v, not %v", n, v, got, want)
	}
}

func sameDiff(t *testing.T, n impl.Net, v int, want int) {
	t.Helper()
	if got := impl.EdgeDiff(n, v); got != want {
		t.Fatalf("EdgeDiff(%v, %d) is %d, not %d", n, v, got, want)
	}
}

func sameOrder(t *testing.T, n impl.Net, want []int) {
	t.Helper()
	if got := impl.OrderOf(n); !slices.Equal(got, want) {
		t.Fatalf("OrderOf(%v) is %v, not %v", n, got, want)
	}
}

// contractsWell checks everything about the contraction of each node.
func contractsWell(t *testing.T, n impl.Net) {
	t.Helper()
	table := tableOf(n)
	for v := range n.Nodes {
		if got, want := impl.Lone(n, v), withoutNode(n, v); !sameNet(got, want) || !impl.NetOk(got) {
			t.Fatalf("Lone(%v, %d) is %v, not %v", n, v, got, want)
		}
		sameShortcuts(t, n, v, shortcutsBy(n, v))
		sameContracted(t, n, v, contractedBy(n, v))
		sameDiff(t, n, v, diffBy(n, v))
		keepsDistances(t, n, table, v)
	}
}

// keepsDistances checks what is promised of a contraction, from the table of the distances in n.
func keepsDistances(t *testing.T, n impl.Net, table [][]int, v int) {
	t.Helper()
	got := impl.Contracted(n, v)
	if emptyNet(got) {
		return
	}
	if !slices.Equal(got.Nodes, n.Nodes) || len(withoutNode(got, v).Arcs) != len(got.Arcs) {
		t.Fatalf("Contracted(%v, %d) is %v", n, v, got)
	}
	after := tableOf(got)
	for _, pair := range pairsOf(len(n.Nodes)) {
		u, w := pair.From, pair.To
		if u != v && w != v && !isKept(table[u][w], after[u][w]) {
			t.Fatalf("without %d the distance from %d to %d in %v is %d, not %d", v, u, w, n, after[u][w], table[u][w])
		}
	}
}

// isKept reports whether a distance may be another one after a contraction: only one that is greater than MaxLen may increase or no longer exist.
func isKept(before int, after int) bool {
	return after == before || before > 10000 && (after == noRoute || after > before)
}

// contractNets have, besides others, sums around MaxLen and networks that grow when a node is contracted.
func contractNets() []impl.Net {
	nets := append(searchNets(), crowdedNet(), starNet(19, 3), starNet(10, 5000), gateNet(7, 7, 21), gateNet(7, 7, 22), gateNet(10, 9, 0))
	for salt := range 12 {
		for _, nodes := range []int{5, 8, 11, 20} {
			nets = append(nets, roughNet(nodes, 3*nodes, 2500, 2500, salt), roughNet(nodes, 4*nodes, 4995, 10, salt), roughNet(nodes, impl.MaxArcs, 1000, 3, salt))
		}
	}
	return nets
}

// roughNet is like mixedNet, but each length exceeds before, by at most that much.
func roughNet(nodes int, arcs int, before int, most int, salt int) impl.Net {
	n := mixedNet(nodes, arcs, most, salt)
	for i := range n.Arcs {
		n.Arcs[i].Len += before
	}
	return n
}

// starNet has arcs of that length between the node 0 and that many leaves, there and back.
func starNet(leaves int, length int) impl.Net {
	n := netOf(spreadPoints(leaves+1, 4))
	for u := range leaves {
		n.Arcs = append(n.Arcs, arc(0, u+1, length), arc(u+1, 0, length))
	}
	slices.SortFunc(n.Arcs, byEnds)
	return n
}

// gateNet has arcs from the first nodes, ins, to the last node, and from it to the next nodes, outs. None of the further arcs comes from one of ins, so that the last node is replaced by a shortcut from each of ins to each of outs.
func gateNet(ins int, outs int, further int) impl.Net {
	gate := impl.MaxNodes - 1
	n := netOf(spreadPoints(impl.MaxNodes, 3))
	for u := range ins {
		n.Arcs = append(n.Arcs, arc(u, gate, 100+u))
	}
	for w := range outs {
		n.Arcs = append(n.Arcs, arc(gate, ins+w, 200+w))
	}
	for _, pair := range pairsOf(gate) {
		if further > 0 && pair.From >= ins {
			n.Arcs = append(n.Arcs, pair)
			further--
		}
	}
	slices.SortFunc(n.Arcs, byEnds)
	return n
}

// crowdedNet has MaxArcs arcs of the same length, and more shortcuts than arcs for each node: there is no room for them.
func crowdedNet() impl.Net {
	n := netOf(spreadPoints(20, 1))
	for u := range n.Nodes {
		for _, step := range []int{0, 1, 3, 4} {
			if to := (11*u + step) % 20; to != u {
				n.Arcs = append(n.Arcs, arc(u, to, 10))
			}
		}
	}
	slices.SortFunc(n.Arcs, byEnds)
	return n
}

// lateNet has MaxArcs arcs between all nodes but loose, with more shortcuts than arcs for each of these. The node loose has no arcs, so that it is taken first.
func lateNet(loose int) impl.Net {
	ends := [][]int{
		{3, 5}, {2, 5, 7, 11}, {0, 4, 15}, {6, 7, 8, 9, 15}, {8, 10, 14}, {2, 4, 9, 10, 18}, {0, 13, 14, 15},
		{3, 11, 17}, {0, 2, 7, 10, 16}, {4, 7, 11}, {1, 6, 18}, {0, 5, 6, 18}, {3, 8, 15}, {2, 7, 10, 14, 18},
		{9, 12, 16, 17, 18}, {11, 13, 18}, {0, 13, 14}, {1, 10, 12, 16}, {9, 16, 17},
	}
	moved := func(u int) int {
		if u < loose {
			return u
		}
		return u + 1
	}
	n := netOf(spreadPoints(20, 1))
	for u, list := range ends {
		for _, w := range list {
			n.Arcs = append(n.Arcs, arc(moved(u), moved(w), 10))
		}
	}
	return n
}

// withArcs replaces the arcs of n that have the same ends as one of the arcs, and adds the others.
func withArcs(n impl.Net, arcs ...impl.Arc) impl.Net {
	changed := netOf(n.Nodes, slices.Clone(arcs)...)
	for _, a := range n.Arcs {
		if !slices.ContainsFunc(arcs, func(b impl.Arc) bool { return byEnds(a, b) == 0 }) {
			changed.Arcs = append(changed.Arcs, a)
		}
	}
	slices.SortFunc(changed.Arcs, byEnds)
	return changed
}

func TestContraction(t *testing.T) {
	for _, n := range contractNets() {
		if !impl.NetOk(n) {
			t.Fatalf("%v is not valid", n)
		}
		contractsWell(t, n)
	}
}

// Networks of three and four nodes, with short lengths and with sums around MaxLen.
func TestContractionOfSmallNetworks(t *testing.T) {
	check := func(n impl.Net) {
		contractsWell(t, n)
		sameOrder(t, n, orderBy(n))
	}
	visitLenNets(3, []int{0, 1, 2, 3}, check)
	visitLenNets(3, []int{0, 5000, 5001, 10000}, check)
	for _, lens := range [][]int{{0, 1, 3}, {0, 3333, 6667}, {0, 5000, 10000}} {
		count := 0
		visitLenNets(4, lens, func(n impl.Net) {
			// Every 307th of them: the number of lengths to choose from has no divisor in common with it.
			if count++; count%307 == 0 {
				check(n)
			}
		})
	}
}

func TestLoneExamples(t *testing.T) {
	n := netOf(spreadPoints(6, 2), arc(0, 1, 5), arc(1, 0, 7), arc(1, 2, 3), arc(3, 1, 2), arc(3, 2, 4), arc(5, 3, 9))
	cases := []struct {
		name string
		v    int
		want []impl.Arc
	}{
		{"no arcs", 4, n.Arcs},
		{"an arc in each direction", 0, []impl.Arc{arc(1, 2, 3), arc(3, 1, 2), arc(3, 2, 4), arc(5, 3, 9)}},
		{"arcs to it only", 2, []impl.Arc{arc(0, 1, 5), arc(1, 0, 7), arc(3, 1, 2), arc(5, 3, 9)}},
		{"arcs from it only", 5, []impl.Arc{arc(0, 1, 5), arc(1, 0, 7), arc(1, 2, 3), arc(3, 1, 2), arc(3, 2, 4)}},
		{"arcs in both directions", 1, []impl.Arc{arc(3, 2, 4), arc(5, 3, 9)}},
		{"more arcs from it than to it", 3, []impl.Arc{arc(0, 1, 5), arc(1, 0, 7), arc(1, 2, 3)}},
	}
	for _, c := range cases {
		if got := impl.Lone(n, c.v); !sameNet(got, netOf(n.Nodes, c.want...)) {
			t.Errorf("%s: Lone(%v, %d) is %v", c.name, n, c.v, got)
		}
	}
	for _, last := range []impl.Net{netOf(spreadPoints(1, 1)), starNet(5, 3)} {
		if got := impl.Lone(last, 0); !sameNet(got, netOf(last.Nodes)) {
			t.Errorf("Lone(%v, 0) is %v", last, got)
		}
	}
}

// The node 1 lies between 0 and 2 in each of these networks.
func TestShortcutsBetweenTwoNodes(t *testing.T) {
	one := []impl.Arc{arc(0, 2, 7)}
	longest := []impl.Arc{arc(0, 2, 10000)}
	cases := []struct {
		name     string
		to, from int
		others   []impl.Arc
		want     []impl.Arc
	}{
		{"no route around", 3, 4, nil, one},
		{"the shortest sum", 1, 1, nil, []impl.Arc{arc(0, 2, 2)}},
		{"a route around, one shorter", 3, 4, []impl.Arc{arc(0, 3, 3), arc(3, 2, 3)}, nil},
		{"a route around, as long", 3, 4, []impl.Arc{arc(0, 3, 3), arc(3, 2, 4)}, nil},
		{"a route around, one longer", 3, 4, []impl.Arc{arc(0, 3, 3), arc(3, 2, 5)}, one},
		{"a route around of five arcs, as long", 3, 4, []impl.Arc{arc(0, 6, 1), arc(3, 5, 1), arc(4, 2, 3), arc(5, 4, 1), arc(6, 3, 1)}, nil},
		{"a route around of five arcs, one longer", 3, 4, []impl.Arc{arc(0, 6, 1), arc(3, 5, 1), arc(4, 2, 4), arc(5, 4, 1), arc(6, 3, 1)}, one},
		{"two routes around, both longer", 3, 4, []impl.Arc{arc(0, 3, 3), arc(0, 4, 9), arc(3, 2, 5), arc(4, 2, 9)}, one},
		{"two routes around, the second as long", 3, 4, []impl.Arc{arc(0, 3, 3), arc(0, 4, 6), arc(3, 2, 5), arc(4, 2, 1)}, nil},
		{"a direct arc, shorter", 3, 4, []impl.Arc{arc(0, 2, 6)}, nil},
		{"a direct arc, as long", 3, 4, []impl.Arc{arc(0, 2, 7)}, nil},
		{"a direct arc, longer", 3, 4, []impl.Arc{arc(0, 2, 8)}, one},
		{"a direct arc, much longer", 3, 4, []impl.Arc{arc(0, 2, 10000)}, one},
		{"a direct arc, longer, and a route around, as long", 3, 4, []impl.Arc{arc(0, 2, 8), arc(0, 3, 1), arc(3, 2, 6)}, nil},
		{"a direct arc, as long, and a route around, longer", 3, 4, []impl.Arc{arc(0, 2, 7), arc(0, 3, 1), arc(3, 2, 7)}, nil},
		{"the arc back only", 3, 4, []impl.Arc{arc(2, 0, 1)}, one},
		{"a route around that leads back only", 3, 4, []impl.Arc{arc(2, 3, 1), arc(3, 0, 1)}, one},
		{"a shorter route to the node", 3, 4, []impl.Arc{arc(0, 3, 1), arc(3, 1, 1)}, []impl.Arc{arc(0, 2, 7), arc(3, 2, 5)}},
		{"a shorter route from the node", 3, 4, []impl.Arc{arc(1, 3, 1), arc(3, 2, 1)}, []impl.Arc{arc(0, 2, 7), arc(0, 3, 4)}},
		{"a route that ends before", 3, 4, []impl.Arc{arc(0, 3, 1), arc(4, 2, 1)}, one},
		{"exactly MaxLen", 4000, 6000, nil, longest},
		{"one more than MaxLen", 4000, 6001, nil, nil},
		{"exactly MaxLen by 1", 1, 9999, nil, longest},
		{"exactly MaxLen, then 1", 9999, 1, nil, longest},
		{"one more than MaxLen by 1", 10000, 1, nil, nil},
		{"one more than MaxLen from 1", 1, 10000, nil, nil},
		{"the greatest sum", 10000, 10000, nil, nil},
		{"exactly MaxLen, a route around, one longer", 5000, 5000, []impl.Arc{arc(0, 3, 5000), arc(3, 2, 5001)}, longest},
		{"exactly MaxLen, a route around, as long", 5000, 5000, []impl.Arc{arc(0, 3, 1), arc(3, 2, 9999)}, nil},
		{"exactly MaxLen, a direct arc, as long", 5000, 5000, []impl.Arc{arc(0, 2, 10000)}, nil},
		{"one more than MaxLen, a route around, longer", 5000, 5001, []impl.Arc{arc(0, 3, 5001), arc(3, 2, 5001)}, nil},
		{"one more than MaxLen, a route around, much longer", 5000, 5001, []impl.Arc{arc(0, 3, 10000), arc(3, 2, 10000)}, nil},
		{"the greatest sum, a route around, longer", 10000, 10000, []impl.Arc{arc(0, 3, 10000), arc(3, 4, 10000), arc(4, 2, 1)}, nil},
		{"one more than MaxLen, a direct arc", 5000, 5001, []impl.Arc{arc(0, 2, 10000)}, nil},
	}
	for _, c := range cases {
		t.Run(c.name, func(t *testing.T) {
			n := withArcs(netOf(spreadPoints(7, 2), arc(0, 1, c.to), arc(1, 2, c.from)), c.others...)
			sameShortcuts(t, n, 1, c.want)
			contractsWell(t, n)
		})
	}
}

func TestShortcutsExamples(t *testing.T) {
	cases := []struct {
		name string
		v    int
		want []impl.Arc
		arcs []impl.Arc
	}{
		{"no arcs", 3, nil, []impl.Arc{arc(0, 1, 3), arc(1, 2, 4)}},
		{"no arcs to it", 0, nil, []impl.Arc{arc(0, 1, 3), arc(0, 2, 9), arc(1, 2, 4)}},
		{"no arcs from it", 2, nil, []impl.Arc{arc(0, 1, 3), arc(0, 2, 9), arc(1, 2, 4)}},
		{"there and back", 1, nil, []impl.Arc{arc(0, 1, 3), arc(1, 0, 4)}},
		{"there and back, and to another node", 1, []impl.Arc{arc(0, 2, 8)}, []impl.Arc{arc(0, 1, 3), arc(1, 0, 4), arc(1, 2, 5)}},
		{"there and back, and from another node", 1, []impl.Arc{arc(2, 0, 9)}, []impl.Arc{arc(0, 1, 3), arc(1, 0, 4), arc(2, 1, 5)}},
		{"two nodes there and back", 1, []impl.Arc{arc(0, 2, 9), arc(2, 0, 9)}, []impl.Arc{arc(0, 1, 3), arc(1, 0, 4), arc(1, 2, 6), arc(2, 1, 5)}},
		{"a witness in one direction only", 1, []impl.Arc{arc(2, 0, 9)}, []impl.Arc{arc(0, 1, 3), arc(0, 2, 9), arc(1, 0, 4), arc(1, 2, 6), arc(2, 1, 5)}},
		{"the first node", 0, []impl.Arc{arc(1, 3, 7), arc(1, 4, 6), arc(2, 3, 6), arc(2, 4, 5)}, []impl.Arc{arc(0, 3, 4), arc(0, 4, 3), arc(1, 0, 3), arc(2, 0, 2)}},
		{"the last node", 5, []impl.Arc{arc(1, 3, 7), arc(1, 4, 6), arc(2, 3, 6), arc(2, 4, 5)}, []impl.Arc{arc(1, 5, 3), arc(2, 5, 2), arc(5, 3, 4), arc(5, 4, 3)}},
		{"a node in the middle", 3, []impl.Arc{arc(0, 2, 11), arc(0, 5, 12), arc(1, 2, 21), arc(1, 5, 22), arc(4, 2, 31), arc(4, 5, 32)}, []impl.Arc{arc(0, 3, 10), arc(1, 3, 20), arc(3, 2, 1), arc(3, 5, 2), arc(4, 3, 30)}},
		{"from greater nodes to smaller ones", 2, []impl.Arc{arc(3, 0, 11), arc(3, 1, 12), arc(4, 0, 12), arc(4, 1, 13)}, []impl.Arc{arc(2, 0, 1), arc(2, 1, 2), arc(3, 2, 10), arc(4, 2, 11)}},
		{"a witness for one of two ends", 1, []impl.Arc{arc(0, 3, 8)}, []impl.Arc{arc(0, 1, 3), arc(0, 4, 1), arc(1, 2, 4), arc(1, 3, 5), arc(4, 2, 1)}},
		{"a witness for one of two starts", 1, []impl.Arc{arc(3, 2, 9)}, []impl.Arc{arc(0, 1, 3), arc(0, 4, 1), arc(1, 2, 4), arc(3, 1, 5), arc(4, 2, 1)}},
		{"a shortcut is no witness for another one", 1, []impl.Arc{arc(0, 2, 7), arc(0, 3, 8)}, []impl.Arc{arc(0, 1, 3), arc(1, 2, 4), arc(1, 3, 5), arc(2, 3, 2)}},
		{"an arc behind a shortcut", 1, []impl.Arc{arc(0, 2, 7), arc(0, 3, 8)}, []impl.Arc{arc(0, 1, 3), arc(1, 2, 4), arc(1, 3, 5), arc(2, 3, 1)}},
		{"one of two sums is too long", 1, []impl.Arc{arc(0, 3, 10000)}, []impl.Arc{arc(0, 1, 5000), arc(1, 2, 5001), arc(1, 3, 5000)}},
		{"one of two starts is too far", 1, []impl.Arc{arc(3, 2, 10000)}, []impl.Arc{arc(0, 1, 5001), arc(1, 2, 5000), arc(3, 1, 5000)}},
		{"two routes with a node each between the same ends", 1, []impl.Arc{arc(0, 2, 7)}, []impl.Arc{arc(0, 1, 3), arc(0, 3, 4), arc(1, 2, 4), arc(3, 2, 4)}},
	}
	for _, c := range cases {
		t.Run(c.name, func(t *testing.T) {
			n := netOf(spreadPoints(6, 2), c.arcs...)
			sameShortcuts(t, n, c.v, c.want)
			contractsWell(t, n)
		})
	}
}

// A network has at most one pair of arcs by a node between the same ends; only by several nodes, contracted one after the other, there are several sums, of which the shortest remains.
func TestTheShortestOfSeveralSumsRemains(t *testing.T) {
	for _, lens := range [][]int{{7, 8, 9}, {9, 8, 7}, {8, 7, 9}, {7, 7, 7}, {9, 7, 7}, {10001, 12000, 9}, {9, 10001, 10000}} {
		n := netOf(spreadPoints(5, 2))
		for i, l := range lens {
			n = withArcs(n, arc(0, i+1, l-l/2), arc(i+1, 4, l/2))
		}
		for _, order := range [][]int{{1, 2, 3}, {1, 3, 2}, {2, 1, 3}, {2, 3, 1}, {3, 1, 2}, {3, 2, 1}} {
			left := n
			for _, v := range order {
				contractsWell(t, left)
				left = impl.Contracted(left, v)
			}
			if !sameNet(left, netOf(n.Nodes, arc(0, 4, slices.Min(lens)))) {
				t.Fatalf("without the nodes %v, in this order, %v is %v", order, n, left)
			}
		}
	}
}

// There are as many shortcuts as there can be; no two of them have the same ends.
func TestManyShortcuts(t *testing.T) {
	for ins := range impl.MaxNodes {
		outs := impl.MaxNodes - 1 - ins
		n := gateNet(ins, outs, 0)
		var want []impl.Arc
		for u := range ins {
			for w := range outs {
				want = append(want, arc(u, ins+w, 300+u+w))
			}
		}
		sameShortcuts(t, n, 19, want)
		sameDiff(t, n, 19, ins*outs-19)
		contractsWell(t, n)
	}
	star := starNet(19, 5000)
	var want []impl.Arc
	for _, pair := range pairsOf(20) {
		if pair.From > 0 && pair.To > 0 {
			want = append(want, arc(pair.From, pair.To, 10000))
		}
	}
	sameShortcuts(t, star, 0, want)
	sameDiff(t, star, 0, 19*18-2*19)
	sameContracted(t, star, 0, impl.Net{})
	sameShortcuts(t, starNet(19, 5001), 0, nil)
	sameDiff(t, starNet(19, 5001), 0, -38)
}

func TestContractedExamples(t *testing.T) {
	through := []impl.Arc{arc(0, 1, 3), arc(1, 2, 4)}
	cases := []struct {
		name         string
		others, want []impl.Arc
	}{
		{"a new arc", nil, []impl.Arc{arc(0, 2, 7)}},
		{"a new arc between others", []impl.Arc{arc(0, 3, 1), arc(2, 0, 5), arc(3, 0, 2)}, []impl.Arc{arc(0, 2, 7), arc(0, 3, 1), arc(2, 0, 5), arc(3, 0, 2)}},
		{"a new arc behind others", []impl.Arc{arc(4, 1, 3)}, []impl.Arc{arc(0, 2, 7), arc(4, 2, 7)}},
		{"an arc of the network is one longer", []impl.Arc{arc(0, 2, 8)}, []impl.Arc{arc(0, 2, 7)}},
		{"an arc of the network is much longer", []impl.Arc{arc(0, 2, 10000)}, []impl.Arc{arc(0, 2, 7)}},
		{"an arc of the network has the same length", []impl.Arc{arc(0, 2, 7)}, []impl.Arc{arc(0, 2, 7)}},
		{"an arc of the network is one shorter", []impl.Arc{arc(0, 2, 6)}, []impl.Arc{arc(0, 2, 6)}},
		{"an arc of the network is much shorter", []impl.Arc{arc(0, 2, 1)}, []impl.Arc{arc(0, 2, 1)}},
		{"the arc is longer, but another route is not", []impl.Arc{arc(0, 2, 9), arc(0, 3, 3), arc(3, 2, 4)}, []impl.Arc{arc(0, 2, 9), arc(0, 3, 3), arc(3, 2, 4)}},
		{"an arc back", []impl.Arc{arc(2, 0, 9)}, []impl.Arc{arc(0, 2, 7), arc(2, 0, 9)}},
		{"there and back", []impl.Arc{arc(1, 0, 5), arc(2, 0, 9), arc(2, 1, 6)}, []impl.Arc{arc(0, 2, 7), arc(2, 0, 9)}},
		{"there and back, shorter", []impl.Arc{arc(1, 0, 2), arc(2, 0, 9), arc(2, 1, 6)}, []impl.Arc{arc(0, 2, 7), arc(2, 0, 8)}},
		{"an arc without a shortcut stays", []impl.Arc{arc(3, 4, 10000)}, []impl.Arc{arc(0, 2, 7), arc(3, 4, 10000)}},
		{"an arc to the node alone is lost", []impl.Arc{arc(1, 4, 9998), arc(3, 1, 9999)}, []impl.Arc{arc(0, 2, 7)}},
	}
	for _, c := range cases {
		t.Run(c.name, func(t *testing.T) {
			n := withArcs(netOf(spreadPoints(5, 2), through...), c.others...)
			sameContracted(t, n, 1, netOf(n.Nodes, c.want...))
			contractsWell(t, n)
		})
	}
	lone := netOf(spreadPoints(3, 2), arc(0, 2, 5), arc(2, 0, 6))
	sameContracted(t, lone, 1, lone)
	sameContracted(t, lone, 0, netOf(lone.Nodes))
	sameContracted(t, netOf(spreadPoints(1, 2)), 0, netOf(spreadPoints(1, 2)))
	sameContracted(t, sampleNet(), 1, netOf(sampleNet().Nodes, arc(0, 2, 20), arc(0, 3, 15), arc(2, 0, 20), arc(3, 2, 15)))
}

// Exactly MaxArcs arcs, and one more.
func TestRoomForArcs(t *testing.T) {
	for further := range 30 {
		n := gateNet(7, 7, further)
		got := impl.Contracted(n, 19)
		if len(n.Arcs) != 14+further || emptyNet(got) != (49+further > 70) || !emptyNet(got) && len(got.Arcs) != 49+further {
			t.Fatalf("with %d arcs that stay, Contracted is %v", further, got)
		}
		contractsWell(t, n)
	}
	// Now arcs that shortcuts replace count once.
	for further := range 30 {
		n := withArcs(gateNet(7, 7, further), arc(0, 7, 301), arc(6, 13, 10000), arc(3, 8, 305))
		got := impl.Contracted(n, 19)
		if len(n.Arcs) != 17+further || emptyNet(got) != (49+further > 70) || !emptyNet(got) && len(got.Arcs) != 49+further {
			t.Fatalf("with %d arcs that stay and three that are replaced, Contracted is %v", further, got)
		}
		contractsWell(t, n)
	}
	// Without a shortcut there is room even if the network has MaxArcs arcs.
	late := lateNet(7)
	sameContracted(t, late, 7, late)
	late.Arcs = slices.DeleteFunc(late.Arcs, func(a impl.Arc) bool { return a.From == 19 && a.To == 18 })
	full := withArcs(late, arc(7, 0, 1))
	if len(full.Arcs) != 70 || len(late.Arcs) != 69 {
		t.Fatalf("%v is not full", full)
	}
	sameContracted(t, full, 7, late)
}

func TestEdgeDiffExamples(t *testing.T) {
	cases := []struct {
		name string
		n    impl.Net
		v    int
		want int
	}{
		{"neither shortcuts nor arcs", netOf(spreadPoints(3, 2), arc(0, 1, 5)), 2, 0},
		{"neither shortcuts nor arcs, one node", netOf(spreadPoints(1, 2)), 0, 0},
		{"no shortcuts, arcs to it", starNet(4, 3), 2, -2},
		{"no shortcuts, one arc to it", chainNet(upTo(3), 4), 2, -1},
		{"no shortcuts, one arc from it", chainNet(upTo(3), 4), 0, -1},
		{"one shortcut", chainNet(upTo(3), 4), 1, -1},
		{"no shortcut, because it is too long", chainNet(upTo(3), 5001), 1, -2},
		{"no shortcut, because of a direct arc", chainNet(upTo(3), 4, arc(0, 2, 8)), 1, -2},
		{"a shortcut that replaces an arc", chainNet(upTo(3), 4, arc(0, 2, 9)), 1, -1},
		{"there and back, two neighbors", starNet(2, 3), 0, -2},
		{"there and back, three neighbors", starNet(3, 3), 0, 0},
		{"there and back, four neighbors", starNet(4, 3), 0, 4},
		{"two there and two others back", gateNet(2, 2, 0), 19, 0},
		{"three there and three others back", gateNet(3, 3, 0), 19, 3},
		{"more shortcuts than there is room for", gateNet(10, 9, 0), 19, 71},
		{"the most arcs without a shortcut", gateNet(19, 0, 0), 19, -19},
		{"the sample", sampleNet(), 1, -2},
	}
	for _, c := range cases {
		t.Run(c.name, func(t *testing.T) {
			sameDiff(t, c.n, c.v, c.want)
			sameDiff(t, impl.Turned(c.n), c.v, c.want)
		})
	}
}

func TestOrderOfExamples(t *testing.T) {
	cases := []struct {
		name string
		n    impl.Net
		want []int
	}{
		{"no nodes", impl.Net{}, nil},
		{"no nodes, empty lists", impl.Net{Nodes: []impl.Pt{}, Arcs: []impl.Arc{}}, nil},
		{"one node", netOf(spreadPoints(1, 2)), []int{0}},
		{"two nodes without arcs", netOf(spreadPoints(2, 2)), []int{0, 1}},
		{"many nodes without arcs", netOf(spreadPoints(20, 2)), upTo(20)},
		{"the sample", sampleNet(), []int{0, 1, 2, 3}},
		{"a tie of all", chainNet(upTo(4), 5), []int{0, 1, 2, 3}},
		{"a tie of all in a ring", ringNet(6, 5), []int{0, 1, 2, 3, 4, 5}},
		{"nodes without arcs after others", netOf(spreadPoints(5, 2), arc(3, 4, 7)), []int{3, 0, 1, 2, 4}},
		{"a node with many arcs and no shortcuts", netOf(spreadPoints(4, 2), arc(3, 0, 7), arc(3, 1, 7), arc(3, 2, 7)), []int{3, 0, 1, 2}},
		{"a center that is taken when it has few arcs", starNet(4, 3), []int{1, 2, 0, 3, 4}},
		{"a center whose shortcuts are too long", starNet(4, 5001), []int{0, 1, 2, 3, 4}},
		{"a center whose shortcuts are just not too long", starNet(4, 5000), []int{1, 2, 0, 3, 4}},
		{"a direct arc that is as long", chainNet(upTo(4), 5, arc(1, 3, 10)), []int{2, 0, 1, 3}},
		{"a direct arc that is longer", chainNet(upTo(4), 5, arc(1, 3, 11)), []int{3, 0, 1, 2}},
	}
	for _, c := range cases {
		t.Run(c.name, func(t *testing.T) {
			sameOrder(t, c.n, c.want)
			sameOrder(t, c.n, orderBy(c.n))
		})
	}
}

// In a network without room for any contraction there is no order, whether that shows at once, after a node without arcs, or only because the node to take is the wrong one.
func TestOrderWithoutRoom(t *testing.T) {
	crowded := crowdedNet()
	if len(crowded.Arcs) != 70 || !impl.NetOk(crowded) {
		t.Fatalf("%v has not the arcs that it should have", crowded)
	}
	for v := range crowded.Nodes {
		sameContracted(t, crowded, v, impl.Net{})
	}
	sameOrder(t, crowded, nil)
	for loose := range 20 {
		n := lateNet(loose)
		if len(n.Arcs) != 70 || !impl.NetOk(n) {
			t.Fatalf("%v has not the arcs that it should have", n)
		}
		for v := range n.Nodes {
			if got := impl.Contracted(n, v); emptyNet(got) == (v == loose) || impl.EdgeDiff(n, v) < 0 {
				t.Fatalf("Contracted(%v, %d) is %v", n, v, got)
			}
		}
		sameOrder(t, n, nil)
		contractsWell(t, n)
	}
	wrong := withArcs(crowded, arc(2, 3, 21), arc(7, 0, 5), arc(10, 14, 15), arc(11, 2, 1), arc(11, 5, 21))
	some := slices.ContainsFunc(upTo(20), func(v int) bool { return !emptyNet(impl.Contracted(wrong, v)) })
	if len(wrong.Arcs) != 70 || !some {
		t.Fatalf("no node of %v can be contracted", wrong)
	}
	sameOrder(t, wrong, nil)
	contractsWell(t, wrong)
}

func TestOrderOf(t *testing.T) {
	for i, n := range contractNets() {
		// Of the large networks every third one.
		if len(n.Nodes) <= 8 || i%3 == 0 {
			sameOrder(t, n, orderBy(n))
		}
	}
}

// shuffled returns the numbers below count in an irregular order that is the same in every run.
func shuffled(count int, salt int) []int {
	return rand.New(rand.NewPCG(uint64(count), uint64(salt))).Perm(count)
}

// Whatever nodes are contracted, in whatever order, the distances between the others are left, until there is no room.
func TestContractionOfManyNodes(t *testing.T) {
	checked, whole := 0, 0
	for salt, n := range contractNets() {
		table := tableOf(n)
		for _, order := range [][]int{downFrom(len(n.Nodes)), shuffled(len(n.Nodes), salt), impl.OrderOf(n)} {
			left := n
			for i, v := range order {
				if left = impl.Contracted(left, v); emptyNet(left) {
					break
				}
				keptBetween(t, n, table, left, order[i+1:])
				checked++
			}
			if len(left.Nodes) > 0 {
				whole++
			}
		}
	}
	if checked < 10000 || whole < 1000 {
		t.Errorf("only %d contractions are checked, and %d orders to their ends", checked, whole)
	}
}

// keptBetween checks the distances between the nodes that are left.
func keptBetween(t *testing.T, n impl.Net, table [][]int, left impl.Net, nodes []int) {
	t.Helper()
	if !impl.NetOk(left) {
		t.Fatalf("%v, left of %v, is not valid", left, n)
	}
	for _, u := range nodes {
		dists := impl.DistFrom(left, u)
		for _, w := range nodes {
			if !isKept(table[u][w], dists[w]) {
				t.Fatalf("in %v, left of %v, the distance from %d to %d is %d, not %d", left, n, u, w, dists[w], table[u][w])
			}
		}
	}
}

// Where a shortcut would be too long, the distance is lost; this is all that the promise leaves open.
func TestDistancesThatAreTooLong(t *testing.T) {
	for _, c := range []struct{ to, from, want int }{{5000, 5000, 10000}, {5000, 5001, noRoute}, {10000, 1, noRoute}, {1, 10000, noRoute}, {9999, 1, 10000}} {
		n := netOf(spreadPoints(3, 2), arc(0, 1, c.to), arc(1, 2, c.from))
		if got := impl.Between(impl.Contracted(n, 1), 0, 2); got != c.want {
			t.Errorf("by arcs of %d and %d the distance is %d, not %d", c.to, c.from, got, c.want)
		}
	}
	around := netOf(spreadPoints(4, 2), arc(0, 1, 5000), arc(0, 3, 10000), arc(1, 2, 5001), arc(3, 2, 10000))
	sameContracted(t, around, 1, netOf(around.Nodes, arc(0, 3, 10000), arc(3, 2, 10000)))
	// The shortest route by the node is too long as a whole, but not the part that a shortcut replaces.
	long := chainNet(upTo(5), 5000)
	sameContracted(t, long, 2, netOf(long.Nodes, arc(0, 1, 5000), arc(1, 3, 10000), arc(3, 4, 5000)))
	sameOrder(t, chainNet(upTo(20), impl.MaxLen), orderBy(chainNet(upTo(20), impl.MaxLen)))
}

func TestContractionOfNodesThatDoNotExist(t *testing.T) {
	for _, n := range []impl.Net{{}, {Nodes: []impl.Pt{}, Arcs: []impl.Arc{}}, netOf(spreadPoints(1, 1)), twoNet(arc(0, 1, 5)), sampleNet(), fullNet(), slowNet(), crowdedNet()} {
		for _, v := range outsiders(len(n.Nodes)) {
			rejected(t, "no such node", n, v)
		}
	}
}

// rejected checks that the four functions of a node return zero values.
func rejected(t *testing.T, name string, n impl.Net, v int) {
	t.Helper()
	if got := impl.Lone(n, v); got.Nodes != nil || got.Arcs != nil {
		t.Errorf("%s: Lone(%v, %d) is %v", name, n, v, got)
	}
	if got := impl.Shortcuts(n, v); got != nil {
		t.Errorf("%s: Shortcuts(%v, %d) is %v", name, n, v, got)
	}
	if got := impl.Contracted(n, v); got.Nodes != nil || got.Arcs != nil {
		t.Errorf("%s: Contracted(%v, %d) is %v", name, n, v, got)
	}
	if got := impl.EdgeDiff(n, v); got != 0 {
		t.Errorf("%s: EdgeDiff(%v, %d) is %d", name, n, v, got)
	}
}

func TestContractionOfInvalidNetworks(t *testing.T) {
	for _, b := range badNets() {
		for _, v := range everyNode(b.net)[:min(15, len(b.net.Nodes)+7)] {
			rejected(t, b.name, b.net, v)
		}
		if got := impl.OrderOf(b.net); got != nil {
			t.Errorf("%s: OrderOf is %v", b.name, got)
		}
	}
	// Two arcs with the same ends would be two pairs; such a network is not valid.
	twice := netOf(spreadPoints(3, 2), arc(0, 1, 3), arc(0, 1, 4), arc(1, 2, 5))
	for v := range 3 {
		rejected(t, "two arcs with the same ends", twice, v)
	}
}

// The results do not depend on how the searches run: with one processor or several, alone or beside other calls.
func TestContractionIsTheSameInEveryRun(t *testing.T) {
	before := runtime.GOMAXPROCS(0)
	defer runtime.GOMAXPROCS(before)
	nets := []impl.Net{gateNet(10, 9, 0), gateNet(9, 10, 20), starNet(19, 3), crowdedNet(), fullNet(), streetNet()}
	for _, procs := range []int{1, 2, before} {
		runtime.GOMAXPROCS(procs)
		var calls sync.WaitGroup
		for _, n := range nets {
			order := orderBy(n)
			for range 4 {
				calls.Go(func() {
					for range 3 {
						for v := range n.Nodes {
							if got, want := impl.Shortcuts(n, v), shortcutsBy(n, v); !slices.Equal(got, want) {
								t.Errorf("Shortcuts(%v, %d) is %v, not %v", n, v, got, want)
							}
						}
						if got := impl.OrderOf(n); !slices.Equal(got, order) {
							t.Errorf("OrderOf(%v) is %v, not %v", n, got, order)
						}
					}
				})
			}
		}
		calls.Wait()
	}
}

// When a call has returned, none of its searches goes on.
func TestNoSearchIsLeft(t *testing.T) {
	before := runtime.NumGoroutine()
	for range 200 {
		impl.Shortcuts(gateNet(10, 9, 0), 19)
		impl.Shortcuts(netOf(nil, arc(0, 1, 5)), 1)
		impl.Contracted(starNet(19, 3), 0)
		impl.EdgeDiff(starNet(19, 5001), 0)
	}
	impl.OrderOf(crowdedNet())
	// A search has its last step still before it when it has told that it is done.
	for range 1000 {
		if runtime.NumGoroutine() <= before {
			return
		}
		time.Sleep(time.Millisecond)
	}
	t.Errorf("of %d there are %d left", before, runtime.NumGoroutine())
}

func TestContractionDoesNotModifyOrShare(t *testing.T) {
	for _, plain := range append(allNets(), slowNet(), streetNet(), starNet(9, 3), gateNet(7, 7, 21), lateNet(19)) {
		n, unchanged := roomyNet(plain)
		for v := range min(len(n.Nodes)+1, 22) {
			nets := []impl.Net{impl.Lone(n, v), impl.Contracted(n, v), impl.Lone(n, v), impl.Contracted(n, v)}
			lists := [][]impl.Arc{impl.Shortcuts(n, v), impl.Shortcuts(n, v)}
			diff := impl.EdgeDiff(n, v)
			if !sameNet(nets[0], impl.Lone(plain, v)) || !sameNet(nets[1], impl.Contracted(plain, v)) || !slices.Equal(lists[0], impl.Shortcuts(plain, v)) || diff != impl.EdgeDiff(plain, v) {
				t.Fatalf("the spare capacity behind %v counts", plain)
			}
			for i := range 2 {
				spoil(nets[i].Nodes, pt(-3, -3))
				spoil(nets[i].Arcs, arc(-3, -3, -3))
			}
			spoil(lists[0], arc(-3, -3, -3))
			if !sameNet(nets[2], impl.Lone(plain, v)) || !sameNet(nets[3], impl.Contracted(plain, v)) || !slices.Equal(lists[1], impl.Shortcuts(plain, v)) {
				t.Fatalf("two results for the node %d of %v share memory", v, plain)
			}
		}
		order := impl.OrderOf(n)
		again := impl.OrderOf(n)
		if !slices.Equal(order, impl.OrderOf(plain)) {
			t.Fatalf("the spare capacity behind %v counts", plain)
		}
		if spoil(order, -5); !slices.Equal(again, impl.OrderOf(plain)) {
			t.Fatalf("two orders of %v share memory", plain)
		}
		if !unchanged() {
			t.Fatalf("%v was changed to %v", plain, n)
		}
	}
}

// Arcs and nodes that lie behind those of a network are not part of it.
func TestSpareArcsAreNotRead(t *testing.T) {
	whole := netOf(spreadPoints(5, 2), arc(0, 1, 3), arc(1, 2, 4), arc(1, 3, 5), arc(2, 3, 1))
	n := impl.Net{Nodes: whole.Nodes[:3], Arcs: whole.Arcs[:2]}
	sameContracted(t, n, 1, netOf(whole.Nodes[:3], arc(0, 2, 7)))
	sameContracted(t, n, 0, netOf(whole.Nodes[:3], arc(1, 2, 4)))
	sameOrder(t, n, []int{0, 1, 2})
	rejected(t, "a node behind the others", n, 3)
	if !slices.Equal(whole.Arcs, []impl.Arc{arc(0, 1, 3), arc(1, 2, 4), arc(1, 3, 5), arc(2, 3, 1)}) {
		t.Errorf("the arcs are %v", whole.Arcs)
	}
}
