package tests

import (
	"math/rand/v2"
	"slices"
	"testing"

	"loop.example/g00640/impl"
)

// noRoute is what the document says Far is.
const noRoute = -1

// lenNet has an arc for each pair of nodes whose length is not 0, in the order of pairsOf.
func lenNet(nodes int, lens []int) impl.Net {
	n := netOf(spreadPoints(nodes, 4))
	for i, a := range pairsOf(nodes) {
		if lens[i] != 0 {
			n.Arcs = append(n.Arcs, arc(a.From, a.To, lens[i]))
		}
	}
	return n
}

// visitLenNets visits the networks of that many nodes in which each pair has one of the lengths.
func visitLenNets(nodes int, choices []int, visit func(n impl.Net)) {
	lens := make([]int, len(pairsOf(nodes)))
	var fill func(i int)
	fill = func(i int) {
		if i == len(lens) {
			visit(lenNet(nodes, lens))
			return
		}
		for _, l := range choices {
			lens[i] = l
			fill(i + 1)
		}
	}
	fill(0)
}

// mixedNet has irregularly chosen arcs of at most that length; it is the same in every run.
func mixedNet(nodes int, arcs int, longest int, salt int) impl.Net {
	random := rand.New(rand.NewPCG(uint64(salt), uint64(nodes*1000+arcs)))
	pairs := pairsOf(nodes)
	random.Shuffle(len(pairs), func(i, j int) { pairs[i], pairs[j] = pairs[j], pairs[i] })
	n := netOf(spreadPoints(nodes, salt))
	for _, a := range pairs[:min(arcs, len(pairs), impl.MaxArcs)] {
		n.Arcs = append(n.Arcs, arc(a.From, a.To, 1+random.IntN(longest)))
	}
	slices.SortFunc(n.Arcs, byEnds)
	return n
}

// chainNet has the arcs of a route of that length each, and further arcs.
func chainNet(route []int, length int, further ...impl.Arc) impl.Net {
	arcs := slices.Clone(further)
	for i := range len(route) - 1 {
		arcs = append(arcs, arc(route[i], route[i+1], length))
	}
	slices.SortFunc(arcs, byEnds)
	return netOf(spreadPoints(slices.Max(route)+1, 2), arcs...)
}

// upTo returns the numbers from 0 to the one before count.
func upTo(count int) []int {
	list := make([]int, count)
	for i := range list {
		list[i] = i
	}
	return list
}

func downFrom(count int) []int {
	list := upTo(count)
	slices.Reverse(list)
	return list
}

// stridden returns the numbers below count in steps of a stride that has no divisor in common with it.
func stridden(count int, stride int) []int {
	list := upTo(count)
	for i := range list {
		list[i] = i * stride % count
	}
	return list
}

// slowNet has MaxNodes nodes and MaxArcs arcs of length MaxLen; a route from the first node to the last one passes all others. There are routes back from the first eleven nodes only.
func slowNet() impl.Net {
	var back []impl.Arc
	for _, a := range pairsOf(impl.MaxNodes) {
		if a.From > a.To && len(back) < impl.MaxArcs-(impl.MaxNodes-1) {
			back = append(back, arc(a.From, a.To, impl.MaxLen))
		}
	}
	return chainNet(upTo(impl.MaxNodes), impl.MaxLen, back...)
}

func distanceNets() []impl.Net {
	nets := append(goodNets(), slowNet(), impl.Turned(slowNet()))
	for salt := range 12 {
		for _, nodes := range []int{5, 8, 13, 19, 20} {
			nets = append(nets, mixedNet(nodes, nodes, 9, salt), mixedNet(nodes, 2*nodes, 50, salt), mixedNet(nodes, impl.MaxArcs, impl.MaxLen, salt))
		}
	}
	for _, route := range [][]int{upTo(20), downFrom(20), stridden(20, 3), stridden(20, 7), stridden(20, 11), stridden(19, 8)} {
		nets = append(nets, chainNet(route, 1), chainNet(route, impl.MaxLen), chainNet(route, 2, arc(route[0], route[len(route)-1], 40)))
	}
	return nets
}

// tableOf computes the distances between all nodes, step by step with one more node allowed in between.
func tableOf(n impl.Net) [][]int {
	table := make([][]int, len(n.Nodes))
	for u := range table {
		table[u] = slices.Repeat([]int{noRoute}, len(n.Nodes))
		table[u][u] = 0
	}
	for _, a := range n.Arcs {
		table[a.From][a.To] = a.Len
	}
	for via := range table {
		for u := range table {
			for v := range table {
				one, two := table[u][via], table[via][v]
				if one != noRoute && two != noRoute && (table[u][v] == noRoute || one+two < table[u][v]) {
					table[u][v] = one + two
				}
			}
		}
	}
	return table
}

// shortestOf tries all routes without a repeated node.
func shortestOf(n impl.Net, route []int, t int) int {
	u := route[len(route)-1]
	if u == t {
		return 0
	}
	best := noRoute
	for _, a := range n.Arcs {
		if a.From != u || slices.Contains(route, a.To) {
			continue
		}
		rest := shortestOf(n, append(slices.Clone(route), a.To), t)
		if rest != noRoute && (best == noRoute || a.Len+rest < best) {
			best = a.Len + rest
		}
	}
	return best
}

// columnOf returns the distances to t.
func columnOf(table [][]int, t int) []int {
	var list []int
	for _, row := range table {
		list = append(list, row[t])
	}
	return list
}

// smallestOf returns the smallest node in each node's strongly connected component.
func smallestOf(table [][]int) []int {
	var list []int
	for u := range table {
		list = append(list, slices.IndexFunc(upTo(len(table)), func(v int) bool { return table[u][v] != noRoute && table[v][u] != noRoute }))
	}
	return list
}

func sameDistances(t *testing.T, n impl.Net, table [][]int) {
	t.Helper()
	for u := range n.Nodes {
		if got := impl.DistFrom(n, u); !slices.Equal(got, table[u]) {
			t.Fatalf("DistFrom(%v, %d) is %v, not %v", n, u, got, table[u])
		}
		if got, want := impl.DistTo(n, u), columnOf(table, u); !slices.Equal(got, want) {
			t.Fatalf("DistTo(%v, %d) is %v, not %v", n, u, got, want)
		}
		for v := range n.Nodes {
			if got := impl.Between(n, u, v); got != table[u][v] {
				t.Fatalf("Between(%v, %d, %d) is %d, not %d", n, u, v, got, table[u][v])
			}
		}
	}
	if got, want := impl.Parts(n), smallestOf(table); !slices.Equal(got, want) {
		t.Fatalf("Parts(%v) is %v, not %v", n, got, want)
	}
	if !impl.SameDists(n, n) {
		t.Fatalf("SameDists of %v and itself is false", n)
	}
}

func TestFar(t *testing.T) {
	if impl.Far != -1 {
		t.Errorf("Far is %d", impl.Far)
	}
}

func TestDistances(t *testing.T) {
	for _, n := range distanceNets() {
		if !impl.NetOk(n) {
			t.Fatalf("%v is not valid", n)
		}
		sameDistances(t, n, tableOf(n))
	}
}

// Every network of three nodes with these lengths, and every set of arcs on four nodes, against all their routes.
func TestDistancesOfSmallNetworks(t *testing.T) {
	check := func(n impl.Net) {
		table := make([][]int, len(n.Nodes))
		for u := range table {
			for v := range table {
				table[u] = append(table[u], shortestOf(n, []int{u}, v))
			}
		}
		sameDistances(t, n, table)
	}
	visitLenNets(3, []int{0, 1, 2, 4}, check)
	visitLenNets(4, []int{0, 3}, check)
}

func TestDistancesOfTheSample(t *testing.T) {
	want := [][]int{{0, 10, 20, 15}, {10, 0, 10, 25}, {20, 10, 0, 35}, {35, 25, 15, 0}}
	sameDistances(t, sampleNet(), want)
	if got := impl.Parts(sampleNet()); !slices.Equal(got, []int{0, 0, 0, 0}) {
		t.Errorf("Parts of the sample is %v", got)
	}
}

// The triangle inequality holds, with equality along some arc for each distance but that of a node to itself.
func TestDistancesAreAttainedAlongArcs(t *testing.T) {
	for _, n := range distanceNets() {
		for s := range n.Nodes {
			from, to := impl.DistFrom(n, s), impl.DistTo(n, s)
			if from[s] != 0 || to[s] != 0 {
				t.Fatalf("in %v the node %d is not at the distance 0 from itself", n, s)
			}
			for v := range n.Nodes {
				if v != s && from[v] != noRoute && !slices.ContainsFunc(n.Arcs, func(a impl.Arc) bool { return a.To == v && from[a.From] != noRoute && from[a.From]+a.Len == from[v] }) {
					t.Fatalf("in %v no arc attains the distance %d from %d to %d", n, from[v], s, v)
				}
				if v != s && to[v] != noRoute && !slices.ContainsFunc(n.Arcs, func(a impl.Arc) bool { return a.From == v && to[a.To] != noRoute && a.Len+to[a.To] == to[v] }) {
					t.Fatalf("in %v no arc attains the distance %d from %d to %d", n, to[v], v, s)
				}
			}
		}
	}
}

func TestTriangleInequality(t *testing.T) {
	for _, n := range distanceNets() {
		for _, a := range n.Arcs {
			if d := impl.Between(n, a.From, a.To); d < 1 || d > a.Len {
				t.Fatalf("in %v the distance along the arc %v is %d", n, a, d)
			}
		}
		var table [][]int
		for u := range n.Nodes {
			table = append(table, impl.DistFrom(n, u))
		}
		for u := range table {
			for v := range table {
				for w := range table {
					one, two, whole := table[u][v], table[v][w], table[u][w]
					if one != noRoute && two != noRoute && (whole == noRoute || whole > one+two) {
						t.Fatalf("in %v the distances of %d, %d and %d are %d, %d and %d", n, u, v, w, one, two, whole)
					}
				}
			}
		}
	}
}

func TestUnreachableNodes(t *testing.T) {
	three := spreadPoints(3, 7)
	cases := []struct {
		name string
		net  impl.Net
		want [][]int
	}{
		{"one direction", netOf(three[:2], arc(0, 1, 7)), [][]int{{0, 7}, {-1, 0}}},
		{"the other direction", netOf(three[:2], arc(1, 0, 1)), [][]int{{0, -1}, {1, 0}}},
		{"neither direction", netOf(three[:2]), [][]int{{0, -1}, {-1, 0}}},
		{"arcs of length 1 from what is not reached", netOf(three, arc(1, 2, 1), arc(2, 1, 1)), [][]int{{0, -1, -1}, {-1, 0, 1}, {-1, 1, 0}}},
		{"arcs of length 1 to the start", netOf(three, arc(1, 0, 1), arc(2, 1, 1)), [][]int{{0, -1, -1}, {1, 0, -1}, {2, 1, 0}}},
		{"two starts", netOf(three, arc(0, 2, 2), arc(1, 2, 3)), [][]int{{0, -1, 2}, {-1, 0, 3}, {-1, -1, 0}}},
		{"two ends", netOf(three, arc(1, 0, 2), arc(1, 2, 3)), [][]int{{0, -1, -1}, {2, 0, 3}, {-1, -1, 0}}},
		{"a loose node between", netOf(three, arc(0, 2, 4), arc(2, 0, 6)), [][]int{{0, -1, 4}, {-1, 0, -1}, {6, -1, 0}}},
	}
	for _, c := range cases {
		t.Run(c.name, func(t *testing.T) { sameDistances(t, c.net, c.want) })
	}
}

func TestNetworksWithoutArcs(t *testing.T) {
	for _, n := range []impl.Net{{}, {Nodes: []impl.Pt{}, Arcs: []impl.Arc{}}} {
		if got := impl.Parts(n); len(got) != 0 {
			t.Errorf("Parts of the empty network is %v", got)
		}
		if impl.DistFrom(n, 0) != nil || impl.DistTo(n, 0) != nil || impl.Between(n, 0, 0) != -1 {
			t.Error("the empty network has distances")
		}
		if !impl.SameDists(n, impl.Net{}) || !impl.SameDists(impl.Net{}, n) {
			t.Error("empty networks do not have the same distances")
		}
	}
	for nodes := 1; nodes <= impl.MaxNodes; nodes++ {
		n := netOf(spreadPoints(nodes, 3))
		if got := impl.Parts(n); !slices.Equal(got, upTo(nodes)) {
			t.Errorf("Parts of %d nodes without arcs is %v", nodes, got)
		}
		for s := range nodes {
			want := slices.Repeat([]int{-1}, nodes)
			want[s] = 0
			if from, to := impl.DistFrom(n, s), impl.DistTo(n, s); !slices.Equal(from, want) || !slices.Equal(to, want) {
				t.Errorf("without arcs DistFrom of %d is %v and DistTo %v", s, from, to)
			}
		}
	}
}

// One long arc against a route of many short ones, whatever the order in which its nodes are numbered.
func TestManyShortArcs(t *testing.T) {
	for _, route := range [][]int{upTo(20), downFrom(20), stridden(20, 3), stridden(20, 9), stridden(20, 13), {0, 2, 1}, {2, 0, 1}} {
		s, e, arcs := route[0], route[len(route)-1], len(route)-1
		for _, c := range []struct{ direct, want int }{{arcs - 1, arcs - 1}, {arcs, arcs}, {arcs + 1, arcs}, {impl.MaxLen, arcs}} {
			n := chainNet(route, 1, arc(s, e, c.direct))
			if got := impl.Between(n, s, e); got != c.want {
				t.Errorf("along %v and by an arc of %d the distance is %d", route, c.direct, got)
			}
			if from, to := impl.DistFrom(n, s), impl.DistTo(n, e); from[e] != c.want || to[s] != c.want || from[route[1]] != 1 || to[route[1]] != arcs-1 {
				t.Errorf("along %v and by an arc of %d DistFrom is %v and DistTo %v", route, c.direct, from, to)
			}
			if got := impl.Between(n, e, s); got != -1 {
				t.Errorf("against %v the distance is %d", route, got)
			}
		}
	}
}

func TestGreatestDistances(t *testing.T) {
	n := slowNet()
	if len(n.Nodes) != 20 || len(n.Arcs) != 70 || slices.ContainsFunc(n.Arcs, func(a impl.Arc) bool { return a.Len != 10000 }) || !impl.NetOk(n) {
		t.Fatalf("%v is not at the limits", n)
	}
	for u := range n.Nodes {
		if got := impl.Between(n, 0, u); got != u*10000 {
			t.Errorf("the distance from 0 to %d is %d", u, got)
		}
		if got := impl.DistTo(n, 19)[u]; got != (19-u)*10000 {
			t.Errorf("the distance from %d to 19 is %d", u, got)
		}
	}
	want := slices.Concat(make([]int, 11), upTo(20)[11:])
	if got := impl.Parts(n); !slices.Equal(got, want) {
		t.Errorf("Parts is %v, not %v", got, want)
	}
}

func TestNodesThatDoNotExist(t *testing.T) {
	for _, n := range []impl.Net{{}, netOf(spreadPoints(1, 1)), sampleNet(), fullNet(), slowNet()} {
		for _, u := range outsiders(len(n.Nodes)) {
			if got := impl.DistFrom(n, u); got != nil {
				t.Errorf("DistFrom(%v, %d) is %v", n, u, got)
			}
			if got := impl.DistTo(n, u); got != nil {
				t.Errorf("DistTo(%v, %d) is %v", n, u, got)
			}
			for _, v := range everyNode(n) {
				if one, two := impl.Between(n, u, v), impl.Between(n, v, u); one != -1 || two != -1 {
					t.Errorf("between %d and %d the distances are %d and %d", u, v, one, two)
				}
			}
		}
	}
}

func TestParts(t *testing.T) {
	six := spreadPoints(6, 9)
	cases := []struct {
		name string
		net  impl.Net
		want []int
	}{
		{"one node", netOf(six[:1]), []int{0}},
		{"a route there but none back", netOf(six[:3], arc(0, 1, 1), arc(0, 2, 5), arc(1, 2, 1)), []int{0, 1, 2}},
		{"a route back but none there", netOf(six[:3], arc(1, 0, 1), arc(2, 1, 1)), []int{0, 1, 2}},
		{"two to a third", netOf(six[:3], arc(0, 2, 1), arc(1, 2, 1)), []int{0, 1, 2}},
		{"a third to two", netOf(six[:3], arc(2, 0, 1), arc(2, 1, 1)), []int{0, 1, 2}},
		{"a circle of all", chainNet([]int{0, 3, 1, 5, 2, 4, 0}, 2), []int{0, 0, 0, 0, 0, 0}},
		{"a circle of all, the other way", chainNet([]int{0, 4, 2, 5, 1, 3, 0}, 2), []int{0, 0, 0, 0, 0, 0}},
		{"two circles", netOf(six, arc(0, 2, 1), arc(1, 3, 1), arc(2, 4, 1), arc(3, 5, 1), arc(4, 0, 1), arc(5, 1, 1)), []int{0, 1, 0, 1, 0, 1}},
		{"two circles joined one way", netOf(six, arc(0, 2, 1), arc(1, 3, 1), arc(2, 4, 1), arc(3, 4, 1), arc(3, 5, 1), arc(4, 0, 1), arc(5, 1, 1)), []int{0, 1, 0, 1, 0, 1}},
		{"two circles joined the other way", netOf(six, arc(0, 2, 1), arc(1, 3, 1), arc(2, 4, 1), arc(3, 5, 1), arc(4, 0, 1), arc(4, 3, 1), arc(5, 1, 1)), []int{0, 1, 0, 1, 0, 1}},
		{"two circles joined both ways", netOf(six, arc(0, 2, 1), arc(1, 3, 1), arc(2, 4, 1), arc(2, 5, 1), arc(3, 4, 1), arc(3, 5, 1), arc(4, 0, 1), arc(5, 1, 1)), []int{0, 0, 0, 0, 0, 0}},
		{"one circle and single nodes", netOf(six, arc(0, 5, 1), arc(2, 4, 1), arc(4, 2, 1), arc(4, 5, 1), arc(5, 3, 1)), []int{0, 1, 2, 3, 2, 5}},
		{"a circle of the last two", netOf(six, arc(0, 4, 1), arc(4, 5, 1), arc(5, 4, 1)), []int{0, 1, 2, 3, 4, 4}},
		{"circles of three, two and one", netOf(six, arc(1, 2, 1), arc(2, 5, 1), arc(3, 4, 1), arc(4, 3, 1), arc(5, 1, 1), arc(5, 3, 1)), []int{0, 1, 1, 3, 3, 1}},
	}
	for _, c := range cases {
		if got := impl.Parts(c.net); !slices.Equal(got, c.want) {
			t.Errorf("%s: Parts(%v) is %v, not %v", c.name, c.net, got, c.want)
		}
	}
}

func TestSameDists(t *testing.T) {
	three := spreadPoints(3, 9)
	whole := netOf(three, arc(0, 1, 2), arc(1, 2, 3))
	cases := []struct {
		name string
		a, b impl.Net
		want bool
	}{
		{"an arc as long as the route beside it", whole, netOf(three, arc(0, 1, 2), arc(0, 2, 5), arc(1, 2, 3)), true},
		{"an arc that is longer than the route beside it", whole, netOf(three, arc(0, 1, 2), arc(0, 2, 6), arc(1, 2, 3)), true},
		{"an arc that is shorter than the route beside it", whole, netOf(three, arc(0, 1, 2), arc(0, 2, 4), arc(1, 2, 3)), false},
		{"other positions", whole, netOf(spreadPoints(3, 1), whole.Arcs...), true},
		{"another length", whole, netOf(three, arc(0, 1, 2), arc(1, 2, 4)), false},
		{"an arc back", whole, netOf(three, arc(0, 1, 2), arc(1, 2, 3), arc(2, 0, 9)), false},
		{"reversed", whole, impl.Turned(whole), false},
		{"no arcs", whole, netOf(three), false},
		{"no arcs at all", netOf(three), netOf(spreadPoints(3, 2)), true},
		{"one node more", netOf(three[:2]), netOf(three), false},
		{"one node more without arcs", netOf(three[:2], arc(0, 1, 2)), netOf(three, arc(0, 1, 2)), false},
		{"one node and none", impl.Net{}, netOf(three[:1]), false},
		{"one node each", netOf(three[:1]), netOf(three[1:2]), true},
		{"no nodes", impl.Net{}, impl.Net{}, true},
		{"a difference from the last node only", netOf(three, arc(2, 0, 4)), netOf(three, arc(2, 0, 5)), false},
		{"a difference from the last node to the one before it only", netOf(three), netOf(three, arc(2, 1, 1)), false},
		{"a difference from the first node only", netOf(three, arc(0, 2, 4)), netOf(three), false},
		{"distances exchanged", netOf(three, arc(0, 1, 4), arc(0, 2, 5)), netOf(three, arc(0, 1, 5), arc(0, 2, 4)), false},
	}
	for _, c := range cases {
		if got, back := impl.SameDists(c.a, c.b), impl.SameDists(c.b, c.a); got != c.want || back != c.want {
			t.Errorf("%s: SameDists of %v and %v is %t, and exchanged %t", c.name, c.a, c.b, got, back)
		}
	}
}

// Every two networks of two nodes, and every two sets of arcs on three nodes.
func TestSameDistsOfPairs(t *testing.T) {
	for _, nets := range [][]impl.Net{netsOf(2, []int{0, 1, 2, 3}), netsOf(3, []int{0, 4}), smallNets()} {
		for _, a := range nets {
			for _, b := range nets {
				want := slices.EqualFunc(tableOf(a), tableOf(b), slices.Equal)
				if got := impl.SameDists(a, b); got != want {
					t.Fatalf("SameDists of %v and %v is %t", a, b, got)
				}
			}
		}
	}
}

func netsOf(nodes int, choices []int) []impl.Net {
	var nets []impl.Net
	visitLenNets(nodes, choices, func(n impl.Net) { nets = append(nets, n) })
	return nets
}

func TestDistancesOfInvalidNetworks(t *testing.T) {
	for _, b := range badNets() {
		for _, u := range everyNode(b.net) {
			if from, to := impl.DistFrom(b.net, u), impl.DistTo(b.net, u); from != nil || to != nil {
				t.Errorf("%s: DistFrom of %d is %v and DistTo %v", b.name, u, from, to)
			}
			for _, v := range []int{0, 1, u} {
				if got := impl.Between(b.net, u, v); got != -1 {
					t.Errorf("%s: the distance from %d to %d is %d", b.name, u, v, got)
				}
			}
		}
		if got := impl.Parts(b.net); got != nil {
			t.Errorf("%s: Parts is %v", b.name, got)
		}
		for _, other := range []impl.Net{b.net, {}, netOf(b.net.Nodes), sampleNet()} {
			if impl.SameDists(b.net, other) || impl.SameDists(other, b.net) {
				t.Errorf("%s: it has the same distances as %v", b.name, other)
			}
		}
	}
}

func TestDistancesDoNotModifyOrShare(t *testing.T) {
	for _, plain := range append(allNets(), slowNet()) {
		n, unchanged := roomyNet(plain)
		if impl.SameDists(n, plain) != impl.NetOk(plain) || impl.SameDists(plain, n) != impl.NetOk(plain) {
			t.Fatalf("the spare capacity behind %v counts", plain)
		}
		for u := range n.Nodes {
			from, to := impl.DistFrom(n, u), impl.DistTo(n, u)
			spoil(from, -5)
			if !slices.Equal(to, impl.DistTo(n, u)) {
				t.Fatalf("DistFrom and DistTo of %v share memory", plain)
			}
			spoil(to, -5)
			if !slices.Equal(impl.DistFrom(n, u), impl.DistFrom(plain, u)) || impl.Between(n, u, 0) != impl.Between(plain, u, 0) {
				t.Fatalf("the distances of %v are not the same in the second call", plain)
			}
		}
		spoil(impl.Parts(n), -5)
		if !slices.Equal(impl.Parts(n), impl.Parts(plain)) {
			t.Fatalf("Parts of %v is not the same in the second call", plain)
		}
		if !unchanged() {
			t.Fatalf("%v was changed to %v", plain, n)
		}
	}
}
