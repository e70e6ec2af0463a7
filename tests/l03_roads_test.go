package tests

import (
	"cmp"
	"fmt"
	"math"
	"regexp"
	"slices"
	"strconv"
	"strings"
	"testing"

	"loop.example/g00640/impl"
)

// greatestText is the number of bytes that NetRead still accepts.
const greatestText = 4000

// namedNet is a network and what is special about it.
type namedNet struct {
	name string
	net  impl.Net
}

func arc(from int, to int, length int) impl.Arc {
	return impl.Arc{From: from, To: to, Len: length}
}

func netOf(nodes []impl.Pt, arcs ...impl.Arc) impl.Net {
	return impl.Net{Nodes: nodes, Arcs: arcs}
}

func sampleNet() impl.Net {
	return netOf([]impl.Pt{pt(0, 0), pt(10, 0), pt(20, 0), pt(10, 10)},
		arc(0, 1, 10), arc(0, 3, 15), arc(1, 0, 10), arc(1, 2, 10), arc(2, 1, 10), arc(3, 2, 15))
}

// pairsOf returns all pairs of different nodes, in the order of arcs.
func pairsOf(nodes int) []impl.Arc {
	var pairs []impl.Arc
	for u := range nodes {
		for v := range nodes {
			if u != v {
				pairs = append(pairs, arc(u, v, 1+(u*7919+v*104729)%impl.MaxLen))
			}
		}
	}
	return pairs
}

// smallNets returns the networks of at most three nodes, with every set of arcs.
func smallNets() []impl.Net {
	var nets []impl.Net
	for nodes := range 4 {
		pairs := pairsOf(nodes)
		for set := range 1 << len(pairs) {
			n := netOf(spreadPoints(nodes, 5))
			for i, a := range pairs {
				if set>>i&1 == 1 {
					n.Arcs = append(n.Arcs, a)
				}
			}
			nets = append(nets, n)
		}
	}
	return nets
}

// wideNet has arcs irregularly chosen from all pairs, at most MaxArcs.
func wideNet(nodes int, salt int) impl.Net {
	n := netOf(spreadPoints(nodes, salt))
	for i, a := range pairsOf(nodes) {
		if (i+salt)*(i+3*salt+1)%11 < 3 && len(n.Arcs) < impl.MaxArcs {
			n.Arcs = append(n.Arcs, a)
		}
	}
	return n
}

// fullNet has MaxNodes nodes and MaxArcs arcs, some of them from and to the last node.
func fullNet() impl.Net {
	pairs := pairsOf(impl.MaxNodes)
	arcs := slices.Concat(pairs[:impl.MaxArcs-25], pairs[len(pairs)-25:])
	return netOf(spreadPoints(impl.MaxNodes, 6), arcs...)
}

// longNet has the longest text of all networks.
func longNet() impl.Net {
	n := impl.Net{}
	for range impl.MaxNodes {
		n.Nodes = append(n.Nodes, pt(-impl.MaxAt, -impl.MaxAt))
	}
	for _, a := range pairsOf(impl.MaxNodes) {
		if a.From >= 10 && a.To >= 10 && len(n.Arcs) < impl.MaxArcs {
			n.Arcs = append(n.Arcs, arc(a.From, a.To, impl.MaxLen))
		}
	}
	return n
}

func goodNets() []impl.Net {
	two := []impl.Pt{pt(0, 0), pt(-1, 2)}
	nets := append(smallNets(), sampleNet(), fullNet(), longNet())
	for nodes := 4; nodes <= impl.MaxNodes; nodes++ {
		nets = append(nets, wideNet(nodes, nodes), netOf(spreadPoints(nodes, nodes)))
	}
	return append(nets,
		impl.Net{Nodes: []impl.Pt{}, Arcs: []impl.Arc{}},
		netOf(two, arc(0, 1, 5)),
		netOf(two, arc(0, 1, 1), arc(1, 0, 2)),
		netOf(two, arc(0, 1, impl.MaxLen), arc(1, 0, 1)),
		netOf([]impl.Pt{pt(3, 3), pt(3, 3)}, arc(1, 0, 4)),
		netOf([]impl.Pt{pt(impl.MaxAt, -impl.MaxAt), pt(-impl.MaxAt, impl.MaxAt)}, arc(0, 1, 4)),
	)
}

// badNets returns networks that each break one rule of NetOk.
func badNets() []namedNet {
	full := fullNet()
	nets := []namedNet{
		{"a duplicate arc", netOf(full.Nodes, arc(0, 1, 5), arc(0, 1, 5))},
		{"a longer duplicate", netOf(full.Nodes, arc(0, 1, 5), arc(0, 1, 6))},
		{"a shorter duplicate", netOf(full.Nodes, arc(0, 1, 5), arc(0, 1, 4))},
		{"a later duplicate", netOf(full.Nodes, arc(0, 1, 5), arc(1, 0, 4), arc(1, 2, 3), arc(1, 2, 3))},
		{"a duplicate apart", netOf(full.Nodes, arc(0, 1, 5), arc(0, 2, 4), arc(0, 1, 5))},
		{"To out of order", netOf(full.Nodes, arc(0, 2, 5), arc(0, 1, 5))},
		{"From out of order", netOf(full.Nodes, arc(1, 0, 5), arc(0, 1, 5))},
		{"From out of order, To ascending", netOf(full.Nodes, arc(1, 0, 5), arc(0, 2, 5))},
		{"the last two out of order", netOf(full.Nodes, arc(0, 1, 5), arc(3, 1, 5), arc(2, 1, 5))},
		{"one node too many", netOf(spreadPoints(impl.MaxNodes+1, 6), arc(0, 1, 5))},
		{"many nodes", netOf(spreadPoints(1000, 6))},
		{"one arc too many", netOf(full.Nodes, pairsOf(impl.MaxNodes)[:impl.MaxArcs+1]...)},
		{"all arcs", netOf(full.Nodes, pairsOf(impl.MaxNodes)...)},
		{"arcs without nodes", netOf(nil, arc(0, 1, 5))},
		{"a loop first", netOf(full.Nodes, arc(0, 0, 5), arc(0, 1, 5))},
		{"a loop last", netOf(full.Nodes, arc(0, 1, 5), arc(1, 1, 5))},
		{"a loop at the last node", netOf(full.Nodes, arc(0, 1, 5), arc(19, 19, 5))},
	}
	return slices.Concat(nets, netsWithBadNumbers())
}

func netsWithBadNumbers() []namedNet {
	three := []impl.Pt{pt(0, 0), pt(5, 5), pt(7, 1)}
	var nets []namedNet
	add := func(name string, n impl.Net) { nets = append(nets, namedNet{name, n}) }
	for _, u := range []int{-1, -2, len(three), len(three) + 1, impl.MaxNodes, math.MinInt, math.MaxInt} {
		add(fmt.Sprint("From ", u), netOf(three, arc(u, 1, 5)))
		add(fmt.Sprint("To ", u), netOf(three, arc(1, u, 5)))
		add(fmt.Sprint("both ends ", u), netOf(three, arc(u, u, 5)))
		add(fmt.Sprint("last To ", u), netOf(three, arc(0, 1, 5), arc(2, u, 5)))
	}
	for _, l := range []int{0, -1, -5, impl.MaxLen + 1, 1 << 32, math.MinInt, math.MaxInt} {
		add(fmt.Sprint("Len ", l), netOf(three, arc(0, 1, l)))
		add(fmt.Sprint("last Len ", l), netOf(three, arc(0, 1, 5), arc(1, 2, l)))
	}
	for _, p := range badPoints() {
		add(fmt.Sprint("first node ", p), netOf([]impl.Pt{p, three[0], three[1]}, arc(0, 1, 5)))
		add(fmt.Sprint("last node ", p), netOf([]impl.Pt{three[0], three[1], p}, arc(0, 1, 5)))
	}
	return nets
}

// outsiders are not nodes of a network with that many nodes.
func outsiders(nodes int) []int {
	return []int{-1, -2, nodes, nodes + 1, nodes + impl.MaxNodes, math.MinInt, math.MaxInt}
}

// everyNode returns the nodes of n and numbers that are none.
func everyNode(n impl.Net) []int {
	list := outsiders(len(n.Nodes))
	for u := range n.Nodes {
		list = append(list, u)
	}
	return list
}

func sameNet(a impl.Net, b impl.Net) bool {
	return slices.Equal(a.Nodes, b.Nodes) && slices.Equal(a.Arcs, b.Arcs)
}

func emptyNet(n impl.Net) bool { return len(n.Nodes) == 0 && len(n.Arcs) == 0 }

// arcsWhere returns the indices of the arcs that satisfy a condition.
func arcsWhere(n impl.Net, holds func(a impl.Arc) bool) []int {
	var list []int
	for i, a := range n.Arcs {
		if holds(a) {
			list = append(list, i)
		}
	}
	return list
}

func TestRoadLimits(t *testing.T) {
	if impl.MaxNodes != 20 || impl.MaxArcs != 70 || impl.MaxLen != 10000 {
		t.Errorf("the limits are %d, %d and %d", impl.MaxNodes, impl.MaxArcs, impl.MaxLen)
	}
}

func TestNetOk(t *testing.T) {
	for _, n := range goodNets() {
		if !impl.NetOk(n) {
			t.Errorf("NetOk(%v) is false", n)
		}
	}
	for _, b := range badNets() {
		if impl.NetOk(b.net) {
			t.Errorf("%s: NetOk(%v) is true", b.name, b.net)
		}
	}
}

func TestNetOkAtTheLimits(t *testing.T) {
	full := fullNet()
	if len(full.Nodes) != impl.MaxNodes || len(full.Arcs) != impl.MaxArcs || !impl.NetOk(full) {
		t.Error("a network of MaxNodes nodes and MaxArcs arcs is not valid")
	}
	if impl.NetOk(netOf(append(slices.Clone(full.Nodes), pt(1, 1)), full.Arcs...)) {
		t.Error("a network of one node more is valid")
	}
	more := append(slices.Clone(full.Arcs), arc(10, 0, 5))
	slices.SortFunc(more, byEnds)
	if impl.NetOk(netOf(full.Nodes, more...)) {
		t.Error("a network of one arc more is valid")
	}
	for i := range more {
		if !impl.NetOk(netOf(full.Nodes, slices.Delete(slices.Clone(more), i, i+1)...)) {
			t.Errorf("without its arc %d that network is not valid", i)
		}
	}
}

func byEnds(a impl.Arc, b impl.Arc) int {
	return cmp.Or(cmp.Compare(a.From, b.From), cmp.Compare(a.To, b.To))
}

// Every two arcs of three nodes, with ends just beyond them, in either order.
func TestNetOkOfTwoArcs(t *testing.T) {
	three := spreadPoints(3, 8)
	inside := func(u int) bool { return 0 <= u && u < len(three) }
	fits := func(a impl.Arc) bool { return inside(a.From) && inside(a.To) && a.From != a.To }
	var arcs []impl.Arc
	for u := -1; u <= len(three); u++ {
		for v := -1; v <= len(three); v++ {
			arcs = append(arcs, arc(u, v, 7))
		}
	}
	for _, a := range arcs {
		if got := impl.NetOk(netOf(three, a)); got != fits(a) {
			t.Errorf("with the arc %v NetOk is %t", a, got)
		}
		for _, b := range arcs {
			want := fits(a) && fits(b) && byEnds(a, b) < 0
			if got := impl.NetOk(netOf(three, a, b)); got != want {
				t.Errorf("with the arcs %v and %v NetOk is %t", a, b, got)
			}
		}
	}
}

func TestNetOkOfLens(t *testing.T) {
	for _, l := range []int{-1, 0, 1, 2, impl.MaxLen - 1, impl.MaxLen, impl.MaxLen + 1} {
		want := l >= 1 && l <= 10000
		n := netOf(spreadPoints(3, 9), arc(0, 1, 5), arc(1, 2, l))
		if got := impl.NetOk(n); got != want {
			t.Errorf("with the Len %d NetOk is %t", l, got)
		}
	}
}

func TestArcAt(t *testing.T) {
	for _, n := range goodNets() {
		for _, u := range everyNode(n) {
			for _, v := range everyNode(n) {
				want := slices.IndexFunc(n.Arcs, func(a impl.Arc) bool { return a.From == u && a.To == v })
				if got := impl.ArcAt(n, u, v); got != want {
					t.Fatalf("ArcAt(%v, %d, %d) is %d, not %d", n, u, v, got, want)
				}
			}
		}
	}
}

func TestOutsAndIns(t *testing.T) {
	for _, n := range goodNets() {
		for _, u := range everyNode(n) {
			want := arcsWhere(n, func(a impl.Arc) bool { return a.From == u })
			if got := impl.Outs(n, u); !slices.Equal(got, want) {
				t.Fatalf("Outs(%v, %d) is %v, not %v", n, u, got, want)
			}
			want = arcsWhere(n, func(a impl.Arc) bool { return a.To == u })
			if got := impl.Ins(n, u); !slices.Equal(got, want) {
				t.Fatalf("Ins(%v, %d) is %v, not %v", n, u, got, want)
			}
		}
	}
}

func TestOutsAndInsExamples(t *testing.T) {
	n := netOf(spreadPoints(5, 3), arc(0, 2, 5), arc(2, 0, 1), arc(2, 4, 9), arc(3, 2, 8))
	outs := [][]int{{0}, {}, {1, 2}, {3}, {}}
	ins := [][]int{{1}, {}, {0, 3}, {}, {2}}
	for u := range n.Nodes {
		if got := impl.Outs(n, u); !slices.Equal(got, outs[u]) {
			t.Errorf("Outs of %d is %v, not %v", u, got, outs[u])
		}
		if got := impl.Ins(n, u); !slices.Equal(got, ins[u]) {
			t.Errorf("Ins of %d is %v, not %v", u, got, ins[u])
		}
	}
}

func TestNumbersThatAreNotNodes(t *testing.T) {
	for _, n := range []impl.Net{{}, sampleNet(), fullNet()} {
		for _, u := range outsiders(len(n.Nodes)) {
			if got := impl.Outs(n, u); len(got) != 0 {
				t.Errorf("Outs of %d is %v", u, got)
			}
			if got := impl.Ins(n, u); len(got) != 0 {
				t.Errorf("Ins of %d is %v", u, got)
			}
			for _, v := range everyNode(n) {
				if impl.ArcAt(n, u, v) != -1 || impl.ArcAt(n, v, u) != -1 {
					t.Errorf("there is an arc between %d and %d", u, v)
				}
			}
		}
	}
}

func TestTurned(t *testing.T) {
	for _, n := range goodNets() {
		want := netOf(n.Nodes)
		for _, a := range n.Arcs {
			want.Arcs = append(want.Arcs, arc(a.To, a.From, a.Len))
		}
		slices.SortFunc(want.Arcs, byEnds)
		got := impl.Turned(n)
		if !sameNet(got, want) {
			t.Fatalf("Turned(%v) is %v, not %v", n, got, want)
		}
		if !impl.NetOk(got) {
			t.Fatalf("Turned(%v) is %v, which is not valid", n, got)
		}
		if back := impl.Turned(got); !sameNet(back, n) {
			t.Fatalf("Turned twice, %v is %v", n, back)
		}
	}
}

func TestTurnedExample(t *testing.T) {
	n := netOf(spreadPoints(3, 1), arc(0, 1, 5), arc(0, 2, 6), arc(1, 0, 7), arc(2, 1, 8))
	want := []impl.Arc{arc(0, 1, 7), arc(1, 0, 5), arc(1, 2, 8), arc(2, 0, 6)}
	if got := impl.Turned(n); !slices.Equal(got.Arcs, want) || !slices.Equal(got.Nodes, n.Nodes) {
		t.Errorf("Turned(%v) is %v", n, got)
	}
}

// textOf writes a network, valid or not, as chapter 3 describes it.
func textOf(n impl.Net) string {
	text := ""
	for _, p := range n.Nodes {
		text += fmt.Sprintf("node %d %d\n", p.X, p.Y)
	}
	for _, a := range n.Arcs {
		text += fmt.Sprintf("arc %d %d %d\n", a.From, a.To, a.Len)
	}
	return text
}

func TestNetTextExamples(t *testing.T) {
	cases := []struct {
		net  impl.Net
		want string
	}{
		{impl.Net{}, ""},
		{netOf([]impl.Pt{pt(-10000, 10000)}), "node -10000 10000\n"},
		{netOf([]impl.Pt{pt(0, 0), pt(-1, 2)}, arc(0, 1, 5)), "node 0 0\nnode -1 2\narc 0 1 5\n"},
		{netOf([]impl.Pt{pt(0, 0), pt(-1, 2)}, arc(0, 1, 5), arc(1, 0, 10000)), "node 0 0\nnode -1 2\narc 0 1 5\narc 1 0 10000\n"},
	}
	for _, c := range cases {
		if got := impl.NetText(c.net); got != c.want {
			t.Errorf("NetText(%v) is %q, not %q", c.net, got, c.want)
		}
		if got, code := impl.NetRead(c.want); code != 0 || !sameNet(got, c.net) {
			t.Errorf("NetRead(%q) is %v, %d", c.want, got, code)
		}
	}
}

func TestNetworksAreRecovered(t *testing.T) {
	for _, n := range goodNets() {
		text := impl.NetText(n)
		if want := textOf(n); text != want {
			t.Fatalf("NetText(%v) is %q, not %q", n, text, want)
		}
		if got, code := impl.NetRead(text); code != 0 || !sameNet(got, n) {
			t.Fatalf("NetRead(%q) is %v, %d", text, got, code)
		}
	}
}

func TestInvalidNetworks(t *testing.T) {
	for _, b := range badNets() {
		if got := impl.Turned(b.net); !emptyNet(got) {
			t.Errorf("%s: Turned is %v", b.name, got)
		}
		if got := impl.NetText(b.net); got != "" {
			t.Errorf("%s: NetText is %q", b.name, got)
		}
		for _, u := range everyNode(b.net) {
			if outs, ins := impl.Outs(b.net, u), impl.Ins(b.net, u); len(outs) != 0 || len(ins) != 0 {
				t.Errorf("%s: Outs of %d is %v and Ins is %v", b.name, u, outs, ins)
			}
		}
		for _, a := range slices.Concat(b.net.Arcs, []impl.Arc{arc(0, 1, 1), arc(-1, -1, 1)}) {
			if got := impl.ArcAt(b.net, a.From, a.To); got != -1 {
				t.Errorf("%s: ArcAt of %v is %d", b.name, a, got)
			}
		}
	}
}

// fails checks that NetRead rejects a text with a code.
func fails(t *testing.T, text string, want int) {
	t.Helper()
	if got, code := impl.NetRead(text); code != want || !emptyNet(got) {
		t.Errorf("NetRead(%q) is %v, %d, not %d", text, got, code, want)
	}
}

func TestNetReadOfInvalidNetworks(t *testing.T) {
	for _, b := range badNets() {
		// A number beyond MaxCost makes its line malformed, so that the code is not always -1.
		fails(t, textOf(b.net), oracleCode(textOf(b.net)))
	}
	for _, text := range []string{
		"arc 0 1 5\n",
		"node 0 0\nnode 1 1\narc 0 1 5\narc 0 1 5\n",
		"node 0 0\nnode 1 1\narc 0 1 5\narc 0 1 6\n",
		"node 0 0\nnode 1 1\narc 1 0 5\narc 0 1 5\n",
		"node 0 0\nnode 1 1\nnode 2 2\narc 0 2 5\narc 0 1 5\n",
		"node 0 0\nnode 1 1\narc 0 0 5\n",
		"node 0 0\nnode 1 1\narc -1 0 5\n",
		"node 0 0\nnode 1 1\narc 0 -1 5\n",
		"node 0 0\nnode 1 1\narc 2 0 5\n",
		"node 0 0\nnode 1 1\narc 0 2 5\n",
		"node 0 0\nnode 1 1\narc 0 1 0\n",
		"node 0 0\nnode 1 1\narc 0 1 -1\n",
		"node 0 0\nnode 1 1\narc 0 1 10001\n",
		"node 0 10001\n",
		"node -10001 0\n",
		"node 1000000000000 0\n",
		"node 0 0\nnode 1 1\narc 0 1 1000000000000\n",
		strings.Repeat("node 0 0\n", impl.MaxNodes+1),
		strings.Repeat("node 0 0\n", greatestText/len("node 0 0\n")),
		strings.Repeat("arc 0 1 5\n", greatestText/len("arc 0 1 5\n")),
	} {
		fails(t, text, -1)
	}
}

func TestNetReadOfMalformedLines(t *testing.T) {
	cases := []struct {
		text string
		want int
	}{
		{"node 0 0", 1}, {"node 0 0\nnode 1 1", 2}, {"node 0 0\nnode 1 1\narc 0 1 5", 3}, {"x", 1}, {" ", 1}, {"node 0 0\n ", 2},
		{"\n", 1}, {"\n\n", 1}, {"\nnode 0 0\n", 1}, {"node 0 0\n\n", 2}, {"node 0 0\n\nnode 1 1\n", 2}, {"node 0 0\nnode 1 1\narc 0 1 5\n\n", 4},
		{"node  0 0\n", 1}, {"node 0  0\n", 1}, {"node 0 0 \n", 1}, {" node 0 0\n", 1}, {"node 0 0  \n", 1},
		{"node 0 0\nnode 1 1\narc  0 1 5\n", 3}, {"node 0 0\nnode 1 1\narc 0 1 5 \n", 3}, {"node 0 0\nnode 1 1\n arc 0 1 5\n", 3},
		{"node\t0 0\n", 1}, {"node 0\t0\n", 1}, {"node 0 0\t\n", 1}, {"node 0 0\r\n", 1}, {"node 0 0\rnode 1 1\n", 1}, {"node 0 0\x00\n", 1}, {"node\u00a00 0\n", 1},
		{"node 00 0\n", 1}, {"node 0 01\n", 1}, {"node -0 0\n", 1}, {"node 0 +1\n", 1}, {"node 0 1.0\n", 1}, {"node 0 1e1\n", 1}, {"node 0 -\n", 1}, {"node 0 x\n", 1}, {"node 0x1 0\n", 1},
		{"node 1000000000001 0\n", 1}, {"node 0 -1000000000001\n", 1}, {"node 0 18446744073709551616\n", 1},
		{"node 0 0\nnode 1 1\narc 00 1 5\n", 3}, {"node 0 0\nnode 1 1\narc 0 01 5\n", 3}, {"node 0 0\nnode 1 1\narc 0 1 +5\n", 3}, {"node 0 0\nnode 1 1\narc 0 1 1000000000001\n", 3},
		{"node\n", 1}, {"node 0\n", 1}, {"node 0 0 0\n", 1}, {"arc\n", 1}, {"arc 0 1\n", 1}, {"arc 0 1 5 6\n", 1}, {"0 0\n", 1}, {"0 1 5\n", 1},
		{"Node 0 0\n", 1}, {"NODE 0 0\n", 1}, {"nodes 0 0\n", 1}, {"nod 0 0\n", 1}, {"arcs 0 1 5\n", 1}, {"Arc 0 1 5\n", 1}, {"x 0 0\n", 1}, {"x 0 1 5\n", 1}, {" 0 0\n", 1}, {"node 0 1 5\n", 1}, {"arc 0 0\n", 1},
		{"node 0 0\nnode 1 1\narc 0 1 5\nnode 2 2\n", 4}, {"node 0 0\nnode 1 1\narc 0 1 5\nnode 2 2\narc 1 0 5\n", 4}, {"arc 0 1 5\nnode 0 0\n", 2}, {"arc 0 1 5\nnode 0 0\nnode 1 1\n", 2},
	}
	for _, c := range cases {
		fails(t, c.text, c.want)
	}
}

func TestNetReadReportsTheFirstMalformedLine(t *testing.T) {
	cases := []struct {
		text string
		want int
	}{
		{"x\ny\n", 1}, {"node 0 0\nx\ny\n", 2}, {"node 0 0\n\nx", 2}, {"node 0 0\nx\nnode 1 1", 2}, {"x\nnode 0 0", 1}, {"node 0 0\nx", 2},
		{"arc 0 1 5\nnode 0 0\nx\n", 2}, {"x\narc 0 1 5\nnode 0 0\n", 1}, {"arc 0 1 5\nx\nnode 0 0\n", 2},
		{"node 0 0\nnode 1 1\narc 0 1 5\nnode 2 2\nnode 3 3", 4},
		// The networks are not valid either, but that is checked last.
		{"node 99999 0\nx\n", 2}, {"arc 0 0 0\narc 0 0 0\nx\n", 3}, {"arc 0 1 5\narc 0 1 5", 2}, {"node 0 0\narc 0 0 5\nnode 1 1\n", 3},
		{strings.Repeat("node 0 0\n", 100) + "x\n", 101}, {strings.Repeat("arc 0 1 5\n", 200) + "node 0 0\n", 201}, {strings.Repeat("arc 0 1 5\n", 200) + "arc 0 1 5", 201},
	}
	for _, c := range cases {
		fails(t, c.text, c.want)
	}
}

func TestNetReadOfLongTexts(t *testing.T) {
	line := "node 0 0\n"
	many := strings.Repeat(line, greatestText/len(line))
	rest := greatestText - len(many)
	// Of at most 4000 bytes the malformed line counts, of more only that.
	for _, text := range []string{
		strings.Repeat("x", greatestText),
		strings.Repeat("\n", greatestText),
		strings.Repeat("\u00e9", greatestText/2),
		strings.Repeat("x", greatestText-1) + "\n",
		"\n" + many + strings.Repeat("x", rest-1),
		textOf(longNet()) + strings.Repeat(" ", greatestText-len(textOf(longNet()))),
		many + strings.Repeat("x", rest),
		many[:len(many)-1] + strings.Repeat(" ", rest) + "\n",
	} {
		if len(text) != greatestText {
			t.Fatalf("%q has %d bytes", text, len(text))
		}
		fails(t, text, oracleCode(text))
		if oracleCode(text) < 1 {
			t.Errorf("no line of %q is malformed", text)
		}
		fails(t, text[:greatestText-1], oracleCode(text[:greatestText-1]))
		fails(t, text+"\n", -1)
		fails(t, text+"x", -1)
		fails(t, text+text, -1)
	}
	fails(t, strings.Repeat("\u00e9", greatestText/2)+"\n", -1)
	fails(t, strings.Repeat("x", 1000000), -1)
}

const numberForm = `(0|-?[1-9][0-9]*)`

var nodeForm = regexp.MustCompile(`\Anode ` + numberForm + ` ` + numberForm + `\n\z`)
var arcForm = regexp.MustCompile(`\Aarc ` + numberForm + ` ` + numberForm + ` ` + numberForm + `\n\z`)

// numbersOf returns the numbers that a form finds in a line.
func numbersOf(form *regexp.Regexp, line string) ([]int, bool) {
	words := form.FindStringSubmatch(line)
	if words == nil {
		return nil, false
	}
	var list []int
	for _, word := range words[1:] {
		n, err := strconv.ParseInt(word, 10, 64)
		if err != nil || n < -impl.MaxCost || n > impl.MaxCost {
			return nil, false
		}
		list = append(list, int(n))
	}
	return list, true
}

// oracle reads a text by patterns of whole lines.
func oracle(text string) (impl.Net, int) {
	if len(text) > greatestText {
		return impl.Net{}, -1
	}
	n := impl.Net{}
	for i, line := range strings.SplitAfter(text, "\n") {
		if line == "" {
			break
		}
		if p, ok := numbersOf(nodeForm, line); ok && len(n.Arcs) == 0 {
			n.Nodes = append(n.Nodes, pt(p[0], p[1]))
		} else if a, ok := numbersOf(arcForm, line); ok {
			n.Arcs = append(n.Arcs, arc(a[0], a[1], a[2]))
		} else {
			return impl.Net{}, i + 1
		}
	}
	if !impl.NetOk(n) {
		return impl.Net{}, -1
	}
	return n, 0
}

func oracleCode(text string) int {
	_, code := oracle(text)
	return code
}

func agrees(t *testing.T, text string) {
	t.Helper()
	want, wantCode := oracle(text)
	got, code := impl.NetRead(text)
	if code != wantCode || !sameNet(got, want) {
		t.Fatalf("NetRead(%q) is %v, %d, not %v, %d", text, got, code, want, wantCode)
	}
	// A text that is read is the text of what was read, and no other.
	if code == 0 && impl.NetText(got) != text {
		t.Fatalf("NetRead(%q) has the text %q", text, impl.NetText(got))
	}
}

func TestNetReadOfAlteredTexts(t *testing.T) {
	texts := []string{"", "node 0 0\n", impl.NetText(sampleNet()), impl.NetText(wideNet(6, 6)), "node 0 0\nnode -1 2\narc 0 1 5\narc 1 0 10000\n"}
	bytes := " \n\r\t-+.0159anodercx\x00\xff"
	for _, text := range texts {
		agrees(t, text)
		for i := range len(text) + 1 {
			agrees(t, text[:i])
			agrees(t, text[i:])
			for _, b := range []byte(bytes) {
				agrees(t, text[:i]+string([]byte{b})+text[i:])
				if i < len(text) {
					agrees(t, text[:i]+text[i+1:])
					agrees(t, text[:i]+string([]byte{b})+text[i+1:])
				}
			}
		}
	}
}

// Every text of up to three further lines after two nodes and after none.
func TestNetReadOfCombinedLines(t *testing.T) {
	lines := []string{
		"", "node 0 0\n", "node -5 10000\n", "node 10001 0\n", "node 01 0\n", "node 0 0 \n", "node 0 0",
		"arc 0 1 5\n", "arc 0 1 6\n", "arc 1 0 5\n", "arc 0 2 1\n", "arc 0 0 5\n", "arc 0 1 0\n", "arc -1 0 5\n", "arc 0 1 10001\n",
		"arc 0 1 5 \n", "arc 0 1\n", "arc  0 1 5\n", "arc 0 1 5", "\n", "x\n", "x",
	}
	for _, start := range []string{"", "node 1 1\nnode 2 2\n"} {
		for _, a := range lines {
			for _, b := range lines {
				for _, c := range lines {
					agrees(t, start+a+b+c)
				}
			}
		}
	}
}

// roomy returns a copy of a list with spare capacity that is filled with a value.
func roomy[T any](list []T, fill T) []T {
	whole := slices.Clone(list)
	for range 8 {
		whole = append(whole, fill)
	}
	return whole[:len(list)]
}

// wholeOf returns a copy of a list and of the spare capacity behind it.
func wholeOf[T any](list []T) []T { return slices.Clone(list[:cap(list)]) }

// spoil overwrites a list and the spare capacity behind it.
func spoil[T any](list []T, fill T) {
	for i := range list[:cap(list)] {
		list[:cap(list)][i] = fill
	}
}

// allNets returns networks that are valid and others that are not.
func allNets() []impl.Net {
	nets := goodNets()
	for _, b := range badNets() {
		nets = append(nets, b.net)
	}
	return nets
}

// roomyNet returns a copy of a network with spare capacity, and what reports whether this copy is still the same.
func roomyNet(plain impl.Net) (impl.Net, func() bool) {
	n := impl.Net{Nodes: roomy(plain.Nodes, pt(77777, 0)), Arcs: roomy(plain.Arcs, arc(-9, -9, -9))}
	nodes, arcs := wholeOf(n.Nodes), wholeOf(n.Arcs)
	return n, func() bool {
		return slices.Equal(nodes, wholeOf(n.Nodes)) && slices.Equal(arcs, wholeOf(n.Arcs))
	}
}

func TestNetworksAreNotModifiedOrShared(t *testing.T) {
	for _, plain := range allNets() {
		n, unchanged := roomyNet(plain)
		if impl.NetOk(n) != impl.NetOk(plain) || impl.NetText(n) != impl.NetText(plain) {
			t.Fatalf("the spare capacity behind %v counts", plain)
		}
		impl.ArcAt(n, 0, 1)
		for u := range n.Nodes {
			outs, ins := impl.Outs(n, u), impl.Ins(n, u)
			spoil(outs, -5)
			if !slices.Equal(ins, impl.Ins(n, u)) {
				t.Fatalf("Outs and Ins of %v share memory", plain)
			}
			spoil(ins, -5)
		}
		turned := impl.Turned(n)
		spoil(turned.Nodes, pt(-3, -3))
		spoil(turned.Arcs, arc(-3, -3, -3))
		if !unchanged() {
			t.Fatalf("%v was changed to %v", plain, n)
		}
	}
}

func TestResultsOfTwoCallsAreSeparate(t *testing.T) {
	n := fullNet()
	text := impl.NetText(n)
	for range 3 {
		read, code := impl.NetRead(text)
		if code != 0 || !sameNet(read, n) {
			t.Fatalf("NetRead is %v, %d", read, code)
		}
		twice := impl.Turned(impl.Turned(n))
		if !sameNet(twice, n) {
			t.Fatalf("Turned twice, the network is %v", twice)
		}
		for _, r := range []impl.Net{read, twice} {
			spoil(r.Nodes, pt(-3, -3))
			spoil(r.Arcs, arc(-3, -3, -3))
		}
		for u := range n.Nodes {
			spoil(impl.Outs(n, u), -5)
			spoil(impl.Ins(n, u), -5)
		}
	}
}
