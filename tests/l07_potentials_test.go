package tests

import (
	"math"
	"math/rand/v2"
	"slices"
	"testing"

	"loop.example/g00640/impl"
)

const (
	greatestPot = 1000000
	mostMarks   = 8
	// noRouteGap is what counts as the distance to a node without a route.
	noRouteGap = 2000000
)

// isPot compares the numbers of every two nodes with the distance between them: a potential that is consistent along every arc is so along every route.
func isPot(table [][]int, pot []int) bool {
	if len(pot) != len(table) {
		return false
	}
	for _, x := range pot {
		if x < 0 || x > greatestPot {
			return false
		}
	}
	for u, row := range table {
		for v, d := range row {
			if d != noRoute && pot[u]-pot[v] > d {
				return false
			}
		}
	}
	return true
}

// tightened decreases numbers as little as it takes to make them consistent.
func tightened(table [][]int, numbers []int) []int {
	pot := slices.Clone(numbers)
	for u, row := range table {
		for v, d := range row {
			if d != noRoute {
				pot[u] = min(pot[u], d+numbers[v])
			}
		}
	}
	return pot
}

// goalPot is the distance of each node to e, where it exists: all arcs of shortest routes to e then change no Key.
func goalPot(table [][]int, e int) []int {
	numbers := slices.Repeat([]int{greatestPot}, len(table))
	numbers[e] = 0
	return tightened(table, numbers)
}

// somePot returns irregular numbers up to most, made consistent; it is the same in every run.
func somePot(table [][]int, most int, salt int) []int {
	random := rand.New(rand.NewPCG(uint64(most), uint64(salt)))
	numbers := make([]int, len(table))
	for u := range numbers {
		numbers[u] = random.IntN(most + 1)
	}
	return tightened(table, numbers)
}

// potsOf returns potentials of different kinds.
func potsOf(table [][]int) [][]int {
	pots := [][]int{
		make([]int, len(table)),
		slices.Repeat([]int{7}, len(table)),
		slices.Repeat([]int{greatestPot}, len(table)),
	}
	for salt, most := range []int{3, 12, 60, 400, 30000, greatestPot} {
		pots = append(pots, somePot(table, most, salt))
	}
	return pots
}

// markedBy computes the numbers of MarkPot from a table of distances.
func markedBy(table [][]int, e int, marks []int) []int {
	pot := make([]int, len(table))
	for v := range pot {
		for _, m := range marks {
			if table[v][m] != noRoute && table[e][m] != noRoute {
				pot[v] = max(pot[v], table[v][m]-table[e][m])
			}
			if table[m][e] != noRoute && table[m][v] != noRoute {
				pot[v] = max(pot[v], table[m][e]-table[m][v])
			}
		}
	}
	return pot
}

// farBy computes FarMarks from a table of distances.
func farBy(table [][]int, many int) []int {
	marks := []int{0}
	for len(marks) < min(many, len(table)) {
		farthest, at := noRoute, noRoute
		for v := range table {
			gap := noRouteGap
			for _, m := range marks {
				if table[m][v] != noRoute {
					gap = min(gap, table[m][v])
				}
			}
			if !slices.Contains(marks, v) && gap > farthest {
				farthest, at = gap, v
			}
		}
		marks = append(marks, at)
	}
	return marks
}

// guidedByQueues runs the algorithm as the document describes it, with a list as the queue.
func guidedByQueues(n impl.Net, s int, e int, pot []int) impl.Seen {
	var seen impl.Seen
	for q := itemsOf(pot[s], s); len(q) > 0; {
		x := q[0]
		q = q[1:]
		d := x.Key - pot[x.Id]
		seen.Order, seen.Dists = append(seen.Order, x.Id), append(seen.Dists, d)
		if x.Id == e {
			break
		}
		for _, a := range n.Arcs {
			if a.From == x.Id && !slices.Contains(seen.Order, a.To) {
				q = putInto(q, item(d+a.Len+pot[a.To], a.To))
			}
		}
	}
	return seen
}

func sameGuided(t *testing.T, n impl.Net, s int, e int, pot []int, want impl.Seen) {
	t.Helper()
	if got := impl.Guided(n, s, e, pot); !equalSeen(got, want) {
		t.Fatalf("Guided(%v, %d, %d, %v) is %v, not %v", n, s, e, pot, got, want)
	}
}

// keepsPromise checks what is promised of a guided search, from the table of the distances in n.
func keepsPromise(t *testing.T, n impl.Net, table [][]int, s int, e int, pot []int) {
	t.Helper()
	seen := impl.Guided(n, s, e, pot)
	if len(seen.Order) == 0 || len(seen.Order) != len(seen.Dists) || seen.Order[0] != s {
		t.Fatalf("Guided(%v, %d, %d, %v) is %v", n, s, e, pot, seen)
	}
	goal, reached := table[s][e], table[s][e] != noRoute
	key := pot[s]
	for i, u := range seen.Order {
		d := seen.Dists[i]
		if d != table[s][u] || slices.Index(seen.Order, u) != i {
			t.Fatalf("Guided(%v, %d, %d, %v) settles %d with %d", n, s, e, pot, u, d)
		}
		if d+pot[u] < key {
			t.Fatalf("Guided(%v, %d, %d, %v) settles %d too late", n, s, e, pot, u)
		}
		if reached && pot[e] == 0 && d > goal {
			t.Fatalf("Guided(%v, %d, %d, %v) settles %d, which is farther than the goal", n, s, e, pot, u)
		}
		key = d + pot[u]
	}
	if last := seen.Order[len(seen.Order)-1]; (last == e) != reached {
		t.Fatalf("Guided(%v, %d, %d, %v) ends at %d", n, s, e, pot, last)
	}
	for u, d := range table[s] {
		before := !reached || d+pot[u] < goal+pot[e]
		if d != noRoute && before && !slices.Contains(seen.Order, u) {
			t.Fatalf("Guided(%v, %d, %d, %v) does not settle %d", n, s, e, pot, u)
		}
	}
}

// sameGoal checks that the two searches yield the same distance of e.
func sameGoal(t *testing.T, n impl.Net, s int, e int, pot []int) {
	t.Helper()
	distance := func(seen impl.Seen) int {
		if i := slices.Index(seen.Order, e); i >= 0 {
			return seen.Dists[i]
		}
		return noRoute
	}
	if one, two := distance(impl.Guided(n, s, e, pot)), distance(impl.Search(n, s, e)); one != two {
		t.Fatalf("in %v from %d to %d the guided search with %v yields %d and the other one %d", n, s, e, pot, one, two)
	}
}

func twoNet(arcs ...impl.Arc) impl.Net { return netOf(spreadPoints(2, 3), arcs...) }

// ringNet has arcs of that length from each node to the next one, and from the last one to the first.
func ringNet(nodes int, length int) impl.Net {
	return chainNet(upTo(nodes), length, arc(nodes-1, 0, length))
}

func TestPotOkExamples(t *testing.T) {
	there, both := twoNet(arc(0, 1, 5)), twoNet(arc(0, 1, 5), arc(1, 0, 2))
	longest := twoNet(arc(0, 1, impl.MaxLen))
	cases := []struct {
		name string
		n    impl.Net
		pot  []int
		want bool
	}{
		{"no nodes, nil", impl.Net{}, nil, true},
		{"no nodes, an empty list", impl.Net{}, []int{}, true},
		{"no nodes, one number", impl.Net{}, []int{0}, false},
		{"one node, no number", netOf(spreadPoints(1, 1)), nil, false},
		{"one node, an empty list", netOf(spreadPoints(1, 1)), []int{}, false},
		{"one node, one number", netOf(spreadPoints(1, 1)), []int{3}, true},
		{"one node, two numbers", netOf(spreadPoints(1, 1)), []int{0, 0}, false},
		{"a number too few", there, []int{0}, false},
		{"a number too many", there, []int{0, 0, 0}, false},
		{"many numbers", there, make([]int, 1000), false},
		{"all 0", there, []int{0, 0}, true},
		{"exactly the Len", there, []int{5, 0}, true},
		{"one more than the Len", there, []int{6, 0}, false},
		{"exactly the Len and a number", there, []int{17, 12}, true},
		{"one more than the Len and a number", there, []int{18, 12}, false},
		{"exactly the Len below the limit", there, []int{1000000, 999995}, true},
		{"one more below the limit", there, []int{1000000, 999994}, false},
		{"the other way, without an arc", there, []int{0, 1000000}, true},
		{"the other way, exactly the Len", both, []int{0, 2}, true},
		{"the other way, one more", both, []int{0, 3}, false},
		{"both ways, there", both, []int{5, 0}, true},
		{"both ways, one more there", both, []int{6, 0}, false},
		{"the longest Len", longest, []int{10000, 0}, true},
		{"one more than the longest Len", longest, []int{10001, 0}, false},
		{"the longest Len below the limit", longest, []int{1000000, 990000}, true},
		{"no arcs", twoNet(), []int{0, 1000000}, true},
		{"no arcs, the other way", twoNet(), []int{1000000, 0}, true},
		{"the sample", sampleNet(), []int{20, 10, 0, 15}, true},
		{"the sample, one more at the first", sampleNet(), []int{21, 10, 0, 15}, false},
		{"the sample, one less at the last", sampleNet(), []int{20, 10, 0, 4}, false},
		{"the sample, all 0", sampleNet(), make([]int, 4), true},
		{"the sample, far too great", sampleNet(), []int{50, 0, 0, 0}, false},
	}
	for _, c := range cases {
		if got := impl.PotOk(c.n, c.pot); got != c.want {
			t.Errorf("%s: PotOk(%v, %v) is %t", c.name, c.n, c.pot, got)
		}
	}
}

// Every number is held against the limits, whether its node has arcs or not.
func TestPotOkOfNumbers(t *testing.T) {
	for _, n := range []impl.Net{netOf(spreadPoints(1, 1)), netOf(spreadPoints(20, 1)), sampleNet(), streetNet(), ringNet(20, 1)} {
		for u := range n.Nodes {
			for _, bad := range []int{-1, -2, greatestPot + 1, greatestPot + 2, 2 * greatestPot, 1 << 32, -1 << 32, 1 << 62, math.MinInt, math.MinInt + 1, math.MaxInt - 1, math.MaxInt} {
				for _, other := range []int{0, 1, greatestPot} {
					pot := slices.Repeat([]int{other}, len(n.Nodes))
					if !impl.PotOk(n, pot) {
						t.Fatalf("PotOk(%v, %v) is false", n, pot)
					}
					pot[u] = bad
					if impl.PotOk(n, pot) {
						t.Fatalf("PotOk(%v, %v) is true", n, pot)
					}
				}
			}
		}
	}
	// Here the differences leave 64 bits, and wrapped round they would seem consistent.
	for _, pot := range [][]int{{math.MinInt, math.MaxInt}, {math.MaxInt, math.MinInt}, {math.MaxInt, math.MaxInt}, {math.MinInt, math.MinInt}, {math.MaxInt, math.MaxInt - 5}, {0, math.MinInt}, {math.MaxInt, -1}} {
		for _, n := range []impl.Net{twoNet(), twoNet(arc(0, 1, 5)), twoNet(arc(1, 0, 5)), twoNet(arc(0, 1, 5), arc(1, 0, 5))} {
			if impl.PotOk(n, pot) {
				t.Fatalf("PotOk(%v, %v) is true", n, pot)
			}
		}
	}
}

// One arc after the other has exactly its Len between the numbers of its ends, and then one more.
func TestPotOkOfEachArc(t *testing.T) {
	for _, n := range []impl.Net{sampleNet(), fullNet(), longNet(), streetNet(), slowNet()} {
		table := tableOf(n)
		for _, a := range n.Arcs {
			pot := goalPot(table, a.To)
			if pot[a.From] > a.Len || !impl.PotOk(n, pot) {
				t.Fatalf("PotOk(%v, %v) is false", n, pot)
			}
			only := netOf(n.Nodes, a)
			pot = make([]int, len(n.Nodes))
			pot[a.From] = a.Len
			if !impl.PotOk(only, pot) {
				t.Fatalf("PotOk(%v, %v) is false", only, pot)
			}
			pot[a.From]++
			if impl.PotOk(only, pot) || impl.PotOk(n, pot) {
				t.Fatalf("PotOk(%v, %v) is true", n, pot)
			}
		}
	}
}

func TestPotOkAgainstDistances(t *testing.T) {
	for _, n := range searchNets() {
		table := tableOf(n)
		for _, pot := range potsOf(table) {
			if !impl.PotOk(n, pot) {
				t.Fatalf("PotOk(%v, %v) is false", n, pot)
			}
			for u := range pot {
				for _, step := range []int{-1000, -3, -1, 1, 3, 1000} {
					other := slices.Clone(pot)
					other[u] += step
					if got := impl.PotOk(n, other); got != isPot(table, other) {
						t.Fatalf("PotOk(%v, %v) is %t", n, other, got)
					}
				}
			}
		}
	}
}

// visitPots visits all lists of that many numbers below most.
func visitPots(count int, most int, visit func(pot []int)) {
	everyList(upTo(most), count, func(list []int) {
		if len(list) == count {
			visit(list)
		}
	})
}

// Networks of three nodes with all potentials of small numbers.
func TestSmallNetworksWithAllPotentials(t *testing.T) {
	visitLenNets(3, []int{0, 1, 3}, func(n impl.Net) {
		table := tableOf(n)
		visitPots(3, 5, func(pot []int) {
			valid := isPot(table, pot)
			if impl.PotOk(n, pot) != valid {
				t.Fatalf("PotOk(%v, %v) is %t", n, pot, !valid)
			}
			for s := range 3 {
				for e := range 3 {
					if !valid {
						sameGuided(t, n, s, e, pot, impl.Seen{})
						continue
					}
					keepsPromise(t, n, table, s, e, pot)
					sameGuided(t, n, s, e, pot, guidedByQueues(n, s, e, pot))
				}
			}
		})
	})
}

// sameLens checks the lengths of Lowered.
func sameLens(t *testing.T, n impl.Net, pot []int) {
	t.Helper()
	want := netOf(n.Nodes)
	for _, a := range n.Arcs {
		want.Arcs = append(want.Arcs, arc(a.From, a.To, min(10000, a.Len+pot[a.To]-pot[a.From]+1)))
	}
	got := impl.Lowered(n, pot)
	if !sameNet(got, want) || !impl.NetOk(got) {
		t.Fatalf("Lowered(%v, %v) is %v", n, pot, got)
	}
}

func TestLoweredExamples(t *testing.T) {
	cases := []struct {
		name   string
		length int
		pot    []int
		want   int
	}{
		{"all 0", 5, []int{0, 0}, 6},
		{"equal numbers", 5, []int{8, 8}, 6},
		{"it becomes 1", 5, []int{5, 0}, 1},
		{"it becomes 1 below the limit", 5, []int{1000000, 999995}, 1},
		{"it becomes 2", 5, []int{4, 0}, 2},
		{"it stays", 5, []int{1, 0}, 5},
		{"it increases", 5, []int{3, 10}, 13},
		{"1 becomes 1", 1, []int{1, 0}, 1},
		{"1 becomes 2", 1, []int{0, 0}, 2},
		{"the greatest becomes 1", 10000, []int{10000, 0}, 1},
		{"exactly MaxLen by 1", 9999, []int{0, 0}, 10000},
		{"exactly MaxLen from MaxLen", 10000, []int{1, 0}, 10000},
		{"exactly MaxLen by the numbers", 5000, []int{3, 5002}, 10000},
		{"one less than MaxLen", 5000, []int{3, 5001}, 9999},
		{"one more than MaxLen", 5000, []int{3, 5003}, 10000},
		{"one more than MaxLen from MaxLen", 10000, []int{0, 0}, 10000},
		{"two more than MaxLen from MaxLen", 10000, []int{0, 1}, 10000},
		{"much more than MaxLen", 1, []int{0, 1000000}, 10000},
		{"much more than MaxLen from MaxLen", 10000, []int{0, 1000000}, 10000},
	}
	for _, c := range cases {
		if got := impl.Lowered(twoNet(arc(0, 1, c.length)), c.pot); !sameNet(got, twoNet(arc(0, 1, c.want))) {
			t.Errorf("%s: %v", c.name, got)
		}
	}
	n := sampleNet()
	want := netOf(n.Nodes, arc(0, 1, 1), arc(0, 3, 11), arc(1, 0, 21), arc(1, 2, 1), arc(2, 1, 21), arc(3, 2, 1))
	if got := impl.Lowered(n, []int{20, 10, 0, 15}); !sameNet(got, want) {
		t.Errorf("Lowered is %v, not %v", got, want)
	}
}

func TestLowered(t *testing.T) {
	for _, n := range searchNets() {
		table := tableOf(n)
		for _, pot := range potsOf(table) {
			sameLens(t, n, pot)
		}
		for e := range n.Nodes {
			sameLens(t, n, goalPot(table, e))
		}
	}
}

func TestGuided(t *testing.T) {
	for _, n := range searchNets() {
		table := tableOf(n)
		for i, pot := range potsOf(table) {
			for s := range n.Nodes {
				for e := range n.Nodes {
					if len(n.Nodes) > 4 && (s+e)%3 != i%3 {
						continue
					}
					keepsPromise(t, n, table, s, e, pot)
				}
				e := (s*5 + i) % len(n.Nodes)
				sameGoal(t, n, s, e, pot)
				sameGuided(t, n, s, e, pot, guidedByQueues(n, s, e, pot))
			}
		}
	}
}

// With the same number for every node the search is Search.
func TestGuidedWithEqualNumbers(t *testing.T) {
	for _, n := range searchNets() {
		for s := range n.Nodes {
			for e := range n.Nodes {
				number := []int{0, 1, greatestPot}[(s+e)%3]
				sameGuided(t, n, s, e, slices.Repeat([]int{number}, len(n.Nodes)), impl.Search(n, s, e))
			}
		}
	}
}

// The distances to the goal lead straight to it: all nodes that are settled are on shortest routes.
func TestGuidedByTheDistances(t *testing.T) {
	for _, n := range searchNets() {
		table := tableOf(n)
		for e := range n.Nodes {
			pot := goalPot(table, e)
			for s := range n.Nodes {
				keepsPromise(t, n, table, s, e, pot)
				sameGuided(t, n, s, e, pot, guidedByQueues(n, s, e, pot))
				if table[s][e] == noRoute {
					continue
				}
				for _, u := range impl.Guided(n, s, e, pot).Order {
					if table[u][e] == noRoute || table[s][u]+table[u][e] != table[s][e] {
						t.Fatalf("in %v from %d to %d the node %d is settled", n, s, e, u)
					}
				}
			}
		}
	}
}

func TestGuidedExamples(t *testing.T) {
	star := []impl.Arc{arc(0, 1, 5), arc(0, 2, 7)}
	tie := []impl.Arc{arc(0, 1, 4), arc(0, 2, 3), arc(1, 3, 10)}
	sinking := []impl.Arc{arc(0, 1, 3), arc(0, 2, 2), arc(0, 3, 1), arc(0, 4, 13), arc(1, 4, 7), arc(2, 4, 9), arc(3, 4, 11)}
	cases := []struct {
		name         string
		s, e         int
		pot          []int
		order, dists []int
		arcs         []impl.Arc
	}{
		{"s is the goal", 3, 3, []int{0, 0, 0, 9, 0, 0, 0, 0}, []int{3}, []int{0}, []impl.Arc{arc(2, 3, 1), arc(3, 2, 9)}},
		{"s is the goal, with the greatest number", 3, 3, []int{0, 0, 0, 1000000, 0, 0, 0, 0}, []int{3}, []int{0}, nil},
		{"no potential", 0, 2, make([]int, 8), []int{0, 1, 2}, []int{0, 5, 7}, star},
		{"a node that is led away from", 0, 2, []int{0, 3, 0, 0, 0, 0, 0, 0}, []int{0, 2}, []int{0, 7}, star},
		{"a node that is not led away from far enough", 0, 2, []int{0, 1, 0, 0, 0, 0, 0, 0}, []int{0, 1, 2}, []int{0, 5, 7}, star},
		{"the goal has a number, so that a farther node is settled", 0, 1, []int{0, 5, 0, 0, 0, 0, 0, 0}, []int{0, 2, 1}, []int{0, 7, 5}, star},
		{"the goal has a number that is too small for it", 0, 1, []int{0, 1, 0, 0, 0, 0, 0, 0}, []int{0, 1}, []int{0, 5}, star},
		{"the goal is not reached", 0, 7, []int{0, 3, 0, 0, 0, 0, 0, 0}, []int{0, 2, 1}, []int{0, 7, 5}, star},
		{"the goal is not reached, one node", 6, 7, []int{1, 2, 3, 4, 5, 6, 7, 8}, []int{6}, []int{0}, star},
		{"the goal is not reached, but s from it", 0, 7, []int{1, 0, 0, 0, 0, 0, 0, 2}, []int{0, 1}, []int{0, 5}, []impl.Arc{arc(0, 1, 5), arc(7, 0, 1)}},
		{"a tie by the potential", 0, 3, []int{0, 0, 1, 0, 0, 0, 0, 0}, []int{0, 1, 2, 3}, []int{0, 4, 3, 14}, tie},
		{"no tie without it", 0, 3, make([]int, 8), []int{0, 2, 1, 3}, []int{0, 3, 4, 14}, tie},
		{"a tie with the goal, which is smaller", 0, 1, []int{0, 0, 1, 0, 0, 0, 0, 0}, []int{0, 1}, []int{0, 4}, tie},
		{"a tie with the goal, which is greater", 0, 2, []int{0, 0, 1, 0, 0, 0, 0, 0}, []int{0, 1, 2}, []int{0, 4, 3}, tie},
		{"a tie with a node that is found late", 0, 7, []int{9, 4, 0, 0, 0, 7, 7, 0}, []int{0, 5, 1, 6, 7}, []int{0, 2, 5, 2, 9}, []impl.Arc{arc(0, 5, 2), arc(0, 6, 2), arc(1, 7, 4), arc(5, 1, 3)}},
		{"a tie of all", 0, 3, []int{3, 2, 2, 0, 2, 0, 0, 0}, []int{0, 1, 2, 3}, []int{0, 1, 1, 3}, []impl.Arc{arc(0, 1, 1), arc(0, 2, 1), arc(0, 4, 1), arc(2, 3, 2)}},
		{"a key that decreases three times", 0, 4, []int{0, 1, 1, 1, 0, 0, 0, 0}, []int{0, 3, 2, 1, 4}, []int{0, 1, 2, 3, 10}, sinking},
		{"a key that decreases three times to a goal with a number", 0, 4, []int{0, 1, 1, 1, 4, 0, 0, 0}, []int{0, 3, 2, 1, 4}, []int{0, 1, 2, 3, 10}, sinking},
		{"a key that decreases once", 0, 4, []int{0, 0, 2, 5, 0, 0, 0, 0}, []int{0, 1, 2, 3, 4}, []int{0, 3, 2, 1, 10}, sinking},
		{"the greatest numbers", 0, 2, []int{999995, 999997, 999993, 1000000, 1000000, 0, 0, 0}, []int{0, 2}, []int{0, 7}, star},
	}
	for _, c := range cases {
		t.Run(c.name, func(t *testing.T) {
			sameGuided(t, netOf(spreadPoints(8, 2), c.arcs...), c.s, c.e, c.pot, impl.Seen{Order: c.order, Dists: c.dists})
		})
	}
	sameGuided(t, sampleNet(), 0, 2, []int{20, 10, 0, 15}, impl.Seen{Order: []int{0, 1, 2}, Dists: []int{0, 10, 20}})
	sameGuided(t, sampleNet(), 3, 0, make([]int, 4), impl.Seen{Order: []int{3, 2, 1, 0}, Dists: []int{0, 15, 25, 35}})
}

// The Keys of the ends decrease with every other node that is settled, whatever they are increased by.
func TestGuidedKeysThatDecreaseOften(t *testing.T) {
	n := sinkingNet(upTo(20), 1)
	want := impl.Seen{Order: upTo(20), Dists: upTo(20)}
	want.Dists[19] = 18 + 1000 - 3*17
	for _, number := range []int{0, 1, 40, greatestPot} {
		pot := make([]int, 20)
		pot[19] = number
		sameGuided(t, n, 0, 19, pot, want)
	}
	n = slowNet()
	want = impl.Seen{Order: upTo(20), Dists: upTo(20)}
	for i := range want.Dists {
		want.Dists[i] *= 10000
	}
	pot := downFrom(20)
	for u := range pot {
		pot[u] *= 10000
	}
	sameGuided(t, n, 0, 19, pot, want)
	for u := range pot {
		pot[u] += greatestPot - 190000
	}
	sameGuided(t, n, 0, 19, pot, want)
}

func TestGuidedBetweenNodesThatDoNotExist(t *testing.T) {
	for _, n := range []impl.Net{{}, netOf(spreadPoints(1, 1)), sampleNet(), fullNet(), slowNet(), streetNet()} {
		pot := make([]int, len(n.Nodes))
		for _, u := range outsiders(len(n.Nodes)) {
			for _, v := range everyNode(n) {
				sameGuided(t, n, u, v, pot, impl.Seen{})
				sameGuided(t, n, v, u, pot, impl.Seen{})
			}
		}
	}
}

// sameMarkPot checks MarkPot against a table, and what follows from the triangle inequality.
func sameMarkPot(t *testing.T, n impl.Net, table [][]int, e int, marks []int) {
	t.Helper()
	got := impl.MarkPot(n, e, marks)
	if !slices.Equal(got, markedBy(table, e, marks)) || len(got) != len(n.Nodes) {
		t.Fatalf("MarkPot(%v, %d, %v) is %v", n, e, marks, got)
	}
	if got[e] != 0 {
		t.Fatalf("MarkPot(%v, %d, %v) is %d for the goal", n, e, marks, got[e])
	}
	for v, x := range got {
		if d := table[v][e]; d != noRoute && x > d {
			t.Fatalf("MarkPot(%v, %d, %v) is %d for %d, which is nearer to the goal", n, e, marks, x, v)
		}
	}
	if ok := impl.PotOk(n, got); ok != isPot(table, got) {
		t.Fatalf("PotOk(%v, %v) is %t", n, got, ok)
	}
}

func TestMarkPotExamples(t *testing.T) {
	street := chainNet(upTo(4), 5)
	apart := netOf(spreadPoints(4, 2), arc(0, 1, 5), arc(1, 0, 7), arc(2, 3, 11), arc(3, 2, 13))
	fork := netOf(spreadPoints(3, 2), arc(0, 1, 1), arc(0, 2, 50))
	cases := []struct {
		name  string
		n     impl.Net
		e     int
		marks []int
		want  []int
	}{
		{"the sample, the goal", sampleNet(), 2, []int{2}, []int{20, 10, 0, 15}},
		{"the sample, another landmark", sampleNet(), 2, []int{0}, []int{20, 10, 0, 15}},
		{"the sample, the distances from the landmark are greater", sampleNet(), 0, []int{3}, []int{0, 10, 20, 35}},
		{"no landmarks", sampleNet(), 2, nil, []int{0, 0, 0, 0}},
		{"an empty list of landmarks", sampleNet(), 2, []int{}, []int{0, 0, 0, 0}},
		{"one node", netOf(spreadPoints(1, 1)), 0, []int{0, 0}, []int{0}},
		{"one way, the goal is the last node and the landmark", street, 3, []int{3}, []int{15, 10, 5, 0}},
		{"one way, the landmark is not reached from the goal", street, 3, []int{0}, []int{15, 10, 5, 0}},
		{"one way, a node is not reached from the landmark either", street, 3, []int{1}, []int{0, 10, 5, 0}},
		{"one way, only the landmark before the goal", street, 3, []int{2}, []int{0, 0, 5, 0}},
		{"one way, the goal is not reached from the landmark", street, 1, []int{3}, []int{5, 0, 0, 0}},
		{"one way, nor is the landmark from nodes behind it", street, 1, []int{2}, []int{5, 0, 0, 0}},
		{"one way, the goal is the first node", street, 0, []int{3}, []int{0, 0, 0, 0}},
		{"one way, the landmark in the middle", street, 2, []int{2}, []int{10, 5, 0, 0}},
		{"one way, two landmarks", street, 3, []int{1, 2}, []int{0, 10, 5, 0}},
		{"one way, the greater difference counts", street, 3, []int{1, 3}, []int{15, 10, 5, 0}},
		{"apart, the landmark beside the goal", apart, 0, []int{1}, []int{0, 7, 0, 0}},
		{"apart, the landmark elsewhere", apart, 0, []int{2}, []int{0, 0, 0, 0}},
		{"apart, landmarks everywhere", apart, 3, []int{0, 1, 2}, []int{0, 0, 11, 0}},
		{"no arcs", netOf(spreadPoints(3, 2)), 1, []int{0, 1, 2}, []int{0, 0, 0}},
		{"a neighbor does not reach the landmark", fork, 2, []int{2}, []int{50, 0, 0}},
		{"the only node that reaches the goal", fork, 2, []int{0}, []int{50, 49, 0}},
	}
	for _, c := range cases {
		t.Run(c.name, func(t *testing.T) {
			if got := impl.MarkPot(c.n, c.e, c.marks); !slices.Equal(got, c.want) || got == nil {
				t.Fatalf("it is %v, not %v", got, c.want)
			}
			sameMarkPot(t, c.n, tableOf(c.n), c.e, c.marks)
			twice := append(slices.Clone(c.marks), c.marks...)
			slices.Reverse(twice)
			if got := impl.MarkPot(c.n, c.e, twice); !slices.Equal(got, c.want) {
				t.Fatalf("with every landmark twice it is %v, not %v", got, c.want)
			}
		})
	}
}

// Where a node reaches the landmark and the next one does not, the numbers need not be consistent; then there is no guided search.
func TestMarkPotThatIsNotConsistent(t *testing.T) {
	n := netOf(spreadPoints(3, 2), arc(0, 1, 1), arc(0, 2, 50))
	pot := impl.MarkPot(n, 2, []int{2})
	if !slices.Equal(pot, []int{50, 0, 0}) || impl.PotOk(n, pot) {
		t.Fatalf("MarkPot is %v", pot)
	}
	sameGuided(t, n, 0, 2, pot, impl.Seen{})
	if got := impl.Lowered(n, pot); !emptyNet(got) {
		t.Fatalf("Lowered is %v", got)
	}
}

func TestMarkPot(t *testing.T) {
	for i, n := range searchNets() {
		table := tableOf(n)
		for e := range n.Nodes {
			sameMarkPot(t, n, table, e, nil)
			sameMarkPot(t, n, table, e, []int{e})
			for m := range n.Nodes {
				sameMarkPot(t, n, table, e, []int{m})
			}
			random := rand.New(rand.NewPCG(uint64(i), uint64(e)))
			for many := 2; many <= mostMarks; many++ {
				marks := make([]int, many)
				for j := range marks {
					marks[j] = random.IntN(len(n.Nodes))
				}
				sameMarkPot(t, n, table, e, marks)
			}
			far := impl.FarMarks(n, 1+(i+e)%mostMarks)
			sameMarkPot(t, n, table, e, far)
		}
	}
}

// Networks of three nodes, with every set of landmarks.
func TestMarkPotOfSmallNetworks(t *testing.T) {
	visitLenNets(3, []int{0, 1, 2, 5}, func(n impl.Net) {
		table := tableOf(n)
		for e := range n.Nodes {
			for set := range 8 {
				marks := slices.DeleteFunc(upTo(3), func(m int) bool { return set>>m&1 == 0 })
				sameMarkPot(t, n, table, e, marks)
			}
		}
	})
}

// Where all nodes reach each other, the numbers are consistent and lead to the goal.
func TestGuidedByLandmarks(t *testing.T) {
	guided, plain := 0, 0
	for i, n := range searchNets() {
		table := tableOf(n)
		connected := !slices.ContainsFunc(table, func(row []int) bool { return slices.Contains(row, noRoute) })
		for e := range n.Nodes {
			pot := impl.MarkPot(n, e, impl.FarMarks(n, 1+(i+e)%mostMarks))
			if connected && !impl.PotOk(n, pot) {
				t.Fatalf("in %v the numbers %v for %d are not consistent", n, pot, e)
			}
			if !isPot(table, pot) {
				continue
			}
			for s := range n.Nodes {
				keepsPromise(t, n, table, s, e, pot)
				sameGoal(t, n, s, e, pot)
				sameGuided(t, n, s, e, pot, guidedByQueues(n, s, e, pot))
				if table[s][e] != noRoute {
					guided += len(impl.Guided(n, s, e, pot).Order)
					plain += len(impl.Search(n, s, e).Order)
				}
			}
		}
	}
	if guided >= plain {
		t.Errorf("guided searches settle %d nodes, and others %d", guided, plain)
	}
}

func TestMarkPotOfWrongArguments(t *testing.T) {
	for _, n := range []impl.Net{{}, netOf(spreadPoints(1, 1)), sampleNet(), fullNet(), netOf(spreadPoints(20, 1))} {
		last := len(n.Nodes) - 1
		for _, u := range outsiders(len(n.Nodes)) {
			for _, marks := range [][]int{nil, {0}, {u}, {last, 0}, slices.Repeat([]int{0}, 9)} {
				if got := impl.MarkPot(n, u, marks); got != nil {
					t.Fatalf("MarkPot(%v, %d, %v) is %v", n, u, marks, got)
				}
			}
			for _, marks := range [][]int{{u}, {u, 0}, {0, u}, {0, u, last}, {0, 0, 0, 0, 0, 0, 0, u}, {0, 0, 0, 0, 0, 0, 0, 0, u}} {
				if got := impl.MarkPot(n, 0, marks); got != nil {
					t.Fatalf("MarkPot(%v, 0, %v) is %v", n, marks, got)
				}
			}
		}
		for many := range 20 {
			for u := range n.Nodes {
				marks := slices.Repeat([]int{u}, many)
				if got := impl.MarkPot(n, last, marks); (got == nil) != (many > mostMarks) {
					t.Fatalf("MarkPot(%v, %d, %v) is %v", n, last, marks, got)
				}
			}
		}
	}
	if marks := upTo(9); impl.MarkPot(fullNet(), 0, marks) != nil || impl.MarkPot(fullNet(), 0, marks[1:]) == nil {
		t.Error("nine different landmarks, or not eight")
	}
}

func TestFarMarksExamples(t *testing.T) {
	cases := []struct {
		name string
		n    impl.Net
		want []int
	}{
		{"one node", netOf(spreadPoints(1, 1)), []int{0}},
		{"two nodes", twoNet(arc(0, 1, 5)), []int{0, 1}},
		{"the sample", sampleNet(), []int{0, 2, 3, 1}},
		{"no arcs", netOf(spreadPoints(20, 1)), upTo(8)},
		{"one way", chainNet(upTo(4), 5), []int{0, 3, 2, 1}},
		{"one way back", chainNet(downFrom(4), 5), []int{0, 1, 2, 3}},
		{"a node that is not reached goes before the farthest one", netOf(spreadPoints(4, 1), arc(0, 1, 10000), arc(1, 3, 10000)), []int{0, 2, 3, 1}},
		{"the last node is not reached", netOf(spreadPoints(4, 1), arc(0, 1, 10000), arc(1, 2, 10000), arc(3, 2, 1)), []int{0, 3, 1, 2}},
		{"nodes that are reached from the second landmark only", netOf(spreadPoints(5, 1), arc(0, 4, 8), arc(1, 2, 9), arc(2, 3, 1)), []int{0, 1, 3, 2, 4}},
		{"a tie of three", netOf(spreadPoints(4, 1), arc(0, 1, 5), arc(0, 2, 5), arc(0, 3, 5)), []int{0, 1, 2, 3}},
		{"a tie that arises by the second landmark", netOf(spreadPoints(4, 1), arc(0, 1, 3), arc(0, 2, 7), arc(0, 3, 9), arc(3, 2, 3)), []int{0, 3, 1, 2}},
		{"the distance from the landmark counts, not to it", netOf(spreadPoints(3, 1), arc(0, 1, 5), arc(0, 2, 6), arc(1, 0, 90), arc(2, 0, 1)), []int{0, 2, 1}},
		{"the nearest landmark counts", netOf(spreadPoints(4, 1), arc(0, 1, 20), arc(0, 2, 30), arc(0, 3, 19), arc(2, 1, 2)), []int{0, 2, 3, 1}},
		{"a node that is not reached goes before one behind 18 longest arcs", netOf(spreadPoints(20, 1), chainNet(upTo(19), impl.MaxLen).Arcs...), []int{0, 19, 18, 17, 16, 15, 14, 13}},
		{"a ring", ringNet(8, 10), []int{0, 7, 6, 5, 4, 3, 2, 1}},
	}
	for _, c := range cases {
		for many := 1; many <= mostMarks; many++ {
			if got := impl.FarMarks(c.n, many); !slices.Equal(got, c.want[:min(many, len(c.want))]) {
				t.Errorf("%s: FarMarks(%v, %d) is %v", c.name, c.n, many, got)
			}
		}
	}
}

func TestFarMarks(t *testing.T) {
	for _, n := range searchNets() {
		table := tableOf(n)
		for many := 1; many <= mostMarks && len(n.Nodes) > 0; many++ {
			if got, want := impl.FarMarks(n, many), farBy(table, many); !slices.Equal(got, want) {
				t.Fatalf("FarMarks(%v, %d) is %v, not %v", n, many, got, want)
			}
		}
	}
	visitLenNets(4, []int{0, 2, 3}, func(n impl.Net) {
		if got, want := impl.FarMarks(n, 4), farBy(tableOf(n), 4); !slices.Equal(got, want) {
			t.Fatalf("FarMarks(%v, 4) is %v, not %v", n, got, want)
		}
	})
}

func TestFarMarksOfWrongNumbers(t *testing.T) {
	for _, n := range goodNets() {
		for _, many := range []int{0, -1, 9, 10, 20, 1 << 32, math.MinInt, math.MaxInt} {
			if got := impl.FarMarks(n, many); got != nil {
				t.Fatalf("FarMarks(%v, %d) is %v", n, many, got)
			}
		}
	}
	for many := 1; many <= mostMarks; many++ {
		for _, n := range []impl.Net{{}, {Nodes: []impl.Pt{}, Arcs: []impl.Arc{}}} {
			if got := impl.FarMarks(n, many); got != nil {
				t.Fatalf("FarMarks without nodes is %v", got)
			}
		}
		if got := impl.FarMarks(slowNet(), many); len(got) != many {
			t.Fatalf("FarMarks of %d is %v", many, got)
		}
	}
}

func TestPotentialsOfInvalidNetworks(t *testing.T) {
	for _, b := range badNets() {
		for _, number := range []int{0, 7, greatestPot} {
			pot := slices.Repeat([]int{number}, len(b.net.Nodes))
			if impl.PotOk(b.net, pot) {
				t.Errorf("%s: PotOk is true", b.name)
			}
			if got := impl.Lowered(b.net, pot); got.Nodes != nil || got.Arcs != nil {
				t.Errorf("%s: Lowered is %v", b.name, got)
			}
			for _, u := range []int{0, 1, 2, -1, 19, 20} {
				sameGuided(t, b.net, u, 1, pot, impl.Seen{})
				sameGuided(t, b.net, 0, u, pot, impl.Seen{})
			}
		}
		for _, marks := range [][]int{nil, {0}, {1, 0}, {2}, {-1}, {1000}} {
			for _, u := range []int{0, 1, 2, -1, 19, 20} {
				if got := impl.MarkPot(b.net, u, marks); got != nil {
					t.Errorf("%s: MarkPot is %v", b.name, got)
				}
			}
		}
		for many := range 10 {
			if got := impl.FarMarks(b.net, many); got != nil {
				t.Errorf("%s: FarMarks is %v", b.name, got)
			}
		}
	}
}

// badPots are no potentials of that network, which has at least one node and arcs of at most MaxLen.
func badPots(n impl.Net) [][]int {
	count := len(n.Nodes)
	pots := [][]int{make([]int, count+1), make([]int, count-1), make([]int, 1000)}
	for _, bad := range []int{-1, greatestPot + 1, math.MinInt, math.MaxInt} {
		for _, u := range []int{0, count / 2, count - 1} {
			pot := make([]int, count)
			pot[u] = bad
			pots = append(pots, pot)
		}
	}
	for _, a := range n.Arcs {
		steep, slack := make([]int, count), slices.Repeat([]int{greatestPot}, count)
		steep[a.From], slack[a.To] = a.Len+1, greatestPot-a.Len-1
		pots = append(pots, steep, slack)
	}
	return pots
}

func TestInvalidPotentials(t *testing.T) {
	for _, n := range []impl.Net{netOf(spreadPoints(1, 1)), twoNet(arc(1, 0, 5)), sampleNet(), fullNet(), longNet(), slowNet(), streetNet()} {
		for _, pot := range badPots(n) {
			if impl.PotOk(n, pot) {
				t.Fatalf("PotOk(%v, %v) is true", n, pot)
			}
			if got := impl.Lowered(n, pot); got.Nodes != nil || got.Arcs != nil {
				t.Fatalf("Lowered(%v, %v) is %v", n, pot, got)
			}
			for s := range n.Nodes {
				sameGuided(t, n, s, s, pot, impl.Seen{})
				sameGuided(t, n, s, 0, pot, impl.Seen{})
				sameGuided(t, n, 0, s, pot, impl.Seen{})
			}
		}
	}
}

func TestPotentialsDoNotModifyOrShare(t *testing.T) {
	for _, plain := range append(allNets(), slowNet(), sinkingNet(downFrom(20), 3)) {
		n, unchanged := roomyNet(plain)
		for _, number := range []int{0, 5, -1} {
			numbers := slices.Repeat([]int{number}, len(n.Nodes))
			pot := roomy(numbers, -5)
			before := wholeOf(pot)
			if impl.PotOk(n, pot) != impl.PotOk(plain, numbers) {
				t.Fatalf("the spare capacity behind %v or its potential counts", plain)
			}
			lowered := impl.Lowered(n, pot)
			if !sameNet(lowered, impl.Lowered(plain, numbers)) {
				t.Fatalf("the spare capacity behind %v counts", plain)
			}
			spoil(lowered.Nodes, pt(-3, -3))
			spoil(lowered.Arcs, arc(-3, -3, -3))
			for u := range n.Nodes {
				v := (u + 1) % len(n.Nodes)
				one, two := impl.Guided(n, u, v, pot), impl.Guided(plain, u, v, numbers)
				if !equalSeen(one, two) {
					t.Fatalf("the spare capacity behind %v counts", plain)
				}
				spoil(one.Order, -5)
				if !slices.Equal(one.Dists, two.Dists) {
					t.Fatalf("Order and Dists of %v share memory", plain)
				}
				spoil(one.Dists, -5)
			}
			if !slices.Equal(before, wholeOf(pot)) {
				t.Fatalf("%v was changed to %v", before, wholeOf(pot))
			}
		}
		if !unchanged() {
			t.Fatalf("%v was changed to %v", plain, n)
		}
	}
}

func TestLandmarksDoNotModifyOrShare(t *testing.T) {
	for _, plain := range append(allNets(), slowNet(), streetNet()) {
		n, unchanged := roomyNet(plain)
		for many := range mostMarks + 2 {
			far := impl.FarMarks(n, many)
			if !slices.Equal(far, impl.FarMarks(plain, many)) {
				t.Fatalf("the spare capacity behind %v counts", plain)
			}
			// Behind the landmarks lies a number that is no node, and more of them than there may be.
			marks := roomy(far, -5)
			before := wholeOf(marks)
			for u := range n.Nodes {
				pot := impl.MarkPot(n, u, marks)
				if !slices.Equal(pot, impl.MarkPot(plain, u, far)) {
					t.Fatalf("the spare capacity behind %v or its landmarks counts", plain)
				}
				spoil(pot, -5)
			}
			if !slices.Equal(before, wholeOf(marks)) {
				t.Fatalf("%v was changed to %v", before, wholeOf(marks))
			}
			again := impl.FarMarks(n, many)
			spoil(far, -5)
			if !slices.Equal(again, impl.FarMarks(n, many)) {
				t.Fatalf("FarMarks of %v is not the same in the second call", plain)
			}
		}
		if !unchanged() {
			t.Fatalf("%v was changed to %v", plain, n)
		}
	}
}

// A list that is too short is not completed by what lies behind it.
func TestSpareNumbersAreNotRead(t *testing.T) {
	n := sampleNet()
	pot := []int{20, 10, 0, 15}
	for count := range pot {
		short := pot[:count]
		if impl.PotOk(n, short) || !emptyNet(impl.Lowered(n, short)) {
			t.Errorf("the potential %v counts", short)
		}
		sameGuided(t, n, 0, 2, short, impl.Seen{})
	}
	if !impl.PotOk(n, pot) || !slices.Equal(pot, []int{20, 10, 0, 15}) {
		t.Errorf("the potential is %v", pot)
	}
}
