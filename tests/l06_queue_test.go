package tests

import (
	"cmp"
	"fmt"
	"math"
	"math/rand/v2"
	"slices"
	"testing"

	"loop.example/g00640/impl"
)

func item(key int, id int) impl.Item { return impl.Item{Key: key, Id: id} }

// itemsOf returns the items with these Keys and Ids, given alternately.
func itemsOf(numbers ...int) []impl.Item {
	var items []impl.Item
	for i := 0; i < len(numbers); i += 2 {
		items = append(items, item(numbers[i], numbers[i+1]))
	}
	return items
}

func byKey(a impl.Item, b impl.Item) int {
	return cmp.Or(cmp.Compare(a.Key, b.Key), cmp.Compare(a.Id, b.Id))
}

// isQueue compares every two items.
func isQueue(q []impl.Item) bool {
	for i := range q {
		for _, x := range q[:i] {
			if x.Id == q[i].Id || byKey(x, q[i]) > 0 {
				return false
			}
		}
	}
	return true
}

// putInto keeps, of the items of q and x, the one with the smallest Key for each Id.
func putInto(q []impl.Item, x impl.Item) []impl.Item {
	all := append(slices.Clone(q), x)
	slices.SortFunc(all, byKey)
	var kept []impl.Item
	for _, y := range all {
		if !slices.ContainsFunc(kept, func(z impl.Item) bool { return z.Id == y.Id }) {
			kept = append(kept, y)
		}
	}
	return kept
}

// itemsFrom returns all items with one of the Keys and one of the Ids.
func itemsFrom(keys []int, ids []int) []impl.Item {
	var items []impl.Item
	for _, key := range keys {
		for _, id := range ids {
			items = append(items, item(key, id))
		}
	}
	return items
}

// visitLists visits all lists of at most that many of the items, queues and others.
func visitLists(items []impl.Item, most int, visit func(list []impl.Item)) {
	everyList(upTo(len(items)), most, func(places []int) {
		list := make([]impl.Item, len(places))
		for i, at := range places {
			list[i] = items[at]
		}
		visit(list)
	})
}

func extremes() []int { return []int{math.MinInt, -1, math.MaxInt} }

// badQueues each break one rule of QueueOk.
func badQueues() [][]impl.Item {
	return [][]impl.Item{
		itemsOf(2, 1, 1, 2),
		itemsOf(1, 5, 3, 6, 2, 7),
		itemsOf(3, 5, 1, 6, 2, 7),
		itemsOf(1, 5, 2, 6, 3, 7, 0, 8),
		itemsOf(0, 0, -1, 1),
		itemsOf(math.MaxInt, 0, math.MinInt, 1),
		itemsOf(0, 0, math.MinInt, 1),
		itemsOf(math.MaxInt, 0, -1, 1),
		itemsOf(4, 2, 4, 1),
		itemsOf(1, 0, 4, 3, 4, 2, 5, 1),
		itemsOf(4, math.MaxInt, 4, math.MinInt),
		itemsOf(4, 0, 4, math.MinInt),
		itemsOf(4, 0, 4, -1),
		itemsOf(1, 1, 2, 1),
		itemsOf(1, 1, 1, 1),
		itemsOf(0, 0, 0, 0),
		itemsOf(1, 1, 2, 2, 3, 1),
		itemsOf(1, 3, 2, 2, 3, 1, 4, 2),
		itemsOf(1, 1, 2, 2, 3, 3, 4, 4, 5, 3),
		itemsOf(1, math.MinInt, 2, math.MinInt),
		itemsOf(-5, math.MaxInt, 0, 1, 7, math.MaxInt),
	}
}

// goodQueues returns queues, an empty one and long ones among them.
func goodQueues() [][]impl.Item {
	queues := [][]impl.Item{
		nil,
		{},
		itemsOf(0, 0),
		itemsOf(math.MinInt, math.MaxInt),
		itemsOf(math.MaxInt, math.MinInt),
		itemsOf(1, 4, 5, 2),
		itemsOf(4, 1, 4, 2),
		itemsOf(4, -2, 4, -1, 4, 0, 4, 3),
		itemsOf(4, math.MinInt, 4, -1, 4, math.MaxInt),
		itemsOf(math.MinInt, 3, -1, 2, 0, 1, math.MaxInt, 0),
		itemsOf(math.MinInt, math.MinInt, math.MaxInt, math.MaxInt),
		itemsOf(1, 9, 2, 8, 2, 10, 3, 7),
	}
	for _, count := range []int{20, 100} {
		for salt := range 5 {
			queues = append(queues, longQueue(count, salt))
		}
	}
	return queues
}

// longQueue has items with irregular Keys, some of them equal.
func longQueue(count int, salt int) []impl.Item {
	var q []impl.Item
	for i, id := range rand.New(rand.NewPCG(uint64(count), uint64(salt))).Perm(count) {
		q = append(q, item(i*i%17*3, id-count/3))
	}
	slices.SortFunc(q, byKey)
	return q
}

// sameQueue checks what QueuePut returns for a valid queue.
func sameQueue(t *testing.T, q []impl.Item, x impl.Item, want []impl.Item) {
	t.Helper()
	if got, ok := impl.QueuePut(q, x); !ok || !slices.Equal(got, want) {
		t.Fatalf("QueuePut(%v, %v) is %v, %t, not %v", q, x, got, ok, want)
	}
}

func TestQueueOk(t *testing.T) {
	for _, q := range goodQueues() {
		if !impl.QueueOk(q) {
			t.Errorf("QueueOk(%v) is false", q)
		}
	}
	for _, q := range badQueues() {
		if impl.QueueOk(q) {
			t.Errorf("QueueOk(%v) is true", q)
		}
	}
}

// Every list of up to three of these items.
func TestShortLists(t *testing.T) {
	for _, items := range [][]impl.Item{
		itemsFrom([]int{0, 1, 2}, []int{0, 1, 2}),
		itemsFrom([]int{-2, -1}, []int{-1, 0, 1, 2}),
		itemsFrom(extremes(), extremes()),
	} {
		visitLists(items, 3, func(list []impl.Item) {
			judgedQueue(t, list)
			for _, x := range items {
				want := putInto(list, x)
				got, ok := impl.QueuePut(list, x)
				if valid := isQueue(list); ok != valid || valid && !slices.Equal(got, want) || !valid && got != nil {
					t.Fatalf("QueuePut(%v, %v) is %v, %t", list, x, got, ok)
				}
			}
		})
	}
}

// judgedQueue checks what QueueOk and QueuePop return for a list, which need not be a queue.
func judgedQueue(t *testing.T, list []impl.Item) {
	t.Helper()
	valid := isQueue(list)
	if got := impl.QueueOk(list); got != valid {
		t.Fatalf("QueueOk(%v) is %t", list, got)
	}
	x, rest, ok := impl.QueuePop(list)
	if !valid || len(list) == 0 {
		if ok || rest != nil || x != item(0, 0) {
			t.Fatalf("QueuePop(%v) is %v, %v, %t", list, x, rest, ok)
		}
		return
	}
	if !ok || x != list[0] || !slices.Equal(rest, list[1:]) {
		t.Fatalf("QueuePop(%v) is %v, %v, %t", list, x, rest, ok)
	}
}

func TestLongerLists(t *testing.T) {
	visitLists(itemsFrom([]int{0, 1}, []int{0, 1, 2}), 5, func(list []impl.Item) { judgedQueue(t, list) })
	for _, list := range slices.Concat(goodQueues(), badQueues()) {
		judgedQueue(t, list)
		for i := range list {
			for j := range i {
				other := slices.Clone(list)
				other[i], other[j] = other[j], other[i]
				judgedQueue(t, other)
				other[i], other[j] = list[i], item(list[j].Key, list[i].Id)
				judgedQueue(t, other)
			}
		}
	}
}

// An item whose Id is already in the queue, with each kind of Key.
func TestKeysThatDecrease(t *testing.T) {
	q := itemsOf(10, 4, 20, 2, 20, 6, 30, 1, 40, 5)
	cases := []struct {
		name string
		x    impl.Item
		want []impl.Item
	}{
		{"the first, greater before", item(9, 4), itemsOf(9, 4, 20, 2, 20, 6, 30, 1, 40, 5)},
		{"the first, much greater before", item(math.MinInt, 4), itemsOf(math.MinInt, 4, 20, 2, 20, 6, 30, 1, 40, 5)},
		{"the first, equal", item(10, 4), q},
		{"the first, smaller before", item(11, 4), q},
		{"the first, behind the next", item(25, 4), q},
		{"the first, behind the last", item(math.MaxInt, 4), q},
		{"the middle one, greater before, in its place", item(29, 1), itemsOf(10, 4, 20, 2, 20, 6, 29, 1, 40, 5)},
		{"the middle one, greater before, to equal Keys in front", item(20, 1), itemsOf(10, 4, 20, 1, 20, 2, 20, 6, 40, 5)},
		{"the middle one, greater before, to the front", item(9, 1), itemsOf(9, 1, 10, 4, 20, 2, 20, 6, 40, 5)},
		{"the middle one, greater before, to the equal front", item(10, 1), itemsOf(10, 1, 10, 4, 20, 2, 20, 6, 40, 5)},
		{"the middle one, equal", item(30, 1), q},
		{"the middle one, smaller before", item(31, 1), q},
		{"the middle one, smaller before, behind the last", item(50, 1), q},
		{"the second of equal Keys, greater before", item(19, 6), itemsOf(10, 4, 19, 6, 20, 2, 30, 1, 40, 5)},
		{"the second of equal Keys, equal", item(20, 6), q},
		{"the first of equal Keys, smaller before", item(21, 2), q},
		{"the last, greater before, in its place", item(39, 5), itemsOf(10, 4, 20, 2, 20, 6, 30, 1, 39, 5)},
		{"the last, greater before, to an equal Key", item(30, 5), itemsOf(10, 4, 20, 2, 20, 6, 30, 1, 30, 5)},
		{"the last, greater before, between equal Keys", item(20, 5), itemsOf(10, 4, 20, 2, 20, 5, 20, 6, 30, 1)},
		{"the last, greater before, behind the equal front", item(10, 5), itemsOf(10, 4, 10, 5, 20, 2, 20, 6, 30, 1)},
		{"the last, greater before, to the front", item(-10, 5), itemsOf(-10, 5, 10, 4, 20, 2, 20, 6, 30, 1)},
		{"the last, equal", item(40, 5), q},
		{"the last, smaller before", item(41, 5), q},
		{"the last, much smaller before", item(math.MaxInt, 5), q},
	}
	for _, c := range cases {
		t.Run(c.name, func(t *testing.T) { sameQueue(t, q, c.x, c.want) })
	}
	for _, key := range []int{math.MinInt, -1, 0, 1, math.MaxInt} {
		sameQueue(t, itemsOf(0, 7), item(key, 7), itemsOf(min(key, 0), 7))
	}
	sameQueue(t, itemsOf(math.MaxInt, 7), item(math.MinInt, 7), itemsOf(math.MinInt, 7))
	sameQueue(t, itemsOf(math.MinInt, 7), item(math.MaxInt, 7), itemsOf(math.MinInt, 7))
}

func TestNewItems(t *testing.T) {
	q := itemsOf(10, 4, 20, 2, 20, 6, 40, 5)
	cases := []struct {
		x    impl.Item
		want []impl.Item
	}{
		{item(9, 9), itemsOf(9, 9, 10, 4, 20, 2, 20, 6, 40, 5)},
		{item(10, 3), itemsOf(10, 3, 10, 4, 20, 2, 20, 6, 40, 5)},
		{item(10, 9), itemsOf(10, 4, 10, 9, 20, 2, 20, 6, 40, 5)},
		{item(20, -3), itemsOf(10, 4, 20, -3, 20, 2, 20, 6, 40, 5)},
		{item(20, 3), itemsOf(10, 4, 20, 2, 20, 3, 20, 6, 40, 5)},
		{item(20, 7), itemsOf(10, 4, 20, 2, 20, 6, 20, 7, 40, 5)},
		{item(30, math.MinInt), itemsOf(10, 4, 20, 2, 20, 6, 30, math.MinInt, 40, 5)},
		{item(40, 0), itemsOf(10, 4, 20, 2, 20, 6, 40, 0, 40, 5)},
		{item(40, math.MaxInt), itemsOf(10, 4, 20, 2, 20, 6, 40, 5, 40, math.MaxInt)},
		{item(math.MaxInt, 0), itemsOf(10, 4, 20, 2, 20, 6, 40, 5, math.MaxInt, 0)},
		{item(math.MinInt, 0), itemsOf(math.MinInt, 0, 10, 4, 20, 2, 20, 6, 40, 5)},
	}
	for _, c := range cases {
		sameQueue(t, q, c.x, c.want)
	}
	for _, x := range itemsFrom([]int{math.MinInt, -1, 0, 1, math.MaxInt}, []int{math.MinInt, -1, 0, 1, math.MaxInt}) {
		sameQueue(t, nil, x, []impl.Item{x})
		sameQueue(t, []impl.Item{}, x, []impl.Item{x})
	}
}

func TestPutIntoLongQueues(t *testing.T) {
	for _, q := range goodQueues() {
		for _, x := range slices.Concat(q, itemsOf(7, 1000, -7, -1000, 24, 0)) {
			for _, step := range []int{-100, -24, -3, -1, 0, 1, 24} {
				// The step may leave 64 bits, which is a Key like any other then.
				y := item(x.Key+step, x.Id)
				sameQueue(t, q, y, putInto(q, y))
			}
		}
	}
}

func TestQueuePopExamples(t *testing.T) {
	cases := []struct {
		q    []impl.Item
		x    impl.Item
		rest []impl.Item
		ok   bool
	}{
		{nil, item(0, 0), nil, false},
		{[]impl.Item{}, item(0, 0), nil, false},
		{itemsOf(0, 0), item(0, 0), nil, true},
		{itemsOf(5, 3), item(5, 3), nil, true},
		{itemsOf(math.MinInt, math.MaxInt), item(math.MinInt, math.MaxInt), nil, true},
		{itemsOf(1, 4, 5, 2), item(1, 4), itemsOf(5, 2), true},
		{itemsOf(1, 2, 1, 3, 1, 4), item(1, 2), itemsOf(1, 3, 1, 4), true},
		{itemsOf(5, 2, 1, 4), item(0, 0), nil, false},
		{itemsOf(1, 4, 1, 2), item(0, 0), nil, false},
		{itemsOf(1, 4, 2, 4), item(0, 0), nil, false},
	}
	for _, c := range cases {
		if x, rest, ok := impl.QueuePop(c.q); x != c.x || !slices.Equal(rest, c.rest) || ok != c.ok {
			t.Errorf("QueuePop(%v) is %v, %v, %t", c.q, x, rest, ok)
		}
	}
}

// What was put in any order is taken in ascending order, with the smallest Key of each Id.
func TestPutAndPop(t *testing.T) {
	for salt := range 40 {
		random := rand.New(rand.NewPCG(6, uint64(salt)))
		var q, want []impl.Item
		for range 60 {
			x := item(random.IntN(30)-10, random.IntN(25)-5)
			want = putInto(want, x)
			q, _ = impl.QueuePut(q, x)
		}
		for len(want) > 0 {
			x, rest, ok := impl.QueuePop(q)
			if !ok || x != want[0] || !impl.QueueOk(rest) {
				t.Fatalf("QueuePop(%v) is %v, %v, %t", q, x, rest, ok)
			}
			q, want = rest, want[1:]
		}
		if len(q) != 0 {
			t.Fatalf("%v is left", q)
		}
	}
}

func TestInvalidQueues(t *testing.T) {
	for _, q := range badQueues() {
		for _, x := range append(slices.Clone(q), itemsOf(0, 0, 1000, 1000, -1000, -1000, math.MinInt, 1, math.MaxInt, 1)...) {
			if got, ok := impl.QueuePut(q, x); ok || got != nil {
				t.Errorf("QueuePut(%v, %v) is %v, %t", q, x, got, ok)
			}
		}
		if x, rest, ok := impl.QueuePop(q); ok || rest != nil || x != item(0, 0) {
			t.Errorf("QueuePop(%v) is %v, %v, %t", q, x, rest, ok)
		}
	}
}

func TestQueuesAreNotModifiedOrShared(t *testing.T) {
	for _, plain := range slices.Concat(goodQueues(), badQueues()) {
		for _, fill := range itemsOf(-1000000, 77, 1000000, 77, 0, 0) {
			q := roomy(plain, fill)
			before := wholeOf(q)
			if impl.QueueOk(q) != isQueue(plain) {
				t.Fatalf("the spare capacity behind %v counts", plain)
			}
			for _, x := range append(slices.Clone(plain), itemsOf(-2000000, 88, 15, 88, 2000000, 88, 15, 77)...) {
				for _, y := range []impl.Item{x, item(x.Key-1, x.Id), item(x.Key-20, x.Id), item(x.Key+1, x.Id)} {
					got, _ := impl.QueuePut(q, y)
					if want := putInto(plain, y); isQueue(plain) && !slices.Equal(got, want) {
						t.Fatalf("with spare capacity QueuePut(%v, %v) is %v", plain, y, got)
					}
					spoil(got, item(-9, -9))
				}
			}
			_, rest, _ := impl.QueuePop(q)
			if len(plain) > 0 && isQueue(plain) && !slices.Equal(rest, plain[1:]) {
				t.Fatalf("with spare capacity QueuePop(%v) leaves %v", plain, rest)
			}
			spoil(rest, item(-9, -9))
			if !slices.Equal(before, wholeOf(q)) {
				t.Fatalf("%v was changed to %v", before, wholeOf(q))
			}
		}
	}
}

// seenFrom sorts the nodes that are reached from s by their distances and numbers, up to e.
func seenFrom(table [][]int, s int, e int) impl.Seen {
	order := slices.DeleteFunc(upTo(len(table)), func(u int) bool { return table[s][u] == noRoute })
	slices.SortStableFunc(order, func(u, v int) int { return cmp.Compare(table[s][u], table[s][v]) })
	if i := slices.Index(order, e); i >= 0 {
		order = order[:i+1]
	}
	seen := impl.Seen{Order: order}
	for _, u := range order {
		seen.Dists = append(seen.Dists, table[s][u])
	}
	return seen
}

// seenByQueues runs the algorithm as the document describes it, with a list as the queue.
func seenByQueues(n impl.Net, s int, e int) impl.Seen {
	var seen impl.Seen
	for q := itemsOf(0, s); len(q) > 0; {
		x := q[0]
		q = q[1:]
		seen.Order = append(seen.Order, x.Id)
		seen.Dists = append(seen.Dists, x.Key)
		if x.Id == e {
			break
		}
		for _, a := range n.Arcs {
			if a.From == x.Id && !slices.Contains(seen.Order, a.To) {
				q = putInto(q, item(x.Key+a.Len, a.To))
			}
		}
	}
	return seen
}

func equalSeen(a impl.Seen, b impl.Seen) bool {
	return slices.Equal(a.Order, b.Order) && slices.Equal(a.Dists, b.Dists)
}

func sameSeen(t *testing.T, n impl.Net, s int, e int, want impl.Seen) {
	t.Helper()
	if got := impl.Search(n, s, e); !equalSeen(got, want) {
		t.Fatalf("Search(%v, %d, %d) is %v, not %v", n, s, e, got, want)
	}
}

// sameBoth checks the distance from s to e and the smallest node on a shortest route, or, if that is noRoute, that there is none.
func sameBoth(t *testing.T, n impl.Net, s int, e int, length int, smallest int) {
	t.Helper()
	d, u, ok := impl.Both(n, s, e)
	if length == noRoute {
		if ok || d != 0 || u != 0 {
			t.Fatalf("Both(%v, %d, %d) is %d, %d, %t", n, s, e, d, u, ok)
		}
		return
	}
	if !ok || d != length || u != smallest {
		t.Fatalf("Both(%v, %d, %d) is %d, %d, %t, not %d, %d", n, s, e, d, u, ok, length, smallest)
	}
}

// smallestBetween returns the smallest node on a shortest route from s to e.
func smallestBetween(table [][]int, s int, e int) int {
	return slices.IndexFunc(upTo(len(table)), func(u int) bool {
		return table[s][u] != noRoute && table[u][e] != noRoute && table[s][u]+table[u][e] == table[s][e]
	})
}

// searchNets have, besides what the routes are tested with, keys that decrease often.
func searchNets() []impl.Net {
	nets := append(routeNets(), impl.Turned(streetNet()))
	for _, numbers := range [][]int{upTo(20), downFrom(20), stridden(20, 3), stridden(20, 7), stridden(20, 9), stridden(20, 13)} {
		for ends := 1; ends <= 3; ends++ {
			nets = append(nets, sinkingNet(numbers, ends), impl.Turned(sinkingNet(numbers, ends)))
		}
	}
	return nets
}

// sinkingNet has arcs from the first of the numbers to all others but the last ones, the ends, and from each of these to each end. Every further node that is settled makes the Keys of the ends smaller by 2.
func sinkingNet(numbers []int, ends int) impl.Net {
	s, middle, last := numbers[0], numbers[1:len(numbers)-ends], numbers[len(numbers)-ends:]
	n := netOf(spreadPoints(len(numbers), 1))
	for i, u := range middle {
		n.Arcs = append(n.Arcs, arc(s, u, i+1))
		for j, v := range last {
			n.Arcs = append(n.Arcs, arc(u, v, 1000+j-3*i))
		}
	}
	slices.SortFunc(n.Arcs, byEnds)
	return n
}

func TestSearch(t *testing.T) {
	for _, n := range searchNets() {
		if !impl.NetOk(n) {
			t.Fatalf("%v is not valid", n)
		}
		table := tableOf(n)
		for s := range n.Nodes {
			for e := range n.Nodes {
				sameSeen(t, n, s, e, seenFrom(table, s, e))
				sameBoth(t, n, s, e, table[s][e], smallestBetween(table, s, e))
			}
		}
	}
}

// Networks of three and four nodes, against the algorithm as the document describes it and against all their routes.
func TestSearchOfSmallNetworks(t *testing.T) {
	check := func(n impl.Net) {
		for s := range n.Nodes {
			for e := range n.Nodes {
				sameSeen(t, n, s, e, seenByQueues(n, s, e))
				length, smallest := shortestOf(n, []int{s}, e), e
				visitRoutes(n, []int{s}, e, func(r []int) {
					if l, _ := lenAlong(n, r); l == length {
						smallest = min(smallest, slices.Min(r))
					}
				})
				sameBoth(t, n, s, e, length, smallest)
			}
		}
	}
	visitLenNets(3, []int{0, 1, 2, 3}, check)
	visitLenNets(4, []int{0, 1}, check)
	count := 0
	visitLenNets(4, []int{0, 1, 3}, func(n impl.Net) {
		// Every 101st of them: the number of lengths to choose from has no divisor in common with it.
		if count++; count%101 == 0 {
			check(n)
		}
	})
}

// The same with the queue of the program: what Search returns is what QueuePut and QueuePop yield.
func TestSearchByQueues(t *testing.T) {
	for _, n := range searchNets() {
		for s := range n.Nodes {
			e := (s*7 + 3) % len(n.Nodes)
			sameSeen(t, n, s, e, seenByQueues(n, s, e))
			var got impl.Seen
			for q := itemsOf(0, s); len(q) > 0; {
				x, rest, _ := impl.QueuePop(q)
				q = rest
				got.Order, got.Dists = append(got.Order, x.Id), append(got.Dists, x.Key)
				if x.Id == e {
					break
				}
				for _, i := range impl.Outs(n, x.Id) {
					if a := n.Arcs[i]; !slices.Contains(got.Order, a.To) {
						q, _ = impl.QueuePut(q, item(x.Key+a.Len, a.To))
					}
				}
			}
			sameSeen(t, n, s, e, got)
		}
	}
}

// Every node is settled once, with its distance, in ascending order of these; those before the goal are no farther than it.
func TestNodesAreSettledInAscendingOrder(t *testing.T) {
	for _, n := range searchNets() {
		for s := range n.Nodes {
			dists := impl.DistFrom(n, s)
			for e := range n.Nodes {
				seen := impl.Search(n, s, e)
				if len(seen.Order) != len(seen.Dists) || seen.Order[0] != s || seen.Dists[0] != 0 || !slices.IsSorted(seen.Dists) {
					t.Fatalf("Search(%v, %d, %d) is %v", n, s, e, seen)
				}
				for i, u := range seen.Order {
					if seen.Dists[i] != dists[u] || slices.Index(seen.Order, u) != i {
						t.Fatalf("in %v from %d the node %d is settled with %d", n, s, u, seen.Dists[i])
					}
					if i > 0 && seen.Dists[i] == seen.Dists[i-1] && u < seen.Order[i-1] {
						t.Fatalf("in %v from %d the node %d is settled too late", n, s, u)
					}
				}
				for u, d := range dists {
					settled := slices.Contains(seen.Order, u)
					before := dists[e] == noRoute || d < dists[e] || d == dists[e] && u <= e
					if settled != (d != noRoute && before) {
						t.Fatalf("in %v from %d to %d the node %d is settled: %t", n, s, e, u, settled)
					}
				}
			}
		}
	}
}

func TestSearchExamples(t *testing.T) {
	eight := spreadPoints(8, 2)
	cases := []struct {
		name         string
		s, e         int
		order, dists []int
		arcs         []impl.Arc
	}{
		{"s is the goal", 3, 3, []int{3}, []int{0}, []impl.Arc{arc(2, 3, 1), arc(3, 2, 1)}},
		{"the goal is next", 0, 1, []int{0, 1}, []int{0, 4}, []impl.Arc{arc(0, 1, 4), arc(0, 2, 5), arc(1, 2, 1)}},
		{"the goal is not reached", 0, 7, []int{0, 1, 2}, []int{0, 4, 5}, []impl.Arc{arc(0, 1, 4), arc(1, 2, 1), arc(7, 0, 1)}},
		{"the goal is not reached, one node", 6, 7, []int{6}, []int{0}, []impl.Arc{arc(7, 6, 1)}},
		{"a tie with a smaller node", 0, 2, []int{0, 1, 2}, []int{0, 4, 4}, []impl.Arc{arc(0, 1, 4), arc(0, 2, 4), arc(0, 3, 4)}},
		{"a tie with greater nodes", 0, 1, []int{0, 1}, []int{0, 4}, []impl.Arc{arc(0, 1, 4), arc(0, 2, 4), arc(0, 3, 4)}},
		{"a tie that arises late", 0, 5, []int{0, 7, 2, 6, 5}, []int{0, 1, 4, 4, 9}, []impl.Arc{arc(0, 6, 4), arc(0, 7, 1), arc(2, 5, 5), arc(7, 2, 3)}},
		{"a key that decreases to a tie", 0, 7, []int{0, 1, 2, 3, 7}, []int{0, 1, 4, 4, 9}, []impl.Arc{arc(0, 1, 1), arc(0, 2, 9), arc(0, 3, 4), arc(1, 2, 3), arc(3, 7, 5)}},
		{"a key that decreases to the front", 0, 7, []int{0, 1, 6, 5, 7}, []int{0, 1, 2, 3, 5}, []impl.Arc{arc(0, 1, 1), arc(0, 5, 3), arc(0, 6, 9), arc(1, 6, 1), arc(6, 7, 3)}},
		{"a key that stays", 0, 7, []int{0, 1, 2, 7}, []int{0, 1, 4, 9}, []impl.Arc{arc(0, 1, 1), arc(0, 2, 4), arc(1, 2, 3), arc(2, 7, 5)}},
		{"a key that would increase", 0, 7, []int{0, 1, 2, 7}, []int{0, 1, 4, 9}, []impl.Arc{arc(0, 1, 1), arc(0, 2, 4), arc(1, 2, 9), arc(2, 7, 5)}},
		{"a key that decreases three times", 0, 4, []int{0, 3, 2, 1, 4}, []int{0, 1, 2, 3, 10}, []impl.Arc{arc(0, 1, 3), arc(0, 2, 2), arc(0, 3, 1), arc(0, 4, 13), arc(1, 4, 7), arc(2, 4, 9), arc(3, 4, 11)}},
		{"the goal is in the queue early but settled late", 0, 7, []int{0, 1, 2, 3, 7}, []int{0, 1, 2, 3, 4}, []impl.Arc{arc(0, 1, 1), arc(0, 7, 10), arc(1, 2, 1), arc(2, 3, 1), arc(3, 7, 1)}},
		{"arcs back to settled nodes", 0, 3, []int{0, 1, 2, 3}, []int{0, 1, 2, 3}, []impl.Arc{arc(0, 1, 1), arc(1, 0, 1), arc(1, 2, 1), arc(2, 0, 1), arc(2, 1, 1), arc(2, 3, 1)}},
		{"a circle without the goal", 0, 5, []int{0, 1, 2}, []int{0, 1, 2}, []impl.Arc{arc(0, 1, 1), arc(1, 2, 1), arc(2, 0, 1)}},
	}
	for _, c := range cases {
		t.Run(c.name, func(t *testing.T) {
			sameSeen(t, netOf(eight, c.arcs...), c.s, c.e, impl.Seen{Order: c.order, Dists: c.dists})
		})
	}
}

func TestSearchOfTheSample(t *testing.T) {
	n := sampleNet()
	sameSeen(t, n, 0, 2, impl.Seen{Order: []int{0, 1, 3, 2}, Dists: []int{0, 10, 15, 20}})
	sameSeen(t, n, 3, 0, impl.Seen{Order: []int{3, 2, 1, 0}, Dists: []int{0, 15, 25, 35}})
	sameBoth(t, n, 0, 2, 20, 0)
	sameBoth(t, n, 3, 2, 15, 2)
	sameBoth(t, n, 3, 1, 25, 1)
}

// The Keys of the ends decrease with every other node that is settled.
func TestKeysThatDecreaseOften(t *testing.T) {
	n := sinkingNet(upTo(20), 1)
	want := impl.Seen{Order: upTo(20), Dists: upTo(20)}
	want.Dists[19] = 18 + 1000 - 3*17
	sameSeen(t, n, 0, 19, want)
	sameBoth(t, n, 0, 19, 967, 0)
	n = sinkingNet(downFrom(20), 2)
	want = impl.Seen{Order: downFrom(20), Dists: upTo(20)}
	want.Dists[18], want.Dists[19] = 17+1000-3*16, 17+1001-3*16
	sameSeen(t, n, 19, 0, want)
	sameBoth(t, n, 19, 0, 970, 0)
	sameBoth(t, n, 19, 1, 969, 1)
}

func TestSearchAtTheLimits(t *testing.T) {
	n := slowNet()
	want := impl.Seen{Order: upTo(20), Dists: upTo(20)}
	for i := range want.Dists {
		want.Dists[i] *= 10000
	}
	sameSeen(t, n, 0, 19, want)
	sameBoth(t, n, 0, 19, 190000, 0)
	sameBoth(t, n, 19, 0, noRoute, 0)
	slices.Reverse(want.Order)
	sameSeen(t, impl.Turned(n), 19, 0, want)
	sameBoth(t, impl.Turned(n), 19, 0, 190000, 0)
	full := fullNet()
	for i := range full.Arcs {
		full.Arcs[i].Len = impl.MaxLen
	}
	table := tableOf(full)
	for s := range full.Nodes {
		for e := range full.Nodes {
			sameSeen(t, full, s, e, seenFrom(table, s, e))
			sameBoth(t, full, s, e, table[s][e], smallestBetween(table, s, e))
		}
	}
}

func TestBothExamples(t *testing.T) {
	eight := spreadPoints(8, 2)
	cases := []struct {
		name             string
		s, e             int
		length, smallest int
		arcs             []impl.Arc
	}{
		{"s is the goal", 3, 3, 0, 3, []impl.Arc{arc(0, 3, 1), arc(3, 0, 1)}},
		{"s is the goal, the first node", 0, 0, 0, 0, []impl.Arc{arc(0, 3, 1), arc(3, 0, 1)}},
		{"s is the goal, without arcs", 7, 7, 0, 7, nil},
		{"s is the smallest", 1, 3, 5, 1, []impl.Arc{arc(1, 3, 5)}},
		{"the goal is the smallest", 3, 1, 5, 1, []impl.Arc{arc(3, 1, 5)}},
		{"neither is the smallest", 3, 5, 5, 2, []impl.Arc{arc(2, 5, 2), arc(3, 2, 3)}},
		{"neither is the smallest, among many", 7, 6, 6, 0, []impl.Arc{arc(0, 5, 1), arc(1, 0, 1), arc(2, 6, 1), arc(4, 1, 1), arc(5, 2, 1), arc(7, 4, 1)}},
		{"the smallest is on another route than the best", 3, 7, 4, 0, []impl.Arc{arc(0, 7, 1), arc(3, 4, 1), arc(3, 5, 2), arc(4, 6, 2), arc(5, 0, 1), arc(6, 7, 1)}},
		{"the smallest is on the best route", 3, 7, 4, 0, []impl.Arc{arc(0, 7, 2), arc(3, 0, 2), arc(3, 4, 1), arc(4, 7, 3)}},
		{"the smallest is on the route of most nodes", 6, 7, 4, 1, []impl.Arc{arc(1, 4, 1), arc(3, 1, 1), arc(4, 7, 1), arc(5, 7, 2), arc(6, 3, 1), arc(6, 5, 2), arc(6, 7, 4)}},
		{"three shortest routes", 4, 7, 4, 2, []impl.Arc{arc(2, 7, 1), arc(3, 7, 2), arc(4, 2, 3), arc(4, 3, 2), arc(4, 5, 1), arc(5, 7, 3)}},
		{"smaller nodes on longer routes", 4, 7, 4, 3, []impl.Arc{arc(0, 7, 3), arc(1, 7, 1), arc(3, 7, 2), arc(4, 0, 2), arc(4, 1, 4), arc(4, 3, 2)}},
		{"a smaller node that is one too far", 4, 7, 4, 3, []impl.Arc{arc(0, 7, 3), arc(3, 7, 2), arc(4, 0, 2), arc(4, 3, 2)}},
		{"a smaller node that does not reach the goal", 4, 7, 4, 3, []impl.Arc{arc(3, 7, 2), arc(4, 0, 1), arc(4, 1, 4), arc(4, 2, 5), arc(4, 3, 2)}},
		{"a smaller node that is not reached from s", 4, 7, 4, 3, []impl.Arc{arc(0, 7, 1), arc(1, 7, 4), arc(2, 7, 5), arc(3, 7, 2), arc(4, 3, 2)}},
		{"a smaller node at the distance of the goal", 4, 7, 4, 4, []impl.Arc{arc(0, 7, 1), arc(4, 0, 4), arc(4, 7, 4)}},
		{"a smaller node at the distance of s", 4, 7, 4, 4, []impl.Arc{arc(0, 7, 4), arc(4, 0, 1), arc(4, 7, 4)}},
		{"one way only", 5, 2, noRoute, 0, []impl.Arc{arc(2, 5, 1)}},
		{"no arcs", 5, 2, noRoute, 0, nil},
		{"both reach a third", 5, 2, noRoute, 0, []impl.Arc{arc(2, 0, 1), arc(5, 0, 1)}},
		{"both are reached from a third", 5, 2, noRoute, 0, []impl.Arc{arc(0, 2, 1), arc(0, 5, 1)}},
		{"a circle at each", 5, 2, noRoute, 0, []impl.Arc{arc(1, 2, 1), arc(2, 1, 1), arc(5, 6, 1), arc(6, 5, 1)}},
	}
	for _, c := range cases {
		t.Run(c.name, func(t *testing.T) {
			sameBoth(t, netOf(eight, c.arcs...), c.s, c.e, c.length, c.smallest)
		})
	}
}

func TestSearchOfNodesThatDoNotExist(t *testing.T) {
	for _, n := range []impl.Net{{}, netOf(spreadPoints(1, 1)), sampleNet(), fullNet(), slowNet(), streetNet()} {
		for _, u := range outsiders(len(n.Nodes)) {
			for _, v := range everyNode(n) {
				for _, ends := range [][]int{{u, v}, {v, u}} {
					if got := impl.Search(n, ends[0], ends[1]); got.Order != nil || got.Dists != nil {
						t.Fatalf("Search from %d to %d is %v", ends[0], ends[1], got)
					}
					sameBoth(t, n, ends[0], ends[1], noRoute, 0)
				}
			}
		}
	}
}

func TestSearchOfInvalidNetworks(t *testing.T) {
	for _, b := range badNets() {
		ends := []int{0, 1, 2, -1, 19, 20}
		for _, a := range b.net.Arcs[:min(5, len(b.net.Arcs))] {
			ends = append(ends, a.From, a.To)
		}
		for _, u := range ends {
			for _, v := range ends {
				if got := impl.Search(b.net, u, v); got.Order != nil || got.Dists != nil {
					t.Fatalf("%s: Search from %d to %d is %v", b.name, u, v, got)
				}
				if d, smallest, ok := impl.Both(b.net, u, v); ok || d != 0 || smallest != 0 {
					t.Fatalf("%s: Both from %d to %d is %d, %d", b.name, u, v, d, smallest)
				}
			}
		}
	}
}

func TestSearchesDoNotModifyOrShare(t *testing.T) {
	for _, plain := range append(allNets(), slowNet(), sinkingNet(downFrom(20), 3)) {
		n, unchanged := roomyNet(plain)
		for u := range n.Nodes {
			v := (u + 1) % len(n.Nodes)
			one, two := impl.Search(n, u, v), impl.Search(plain, u, v)
			if !equalSeen(one, two) {
				t.Fatalf("the spare capacity behind %v counts", plain)
			}
			spoil(one.Order, -5)
			if !slices.Equal(one.Dists, two.Dists) {
				t.Fatalf("Order and Dists of %v share memory", plain)
			}
			spoil(one.Dists, -5)
			if !equalSeen(impl.Search(n, u, v), two) {
				t.Fatalf("the search in %v is not the same in the second call", plain)
			}
			if a, b := fmt.Sprint(impl.Both(n, u, v)), fmt.Sprint(impl.Both(plain, u, v)); a != b {
				t.Fatalf("Both of %v is %s with spare capacity and %s without", plain, a, b)
			}
		}
		if !unchanged() {
			t.Fatalf("%v was changed to %v", plain, n)
		}
	}
}
