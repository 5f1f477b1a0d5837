package dag

import (
	"math"
	"slices"
	"testing"

	"fellwalker/api"
	"fellwalker/bell"
	"fellwalker/comp"
	"fellwalker/net"
)

func netOf(n int, edges ...api.Edge) api.Net { return api.Net{N: n, Edges: edges} }

// chain is a net of n places in which each leads to the next.
func chain(n, cost int) api.Net {
	g := api.Net{N: n}
	for v := range n - 1 {
		g.Edges = append(g.Edges, api.Edge{From: v, To: v + 1, Cost: cost})
	}
	return g
}

// falling leads from each place to the one before.
func falling(n, cost int) api.Net {
	g, _ := net.Turn(chain(n, cost))
	return g
}

// with is g and an edge more.
func with(g api.Net, from, to, cost int) api.Net {
	g.Edges = append(slices.Clone(g.Edges), api.Edge{From: from, To: to, Cost: cost})
	return g
}

// turned has the edges of g in the other order.
func turned(g api.Net) api.Net {
	g.Edges = slices.Clone(g.Edges)
	slices.Reverse(g.Edges)
	return g
}

// rising are n numbers from first on, each by that step.
func rising(n, first, step int) []int {
	l := make([]int, n)
	for i := range l {
		l[i] = first + i*step
	}
	return l
}

// thick are 600 edges between 64 places, each leading by up to 9 places back at that cost.
func thick(cost int) api.Net {
	g := api.Net{N: 64}
	for i := range 600 {
		g.Edges = append(g.Edges, api.Edge{From: 1 + i%63, To: max(0, i%63-i/63), Cost: cost})
	}
	return g
}

// scatter makes a net whose edges hang on seed, with costs from least to most.
func scatter(n, edges, least, most, seed int) api.Net {
	g := api.Net{N: n}
	x := uint32(seed*2654435761 + 12345)
	next := func(below int) int {
		x = x*1664525 + 1013904223
		return int(x>>8) % below
	}
	for range edges {
		g.Edges = append(g.Edges, api.Edge{From: next(n), To: next(n), Cost: least + next(most-least+1)})
	}
	return g
}

// leaning is scatter's net without its edges from a place to itself, the others laid so that they lead on in an order
// of the places that hangs on seed.
func leaning(n, edges, least, most, seed int) api.Net {
	g := api.Net{N: n}
	rank := func(v int) int { return (v*37 + seed*5) % 67 }
	for _, d := range scatter(n, edges, least, most, seed).Edges {
		if rank(d.From) > rank(d.To) {
			d.From, d.To = d.To, d.From
		}
		if d.From != d.To {
			g.Edges = append(g.Edges, d)
		}
	}
	return g
}

// many are nets of all sizes, with few edges and with many, some of them with cycles.
func many() []api.Net {
	var l []api.Net
	for _, n := range []int{1, 2, 3, 4, 5, 8, 20, 64} {
		for _, edges := range []int{0, 1, n / 2, n - 1, n, 3 * n, 600} {
			for seed := range 6 {
				l = append(l,
					scatter(n, edges, -3, 9, seed), leaning(n, edges, 1, 9, seed), leaning(n, edges, -9, 9, seed),
					leaning(n, edges, -9, -1, seed), leaning(n, edges, -api.MaxCost, api.MaxCost, seed))
			}
		}
	}
	return l
}

// wrongNets are nets that net.Check refuses, most of them with a cycle.
func wrongNets() []api.Net {
	good := api.Edge{From: 0, To: 1, Cost: -1}
	self := api.Edge{From: 0, To: 0}
	return []api.Net{
		{}, netOf(-1), netOf(65), netOf(65, self), netOf(math.MaxInt), netOf(math.MinInt), netOf(0, self),
		netOf(65, slices.Repeat([]api.Edge{self}, 601)...), netOf(0, slices.Repeat([]api.Edge{self}, 601)...),
		netOf(2, slices.Repeat([]api.Edge{good}, 601)...), netOf(2, slices.Repeat([]api.Edge{self}, 601)...),
		netOf(2, slices.Repeat([]api.Edge{{From: 2}}, 601)...), netOf(2, append(slices.Repeat([]api.Edge{self}, 599), api.Edge{To: 2})...),
		netOf(2, api.Edge{From: 2, Cost: 1}), netOf(2, good, api.Edge{To: -1, Cost: 1}), netOf(2, self, api.Edge{To: 2}),
		netOf(64, self, api.Edge{From: 64}), netOf(64, self, api.Edge{To: math.MaxInt}), netOf(64, self, api.Edge{From: math.MinInt}),
		netOf(2, api.Edge{Cost: api.MaxCost + 1}), netOf(2, self, api.Edge{Cost: -api.MaxCost - 1}),
		netOf(2, api.Edge{To: 1, Cost: math.MinInt}), netOf(2, api.Edge{To: 1, Cost: math.MaxInt}),
		netOf(2, api.Edge{Cost: api.MaxCost + 1}, api.Edge{From: 2}), netOf(2, api.Edge{From: 2}, api.Edge{Cost: api.MaxCost + 1}),
		netOf(2, api.Edge{To: 2, Cost: api.MaxCost + 1}), netOf(3, api.Edge{From: 0, To: 1}, api.Edge{From: 1, To: 0}, api.Edge{From: 2, To: 3}),
	}
}

func TestTheNetsErrorIsToldFirst(t *testing.T) {
	for i, g := range wrongNets() {
		want := net.Check(g)
		if want == api.OK {
			t.Error(i, "is not wrong")
		}
		if l, e := Order(g); l != nil || e != want {
			t.Error("Order", i, l, e)
		}
		if l, e := Long(g); l != nil || e != want {
			t.Error("Long", i, l, e)
		}
	}
}

func TestACycleIsRefused(t *testing.T) {
	there, back := api.Edge{From: 0, To: 1, Cost: 2}, api.Edge{From: 1, To: 0, Cost: 3}
	for _, x := range []struct {
		name string
		g    api.Net
	}{
		{"an edge to itself", netOf(1, api.Edge{})},
		{"an edge to itself below 0", netOf(1, api.Edge{Cost: -1})},
		{"an edge to itself above 0", netOf(1, api.Edge{Cost: 1})},
		{"the last of 64 to itself", netOf(64, api.Edge{From: 63, To: 63})},
		{"the first of a chain to itself", with(chain(64, 1), 0, 0, 1)},
		{"the last of a chain to itself", with(chain(64, 1), 63, 63, 1)},
		{"one of the middle to itself", with(chain(64, 1), 30, 30, 1)},
		{"there and back", netOf(2, there, back)},
		{"there and back below 0", netOf(2, there, api.Edge{From: 1, To: 0, Cost: -3})},
		{"there and back for 0", netOf(2, there, api.Edge{From: 1, To: 0, Cost: -2})},
		{"there twice and back", netOf(2, there, back, there)},
		{"that no walk leads to", netOf(4, api.Edge{From: 2, To: 3}, api.Edge{From: 3, To: 2}, api.Edge{From: 3, To: 1}, api.Edge{From: 1, To: 0})},
		{"that leads nowhere", netOf(4, api.Edge{From: 0, To: 1}, api.Edge{From: 1, To: 2}, api.Edge{From: 2, To: 3}, api.Edge{From: 3, To: 2})},
		{"beside all else", netOf(5, there, api.Edge{From: 3, To: 4}, api.Edge{From: 4, To: 3})},
		{"between others", netOf(4, there, api.Edge{From: 1, To: 2}, api.Edge{From: 2, To: 1}, api.Edge{From: 2, To: 3})},
		{"all of 64", with(chain(64, 1), 63, 0, 1)},
		{"all of 64, the other way", with(falling(64, -1), 0, 63, 1)},
		{"the last two of 64", with(chain(64, 1), 63, 62, 1)},
		{"one edge of 600 back", with(netOf(64, thick(1).Edges[:599]...), 0, 63, 1)},
		{"one edge of 600 to itself", with(netOf(64, thick(1).Edges[:599]...), 40, 40, 1)},
		{"two round trips", netOf(4, there, back, api.Edge{From: 2, To: 3}, api.Edge{From: 3, To: 2})},
	} {
		for _, g := range []api.Net{x.g, turned(x.g)} {
			if l, e := Order(g); l != nil || e != api.ErrCycle {
				t.Error("Order", x.name, l, e)
			}
			if l, e := Long(g); l != nil || e != api.ErrCycle {
				t.Error("Long", x.name, l, e)
			}
		}
	}
}

// answers are nets, and what Order and Long must answer of each.
var answers = []struct {
	name  string
	g     api.Net
	order []int
	long  []int
}{
	{"one place", netOf(1), []int{0}, []int{0}},
	{"no edge", netOf(4), []int{0, 1, 2, 3}, []int{0, 0, 0, 0}},
	{"2, 3, 1, 0", netOf(4, api.Edge{From: 3, To: 1, Cost: 2}, api.Edge{From: 1, To: 0, Cost: 5}, api.Edge{From: 3, To: 0, Cost: 6}, api.Edge{From: 2, To: 0, Cost: -1}), []int{2, 3, 1, 0}, []int{7, 2, 0, 0}},
	{"one edge on", netOf(2, api.Edge{From: 0, To: 1, Cost: 5}), []int{0, 1}, []int{0, 5}},
	{"one edge back", netOf(2, api.Edge{From: 1, To: 0, Cost: 5}), []int{1, 0}, []int{5, 0}},
	{"one edge for 0", netOf(2, api.Edge{From: 1, To: 0}), []int{1, 0}, []int{0, 0}},
	{"one edge below 0", netOf(2, api.Edge{From: 1, To: 0, Cost: -api.MaxCost}), []int{1, 0}, []int{0, 0}},
	{"several edges, the greatest in the middle", netOf(2, api.Edge{From: 0, To: 1, Cost: 3}, api.Edge{From: 0, To: 1, Cost: 8}, api.Edge{From: 0, To: 1, Cost: -6}, api.Edge{From: 0, To: 1, Cost: 1}), []int{0, 1}, []int{0, 8}},
	{"several edges, all below 0", netOf(2, api.Edge{From: 0, To: 1, Cost: -3}, api.Edge{From: 0, To: 1, Cost: -1}), []int{0, 1}, []int{0, 0}},
	{"begun behind an edge below 0", netOf(3, api.Edge{From: 0, To: 1, Cost: -4}, api.Edge{From: 1, To: 2, Cost: 3}), []int{0, 1, 2}, []int{0, 0, 3}},
	{"an edge below 0 in the middle is worth it", netOf(4, api.Edge{From: 0, To: 1, Cost: 7}, api.Edge{From: 1, To: 2, Cost: -4}, api.Edge{From: 2, To: 3, Cost: 3}), []int{0, 1, 2, 3}, []int{0, 7, 3, 6}},
	{"an edge below 0 in the middle is not worth it", netOf(4, api.Edge{From: 0, To: 1, Cost: 3}, api.Edge{From: 1, To: 2, Cost: -4}, api.Edge{From: 2, To: 3, Cost: 3}), []int{0, 1, 2, 3}, []int{0, 3, 0, 3}},
	{"an edge below 0 that takes all is as good as none", netOf(4, api.Edge{From: 0, To: 1, Cost: 4}, api.Edge{From: 1, To: 2, Cost: -4}, api.Edge{From: 2, To: 3, Cost: 3}), []int{0, 1, 2, 3}, []int{0, 4, 0, 3}},
	{"ended at an edge below 0", netOf(3, api.Edge{From: 0, To: 1, Cost: 9}, api.Edge{From: 1, To: 2, Cost: -4}), []int{0, 1, 2}, []int{0, 9, 5}},
	{"a long walk costs more than a short one", netOf(4, api.Edge{From: 0, To: 3, Cost: 8}, api.Edge{From: 0, To: 1, Cost: 3}, api.Edge{From: 1, To: 2, Cost: 3}, api.Edge{From: 2, To: 3, Cost: 3}), []int{0, 1, 2, 3}, []int{0, 3, 6, 9}},
	{"a short walk costs more than a long one", netOf(4, api.Edge{From: 0, To: 3, Cost: 10}, api.Edge{From: 0, To: 1, Cost: 3}, api.Edge{From: 1, To: 2, Cost: 3}, api.Edge{From: 2, To: 3, Cost: 3}), []int{0, 1, 2, 3}, []int{0, 3, 6, 10}},
	{"two walks to one place", netOf(3, api.Edge{From: 2, To: 0, Cost: 4}, api.Edge{From: 1, To: 0, Cost: 6}), []int{1, 2, 0}, []int{6, 0, 0}},
	{"back to front the long walk still counts", netOf(4, api.Edge{From: 1, To: 0, Cost: 3}, api.Edge{From: 2, To: 1, Cost: 3}, api.Edge{From: 3, To: 2, Cost: 3}, api.Edge{From: 3, To: 0, Cost: 8}), []int{3, 2, 1, 0}, []int{9, 6, 3, 0}},
	{"what becomes free comes ahead of what was free", netOf(4, api.Edge{From: 2, To: 0, Cost: 1}, api.Edge{From: 0, To: 1, Cost: 1}), []int{2, 0, 1, 3}, []int{1, 2, 0, 0}},
	{"what becomes free comes behind what was free", netOf(5, api.Edge{From: 0, To: 4, Cost: 1}, api.Edge{From: 0, To: 3, Cost: 2}), []int{0, 1, 2, 3, 4}, []int{0, 0, 0, 2, 1}},
	{"what becomes free comes between", netOf(5, api.Edge{From: 1, To: 3, Cost: 1}, api.Edge{From: 4, To: 0, Cost: 1}), []int{1, 2, 3, 4, 0}, []int{1, 0, 0, 1, 0}},
	{"held by the last edge of several", netOf(4, api.Edge{From: 1, To: 0, Cost: 1}, api.Edge{From: 2, To: 0, Cost: 3}, api.Edge{From: 3, To: 0, Cost: 2}, api.Edge{From: 3, To: 0, Cost: 1}), []int{1, 2, 3, 0}, []int{3, 0, 0, 0}},
	{"the least and the greatest cost", netOf(4, api.Edge{From: 3, To: 2, Cost: api.MaxCost}, api.Edge{From: 2, To: 1, Cost: api.MaxCost}, api.Edge{From: 1, To: 0, Cost: -api.MaxCost}), []int{3, 2, 1, 0}, []int{10000, 20000, 10000, 0}},
	{"nets of 64: no edge", netOf(64), rising(64, 0, 1), make([]int, 64)},
	{"a chain on", chain(64, api.MaxCost), rising(64, 0, 1), rising(64, 0, api.MaxCost)},
	{"a chain back", falling(64, api.MaxCost), rising(64, 63, -1), rising(64, 63*api.MaxCost, -api.MaxCost)},
	{"a chain on, below 0", chain(64, -api.MaxCost), rising(64, 0, 1), make([]int, 64)},
	{"a chain back, below 0", falling(64, -1), rising(64, 63, -1), make([]int, 64)},
	{"600 edges back", thick(7), rising(64, 63, -1), rising(64, 63*7, -7)},
	{"600 edges back, below 0", thick(-7), rising(64, 63, -1), make([]int, 64)},
	{"600 edges between two", netOf(64, slices.Repeat([]api.Edge{{From: 63, To: 0, Cost: 5}}, 600)...), append(rising(63, 1, 1), 0), append([]int{5}, make([]int, 63)...)},
}

func TestAnswers(t *testing.T) {
	for _, x := range answers {
		for _, g := range []api.Net{x.g, turned(x.g)} {
			if l, e := Order(g); !slices.Equal(l, x.order) || e != api.OK {
				t.Error("Order", x.name, l, e)
			}
			if l, e := Long(g); !slices.Equal(l, x.long) || e != api.OK {
				t.Error("Long", x.name, l, e)
			}
		}
	}
}

// ordered works out what Order does place by place: each time it looks through all edges anew.
func ordered(g api.Net) ([]int, api.Errno) {
	var order []int
	come := func(v int) bool { return slices.Contains(order, v) }
	held := func(v int) bool {
		return slices.ContainsFunc(g.Edges, func(d api.Edge) bool { return d.To == v && !come(d.From) })
	}
	for next := 0; next < g.N; next++ {
		if !come(next) && !held(next) {
			order = append(order, next)
			next = -1
		}
	}
	if len(order) < g.N {
		return nil, api.ErrCycle
	}
	return order, api.OK
}

// lasting works out what Long does from each place's end back.
func lasting(g api.Net, v int, known map[int]int) int {
	if most, ok := known[v]; ok {
		return most
	}
	most := 0
	for _, d := range g.Edges {
		if d.To == v {
			most = max(most, lasting(g, d.From, known)+d.Cost)
		}
	}
	known[v] = most
	return most
}

func TestManyNets(t *testing.T) {
	good, bad := 0, 0
	for i, g := range many() {
		want, wrong := ordered(g)
		order, e := Order(g)
		if !slices.Equal(order, want) || e != wrong {
			t.Fatal("Order", i, order, want, e)
		}
		long, e := Long(g)
		if e != wrong || len(long) != len(want) {
			t.Fatal("Long", i, long, e)
		}
		known := map[int]int{}
		for v, most := range long {
			if most != lasting(g, v, known) {
				t.Fatal("Long", i, v, most, lasting(g, v, known))
			}
		}
		if e == api.OK {
			good++
		} else {
			bad++
		}
	}
	if good < 100 || bad < 100 {
		t.Error("the nets are too much the same:", good, bad)
	}
}

func TestEachEdgeLeadsToOneBehind(t *testing.T) {
	for i, g := range many() {
		order, e := Order(g)
		if e != api.OK {
			continue
		}
		where := slices.Repeat([]int{-1}, g.N)
		for at, v := range order {
			where[v] = at
		}
		if len(order) != g.N || slices.Contains(where, -1) {
			t.Fatal(i, order)
		}
		for _, d := range g.Edges {
			if where[d.From] >= where[d.To] {
				t.Fatal(i, d, order)
			}
		}
	}
}

func TestTheMostIsTheLeastWithCostsTurned(t *testing.T) {
	for i, g := range many() {
		long, e := Long(g)
		if e != api.OK {
			continue
		}
		below := api.Net{N: g.N}
		for _, d := range g.Edges {
			below.Edges = append(below.Edges, api.Edge{From: d.From, To: d.To, Cost: -d.Cost})
		}
		ends, e := bell.Ends(below)
		if len(ends) != len(long) || e != api.OK {
			t.Fatal(i, ends, e)
		}
		for v := range ends {
			if ends[v] != -long[v] {
				t.Fatal(i, v, ends, long)
			}
		}
	}
}

func TestWithoutCyclesItIsTheOrderOfKnots(t *testing.T) {
	for i, g := range many() {
		order, e := Order(g)
		knots, _ := comp.Order(g)
		if e == api.OK && !slices.Equal(order, knots) {
			t.Fatal(i, order, knots)
		}
	}
}

func TestTheOrderOfEdgesDoesNotCountNorDoCostsToOrders(t *testing.T) {
	for i, g := range many() {
		order, e1 := Order(g)
		long, e2 := Long(g)
		other := turned(g)
		if l, e := Long(other); !slices.Equal(l, long) || e != e2 {
			t.Fatal("Long", i, l, long, e)
		}
		for _, cost := range []int{-api.MaxCost, 0, api.MaxCost} {
			for j := range other.Edges {
				other.Edges[j].Cost = cost
			}
			if l, e := Order(other); !slices.Equal(l, order) || e != e1 {
				t.Fatal("Order", i, cost, l, order, e)
			}
		}
	}
}

// spoil writes x over l and the room behind it.
func spoil[T any](l []T, x T) {
	l = l[:cap(l)]
	for i := range l {
		l[i] = x
	}
}

func TestWhatIsHandedInStays(t *testing.T) {
	edges := []api.Edge{{From: 3, To: 1, Cost: -2}, {From: 1, To: 2, Cost: 3}, {From: 3, To: 2, Cost: -1}, {From: 2, To: 0, Cost: -1}, {From: 3, To: 3, Cost: -1}, {From: 9, To: 9, Cost: 9}, {From: 0, To: 3, Cost: 1}}
	was := slices.Clone(edges)
	for n := range len(edges) + 1 {
		g := netOf(4, edges[:n]...)
		order, _ := Order(g)
		long, _ := Long(g)
		spoil(order, -77)
		spoil(long, -77)
		if g.N != 4 || !slices.Equal(edges, was) {
			t.Error(n, edges)
		}
	}
}

func TestWhatIsAnsweredStays(t *testing.T) {
	g := netOf(4, api.Edge{From: 3, To: 2, Cost: 4}, api.Edge{From: 2, To: 0, Cost: 5})
	order, _ := Order(g)
	long, _ := Long(g)
	otherOrder, _ := Order(g)
	otherLong, _ := Long(g)
	spoil(otherOrder, -77)
	spoil(otherLong, -77)
	spoil(g.Edges, api.Edge{From: 1, To: 0, Cost: 1})
	if !slices.Equal(order, []int{1, 3, 2, 0}) || !slices.Equal(long, []int{9, 0, 4, 0}) {
		t.Error(order, long)
	}
	again, _ := Long(g)
	if !slices.Equal(again, []int{1, 0, 0, 0}) {
		t.Error(again)
	}
}
