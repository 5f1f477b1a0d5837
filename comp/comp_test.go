package comp

import (
	"math"
	"slices"
	"testing"

	"fellwalker/api"
	"fellwalker/net"
)

func netOf(n int, edges ...api.Edge) api.Net { return api.Net{N: n, Edges: edges} }

// links is a net of n places whose edges lead from each A to its B; their costs differ, as none of them counts.
func links(n int, pairs ...api.Pair) api.Net {
	g := api.Net{N: n}
	for i, p := range pairs {
		g.Edges = append(g.Edges, api.Edge{From: p.A, To: p.B, Cost: i*i*777%20001 - 10000})
	}
	return g
}

// chain is a net of n places in which each leads to the next.
func chain(n, cost int) api.Net {
	g := api.Net{N: n}
	for v := range n - 1 {
		g.Edges = append(g.Edges, api.Edge{From: v, To: v + 1, Cost: cost})
	}
	return g
}

// round is a chain whose last place leads to the first.
func round(n, cost int) api.Net {
	g := chain(n, cost)
	g.Edges = append(g.Edges, api.Edge{From: n - 1, To: 0, Cost: cost})
	return g
}

// turned has the edges of g in the other order.
func turned(g api.Net) api.Net {
	g.Edges = slices.Clone(g.Edges)
	slices.Reverse(g.Edges)
	return g
}

// rising are n numbers from first on, each by that step.
func rising(n, first, step int) []int {
	l := make([]int, n)
	for i := range l {
		l[i] = first + i*step
	}
	return l
}

// scatter makes a net whose edges hang on seed, with costs from least to most.
func scatter(n, edges, least, most, seed int) api.Net {
	g := api.Net{N: n}
	x := uint32(seed*2654435761 + 12345)
	next := func(below int) int {
		x = x*1664525 + 1013904223
		return int(x>>8) % below
	}
	for range edges {
		g.Edges = append(g.Edges, api.Edge{From: next(n), To: next(n), Cost: least + next(most-least+1)})
	}
	return g
}

// leaning is scatter's net with most of its edges laid so that they lead on in an order of the places that hangs on seed.
func leaning(n, edges, seed int) api.Net {
	g := scatter(n, edges, -9, 9, seed)
	rank := func(v int) int { return (v*37 + seed*5) % 67 }
	for i, d := range g.Edges {
		if i%17 != 16 && rank(d.From) > rank(d.To) {
			g.Edges[i].From, g.Edges[i].To = d.To, d.From
		}
	}
	return g
}

// many are nets of all sizes, with few edges and with many, of few knots and of many.
func many() []api.Net {
	var l []api.Net
	for _, n := range []int{1, 2, 3, 4, 5, 8, 20, 64} {
		for _, edges := range []int{0, 1, n / 2, n - 1, n, 3 * n / 2, 3 * n, 600} {
			for seed := range 6 {
				l = append(l, scatter(n, edges, -3, 9, seed), leaning(n, edges, seed))
			}
		}
	}
	return l
}

// wrongNets are nets that net.Check refuses.
func wrongNets() []api.Net {
	good := api.Edge{From: 0, To: 1, Cost: -1}
	self := api.Edge{From: 0, To: 0}
	return []api.Net{
		{}, netOf(-1), netOf(65), netOf(65, self), netOf(math.MaxInt), netOf(math.MinInt), netOf(0, self),
		netOf(65, slices.Repeat([]api.Edge{self}, 601)...), netOf(0, slices.Repeat([]api.Edge{self}, 601)...),
		netOf(2, slices.Repeat([]api.Edge{good}, 601)...), netOf(2, slices.Repeat([]api.Edge{self}, 601)...),
		netOf(2, slices.Repeat([]api.Edge{{From: 2}}, 601)...), netOf(2, append(slices.Repeat([]api.Edge{self}, 599), api.Edge{To: 2})...),
		netOf(2, api.Edge{From: 2, Cost: 1}), netOf(2, good, api.Edge{To: -1, Cost: 1}), netOf(2, self, api.Edge{To: 2}),
		netOf(64, self, api.Edge{From: 64}), netOf(64, self, api.Edge{To: math.MaxInt}), netOf(64, self, api.Edge{From: math.MinInt}),
		netOf(2, api.Edge{Cost: api.MaxCost + 1}), netOf(2, self, api.Edge{Cost: -api.MaxCost - 1}),
		netOf(2, api.Edge{To: 1, Cost: math.MinInt}), netOf(2, api.Edge{To: 1, Cost: math.MaxInt}),
		netOf(2, api.Edge{Cost: api.MaxCost + 1}, api.Edge{From: 2}), netOf(2, api.Edge{From: 2}, api.Edge{Cost: api.MaxCost + 1}),
		netOf(2, api.Edge{To: 2, Cost: api.MaxCost + 1}),
	}
}

func TestTheNetsErrorIsToldFirst(t *testing.T) {
	for i, g := range wrongNets() {
		want := net.Check(g)
		if want == api.OK {
			t.Error(i, "is not wrong")
		}
		if l, e := Of(g); l != nil || e != want {
			t.Error("Of", i, l, e)
		}
		if l, e := Order(g); l != nil || e != want {
			t.Error("Order", i, l, e)
		}
	}
}

// answers are nets, and what Of and Order must answer of each.
var answers = []struct {
	name  string
	g     api.Net
	of    []int
	order []int
}{
	{"one place", netOf(1), []int{0}, []int{0}},
	{"one place, an edge to itself", netOf(1, api.Edge{Cost: -1}), []int{0}, []int{0}},
	{"one place, several edges to itself", links(1, api.Pair{}, api.Pair{}, api.Pair{}), []int{0}, []int{0}},
	{"no edge", netOf(4), []int{0, 1, 2, 3}, []int{0, 1, 2, 3}},
	{"edges to themselves alone", links(3, api.Pair{A: 2, B: 2}, api.Pair{A: 0, B: 0}, api.Pair{A: 1, B: 1}), []int{0, 1, 2}, []int{0, 1, 2}},
	{"one edge on", links(2, api.Pair{A: 0, B: 1}), []int{0, 1}, []int{0, 1}},
	{"one edge back", links(2, api.Pair{A: 1, B: 0}), []int{0, 1}, []int{1, 0}},
	{"several edges back, some to themselves", links(2, api.Pair{A: 1, B: 0}, api.Pair{A: 0, B: 0}, api.Pair{A: 1, B: 0}, api.Pair{A: 1, B: 1}, api.Pair{A: 1, B: 0}), []int{0, 1}, []int{1, 0}},
	{"both ways", links(2, api.Pair{A: 1, B: 0}, api.Pair{A: 0, B: 1}), []int{0, 0}, []int{0}},
	{"several both ways", links(2, api.Pair{A: 1, B: 0}, api.Pair{A: 0, B: 1}, api.Pair{A: 1, B: 0}, api.Pair{A: 0, B: 1}), []int{0, 0}, []int{0}},
	{"5 to 1 to 4 to 5", links(6, api.Pair{A: 5, B: 1}, api.Pair{A: 1, B: 4}, api.Pair{A: 4, B: 5}), []int{0, 1, 2, 3, 1, 1}, []int{0, 1, 2, 3}},
	{"a place that leads to two that do not lead to each other", links(3, api.Pair{A: 2, B: 0}, api.Pair{A: 2, B: 1}), []int{0, 1, 2}, []int{2, 0, 1}},
	{"two that lead to a third", links(3, api.Pair{A: 2, B: 0}, api.Pair{A: 1, B: 0}), []int{0, 1, 2}, []int{1, 2, 0}},
	{"two round trips that meet at a place", links(5, api.Pair{A: 4, B: 3}, api.Pair{A: 3, B: 4}, api.Pair{A: 3, B: 1}, api.Pair{A: 1, B: 2}, api.Pair{A: 2, B: 3}), []int{0, 1, 1, 1, 1}, []int{0, 1}},
	{"the least place is come to last", links(4, api.Pair{A: 3, B: 2}, api.Pair{A: 2, B: 1}, api.Pair{A: 1, B: 0}, api.Pair{A: 0, B: 3}), []int{0, 0, 0, 0}, []int{0}},
	{"the least place is come to last, from behind", links(6, api.Pair{A: 5, B: 4}, api.Pair{A: 4, B: 3}, api.Pair{A: 3, B: 2}, api.Pair{A: 2, B: 1}, api.Pair{A: 1, B: 4}, api.Pair{A: 1, B: 0}), []int{0, 1, 1, 1, 1, 5}, []int{5, 1, 0}},
	{"knots in a row, back to front", links(6, api.Pair{A: 4, B: 5}, api.Pair{A: 5, B: 4}, api.Pair{A: 4, B: 3}, api.Pair{A: 3, B: 2}, api.Pair{A: 2, B: 3}, api.Pair{A: 2, B: 0}, api.Pair{A: 0, B: 1}, api.Pair{A: 1, B: 0}), []int{0, 0, 2, 2, 4, 4}, []int{4, 2, 0}},
	{"several edges between two knots, from several places", links(4, api.Pair{A: 3, B: 0}, api.Pair{A: 2, B: 1}, api.Pair{A: 3, B: 1}, api.Pair{A: 2, B: 3}, api.Pair{A: 3, B: 2}, api.Pair{A: 0, B: 1}, api.Pair{A: 1, B: 0}, api.Pair{A: 3, B: 0}), []int{0, 0, 2, 2}, []int{2, 0}},
	{"knots within a round trip of knots", links(6, api.Pair{A: 0, B: 1}, api.Pair{A: 1, B: 0}, api.Pair{A: 2, B: 3}, api.Pair{A: 3, B: 2}, api.Pair{A: 4, B: 5}, api.Pair{A: 5, B: 4}, api.Pair{A: 1, B: 2}, api.Pair{A: 3, B: 4}, api.Pair{A: 5, B: 0}), []int{0, 0, 0, 0, 0, 0}, []int{0}},
	{"the same without the last edge round", links(6, api.Pair{A: 0, B: 1}, api.Pair{A: 1, B: 0}, api.Pair{A: 2, B: 3}, api.Pair{A: 3, B: 2}, api.Pair{A: 4, B: 5}, api.Pair{A: 5, B: 4}, api.Pair{A: 1, B: 2}, api.Pair{A: 3, B: 4}, api.Pair{A: 0, B: 5}), []int{0, 0, 2, 2, 4, 4}, []int{0, 2, 4}},
	{"what becomes free comes ahead of what was free", links(4, api.Pair{A: 2, B: 0}, api.Pair{A: 0, B: 1}), []int{0, 1, 2, 3}, []int{2, 0, 1, 3}},
	{"what becomes free comes behind what was free", links(5, api.Pair{A: 0, B: 4}, api.Pair{A: 0, B: 3}), []int{0, 1, 2, 3, 4}, []int{0, 1, 2, 3, 4}},
	{"what becomes free comes between", links(5, api.Pair{A: 1, B: 3}, api.Pair{A: 4, B: 0}), []int{0, 1, 2, 3, 4}, []int{1, 2, 3, 4, 0}},
	{"a knot is told by its least place, though a greater one is free in it", links(4, api.Pair{A: 3, B: 1}, api.Pair{A: 1, B: 3}, api.Pair{A: 3, B: 0}), []int{0, 1, 2, 1}, []int{1, 0, 2}},
	{"held by the last edge of several", links(4, api.Pair{A: 1, B: 0}, api.Pair{A: 2, B: 0}, api.Pair{A: 3, B: 0}, api.Pair{A: 3, B: 0}), []int{0, 1, 2, 3}, []int{1, 2, 3, 0}},
	{"a knot that no walk leads to, and one that leads nowhere", links(6, api.Pair{A: 4, B: 5}, api.Pair{A: 5, B: 4}, api.Pair{A: 5, B: 0}, api.Pair{A: 0, B: 1}, api.Pair{A: 1, B: 2}, api.Pair{A: 2, B: 1}), []int{0, 1, 1, 3, 4, 4}, []int{3, 4, 0, 1}},
}

func TestAnswers(t *testing.T) {
	for _, x := range answers {
		for _, g := range []api.Net{x.g, turned(x.g)} {
			if l, e := Of(g); !slices.Equal(l, x.of) || e != api.OK {
				t.Error("Of", x.name, l, e)
			}
			if l, e := Order(g); !slices.Equal(l, x.order) || e != api.OK {
				t.Error("Order", x.name, l, e)
			}
		}
	}
}

// falling leads from each place to the one before.
func falling(n int) api.Net {
	g, _ := net.Turn(chain(n, 1))
	return g
}

// pairs is a chain of 64 places that come as knots of two, each pair leading to the one before.
func pairs() api.Net {
	g := falling(64)
	for v := 0; v < 64; v += 2 {
		g.Edges = append(g.Edges, api.Edge{From: v, To: v + 1})
	}
	return g
}

// thick are 600 edges between 64 places, each leading by up to 9 places back.
func thick() api.Net {
	g := api.Net{N: 64}
	for i := range 600 {
		g.Edges = append(g.Edges, api.Edge{From: 1 + i%63, To: max(0, i%63-i/63), Cost: -1})
	}
	return g
}

func TestNetsOf64(t *testing.T) {
	loop := thick()
	loop.Edges[599] = api.Edge{From: 0, To: 63}
	twos := make([]int, 64)
	for v := range twos {
		twos[v] = v / 2 * 2
	}
	for _, x := range []struct {
		name      string
		g         api.Net
		of, order []int
	}{
		{"no edge", netOf(64), rising(64, 0, 1), rising(64, 0, 1)},
		{"a chain on", chain(64, 0), rising(64, 0, 1), rising(64, 0, 1)},
		{"a chain back", falling(64), rising(64, 0, 1), rising(64, 63, -1)},
		{"round", round(64, -1), make([]int, 64), []int{0}},
		{"a chain of pairs back", pairs(), twos, rising(32, 62, -2)},
		{"600 edges back", thick(), rising(64, 0, 1), rising(64, 63, -1)},
		{"599 edges back, one on", loop, make([]int, 64), []int{0}},
		{"600 edges to themselves", netOf(64, slices.Repeat([]api.Edge{{From: 63, To: 63}}, 600)...), rising(64, 0, 1), rising(64, 0, 1)},
		{"600 edges between two", netOf(64, slices.Repeat([]api.Edge{{From: 63, To: 0}}, 600)...), rising(64, 0, 1), append(rising(63, 1, 1), 0)},
	} {
		for _, g := range []api.Net{x.g, turned(x.g)} {
			if l, e := Of(g); !slices.Equal(l, x.of) || e != api.OK {
				t.Error("Of", x.name, l, e)
			}
			if l, e := Order(g); !slices.Equal(l, x.order) || e != api.OK {
				t.Error("Order", x.name, l, e)
			}
		}
	}
}

// leadsTo works out edge by edge whether a walk leads from one place to the other.
func leadsTo(g api.Net, from, to int) bool {
	seen := make([]bool, g.N)
	seen[from] = true
	for more := true; more; {
		more = false
		for _, d := range g.Edges {
			if seen[d.From] && !seen[d.To] {
				seen[d.To], more = true, true
			}
		}
	}
	return seen[to]
}

// knotted works out what Of does pair by pair.
func knotted(g api.Net) []int {
	knots := make([]int, g.N)
	for v := range knots {
		for !leadsTo(g, v, knots[v]) || !leadsTo(g, knots[v], v) {
			knots[v]++
		}
	}
	return knots
}

// ordered works out what Order does knot by knot: each time it looks through all edges anew.
func ordered(g api.Net, knots []int) []int {
	var order []int
	come := func(knot int) bool { return slices.Contains(order, knot) }
	held := func(knot int) bool {
		return slices.ContainsFunc(g.Edges, func(d api.Edge) bool {
			return knots[d.To] == knot && knots[d.From] != knot && !come(knots[d.From])
		})
	}
	for next := 0; next < g.N; next++ {
		if knots[next] == next && !come(next) && !held(next) {
			order = append(order, next)
			next = -1
		}
	}
	return order
}

func TestManyNets(t *testing.T) {
	sizes := map[int]int{}
	for i, g := range many() {
		want := knotted(g)
		of, e := Of(g)
		if !slices.Equal(of, want) || e != api.OK {
			t.Fatal("Of", i, of, want, e)
		}
		order, e := Order(g)
		if !slices.Equal(order, ordered(g, want)) || e != api.OK {
			t.Fatal("Order", i, order, ordered(g, want), e)
		}
		sizes[len(order)]++
	}
	if len(sizes) < 20 {
		t.Error("the nets are too much the same:", sizes)
	}
}

func TestNoEdgeLeadsToAKnotAhead(t *testing.T) {
	for i, g := range many() {
		of, _ := Of(g)
		order, _ := Order(g)
		where := map[int]int{}
		for at, knot := range order {
			if of[knot] != knot {
				t.Fatal(i, knot, of)
			}
			where[knot] = at
		}
		if len(where) != len(order) {
			t.Fatal(i, order)
		}
		for _, knot := range of {
			if _, ok := where[knot]; !ok {
				t.Fatal(i, knot, order)
			}
		}
		for _, d := range g.Edges {
			if where[of[d.From]] > where[of[d.To]] {
				t.Fatal(i, d, order)
			}
		}
	}
}

func TestTurnedItIsTheSameKnots(t *testing.T) {
	for i, g := range many() {
		back, _ := net.Turn(g)
		a, _ := Of(g)
		b, _ := Of(back)
		if !slices.Equal(a, b) {
			t.Fatal(i, a, b)
		}
	}
}

func TestCostsAndTheOrderOfEdgesDoNotCount(t *testing.T) {
	for i, g := range many() {
		of, _ := Of(g)
		order, _ := Order(g)
		for _, cost := range []int{-api.MaxCost, -1, 0, 1, api.MaxCost} {
			other := turned(g)
			for j := range other.Edges {
				other.Edges[j].Cost = cost
			}
			if l, e := Of(other); !slices.Equal(l, of) || e != api.OK {
				t.Fatal("Of", i, cost, l, of, e)
			}
			if l, e := Order(other); !slices.Equal(l, order) || e != api.OK {
				t.Fatal("Order", i, cost, l, order, e)
			}
		}
	}
}

// spoil writes x over l and the room behind it.
func spoil[T any](l []T, x T) {
	l = l[:cap(l)]
	for i := range l {
		l[i] = x
	}
}

func TestWhatIsHandedInStays(t *testing.T) {
	edges := []api.Edge{{From: 3, To: 1, Cost: -2}, {From: 1, To: 2, Cost: 3}, {From: 2, To: 1, Cost: -1}, {From: 2, To: 0, Cost: -1}, {From: 3, To: 3, Cost: -1}, {From: 9, To: 9, Cost: 9}, {From: 0, To: 3, Cost: 1}}
	was := slices.Clone(edges)
	for n := range len(edges) + 1 {
		g := netOf(4, edges[:n]...)
		of, _ := Of(g)
		order, _ := Order(g)
		spoil(of, -77)
		spoil(order, -77)
		if g.N != 4 || !slices.Equal(edges, was) {
			t.Error(n, edges)
		}
	}
}

func TestWhatIsAnsweredStays(t *testing.T) {
	g := links(4, api.Pair{A: 3, B: 2}, api.Pair{A: 2, B: 3}, api.Pair{A: 2, B: 0})
	of, _ := Of(g)
	order, _ := Order(g)
	otherOf, _ := Of(g)
	otherOrder, _ := Order(g)
	spoil(otherOf, -77)
	spoil(otherOrder, -77)
	spoil(g.Edges, api.Edge{From: 1, To: 0, Cost: 1})
	if !slices.Equal(of, []int{0, 1, 2, 2}) || !slices.Equal(order, []int{1, 2, 0}) {
		t.Error(of, order)
	}
	again, _ := Order(g)
	if !slices.Equal(again, []int{1, 0, 2, 3}) {
		t.Error(again)
	}
}
