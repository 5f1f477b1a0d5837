package span

import (
	"cmp"
	"math"
	"slices"
	"testing"

	"fellwalker/api"
	"fellwalker/floyd"
	"fellwalker/net"
	"fellwalker/union"
)

func netOf(n int, edges ...api.Edge) api.Net { return api.Net{N: n, Edges: edges} }

// chain is a net of n places in which each leads to the next.
func chain(n, cost int) api.Net {
	g := api.Net{N: n}
	for v := range n - 1 {
		g.Edges = append(g.Edges, api.Edge{From: v, To: v + 1, Cost: cost})
	}
	return g
}

// turned has each edge of g the other way.
func turned(g api.Net) api.Net {
	t, _ := net.Turn(g)
	return t
}

// mixed has every other edge of g the other way.
func mixed(g api.Net) api.Net {
	m := netOf(g.N, slices.Clone(g.Edges)...)
	for i := 0; i < len(m.Edges); i += 2 {
		m.Edges[i].From, m.Edges[i].To = m.Edges[i].To, m.Edges[i].From
	}
	return m
}

// rising are n numbers from first on, each by that step.
func rising(n, first, step int) []int {
	l := make([]int, n)
	for i := range l {
		l[i] = first + i*step
	}
	return l
}

// scatter makes a net whose edges hang on seed, with costs from least to most.
func scatter(n, edges, least, most, seed int) api.Net {
	g := api.Net{N: n}
	x := uint32(seed*2654435761 + 12345)
	next := func(below int) int {
		x = x*1664525 + 1013904223
		return int(x>>8) % below
	}
	for range edges {
		g.Edges = append(g.Edges, api.Edge{From: next(n), To: next(n), Cost: least + next(most-least+1)})
	}
	return g
}

// many are nets of all sizes, with few edges and with many, of costs that are often the same and that seldom are.
func many() []api.Net {
	var l []api.Net
	for _, n := range []int{1, 2, 3, 4, 5, 8, 20, 64} {
		for _, edges := range []int{0, 1, n / 2, n - 1, n, 3 * n / 2, 3 * n, 600} {
			for seed := range 4 {
				l = append(l,
					scatter(n, edges, 7, 7, seed), scatter(n, edges, -2, 2, seed), scatter(n, edges, 1, 9, seed),
					scatter(n, edges, -api.MaxCost, api.MaxCost, seed))
			}
		}
	}
	return l
}

// wrongNets are nets that net.Check refuses.
func wrongNets() []api.Net {
	good := api.Edge{From: 0, To: 1, Cost: -1}
	self := api.Edge{From: 0, To: 0}
	return []api.Net{
		{}, netOf(-1), netOf(65), netOf(65, self), netOf(math.MaxInt), netOf(math.MinInt), netOf(0, self),
		netOf(65, slices.Repeat([]api.Edge{self}, 601)...), netOf(0, slices.Repeat([]api.Edge{self}, 601)...),
		netOf(2, slices.Repeat([]api.Edge{good}, 601)...), netOf(2, slices.Repeat([]api.Edge{self}, 601)...),
		netOf(2, slices.Repeat([]api.Edge{{From: 2}}, 601)...), netOf(2, append(slices.Repeat([]api.Edge{self}, 599), api.Edge{To: 2})...),
		netOf(2, api.Edge{From: 2, Cost: 1}), netOf(2, good, api.Edge{To: -1, Cost: 1}), netOf(2, good, api.Edge{To: 2}),
		netOf(64, self, api.Edge{From: 64}), netOf(64, self, api.Edge{To: math.MaxInt}), netOf(64, self, api.Edge{From: math.MinInt}),
		netOf(2, good, api.Edge{Cost: api.MaxCost + 1}), netOf(2, good, api.Edge{Cost: -api.MaxCost - 1}),
		netOf(2, api.Edge{To: 1, Cost: math.MinInt}), netOf(2, api.Edge{To: 1, Cost: math.MaxInt}),
		netOf(2, api.Edge{Cost: api.MaxCost + 1}, api.Edge{From: 2}), netOf(2, api.Edge{From: 2}, api.Edge{Cost: api.MaxCost + 1}),
		netOf(2, api.Edge{To: 2, Cost: api.MaxCost + 1}),
	}
}

func TestTheNetsErrorIsToldFirst(t *testing.T) {
	for i, g := range wrongNets() {
		want := net.Check(g)
		if want == api.OK {
			t.Error(i, "is not wrong")
		}
		if l, e := Tree(g); l != nil || e != want {
			t.Error("Tree", i, l, e)
		}
		for _, a := range []int{-1, 0, 1, 2, 64, math.MaxInt} {
			for _, b := range []int{math.MinInt, 0, 1, 64, a} {
				if w, e := Neck(g, a, b); w != 0 || e != want {
					t.Error("Neck", i, a, b, w, e)
				}
			}
		}
	}
}

func TestNeckRefusesPlaces(t *testing.T) {
	for _, g := range []api.Net{netOf(1), netOf(1, api.Edge{Cost: 3}), netOf(2), chain(2, 5), chain(5, -1), netOf(64), chain(64, 1)} {
		for _, v := range []int{-1, g.N, g.N + 1, math.MinInt, math.MaxInt} {
			for _, other := range []int{0, g.N - 1, v, -1, g.N} {
				if w, e := Neck(g, v, other); w != 0 || e != api.ErrArg {
					t.Error("a", g.N, v, other, w, e)
				}
				if w, e := Neck(g, other, v); w != 0 || e != api.ErrArg {
					t.Error("b", g.N, other, v, w, e)
				}
			}
		}
		for v := range g.N {
			if w, e := Neck(g, v, v); w != 0 || e != api.ErrArg {
				t.Error("both the same", g.N, v, w, e)
			}
		}
	}
}

// edge leads from a to b.
func edge(a, b, cost int) api.Edge { return api.Edge{From: a, To: b, Cost: cost} }

func TestTree(t *testing.T) {
	for _, x := range []struct {
		name string
		g    api.Net
		want []int
	}{
		{"one place", netOf(1), nil},
		{"one place, edges to itself", netOf(1, edge(0, 0, 5), edge(0, 0, -5), edge(0, 0, 0)), nil},
		{"no edge", netOf(4), nil},
		{"edges to themselves alone", netOf(3, edge(2, 2, 1), edge(0, 0, -1), edge(1, 1, 0)), nil},
		{"one edge on", netOf(2, edge(0, 1, 4)), []int{0}},
		{"one edge back", netOf(2, edge(1, 0, 4)), []int{0}},
		{"of three places two edges are enough", netOf(3, edge(0, 1, 1), edge(1, 2, 2), edge(2, 0, 3)), []int{0, 1}},
		{"the dearest stands first", netOf(3, edge(0, 1, 3), edge(1, 2, 2), edge(2, 0, 1)), []int{2, 1}},
		{"the dearest stands between", netOf(3, edge(0, 1, 2), edge(1, 2, 3), edge(0, 2, 1)), []int{2, 0}},
		{"in the order in which they are taken", netOf(4, edge(0, 1, 9), edge(1, 2, 3), edge(2, 3, 6)), []int{1, 2, 0}},
		{"of the same cost the lesser number", netOf(3, edge(2, 1, 5), edge(0, 1, 5), edge(0, 2, 5)), []int{0, 1}},
		{"of the same cost the lesser number, some that cost less behind", netOf(4, edge(3, 2, 5), edge(0, 1, 5), edge(0, 3, 4), edge(2, 1, 5), edge(1, 2, 4)), []int{2, 4, 0}},
		{"both ways, the same cost", netOf(2, edge(1, 0, 2), edge(0, 1, 2)), []int{0}},
		{"both ways, the second costs less", netOf(2, edge(1, 0, 2), edge(0, 1, 1)), []int{1}},
		{"several between two, the least", netOf(2, edge(0, 1, 3), edge(0, 1, 2), edge(1, 0, 2), edge(0, 1, 8)), []int{1}},
		{"costs of 0 and below", netOf(4, edge(0, 1, 0), edge(1, 2, -7), edge(2, 0, -3), edge(3, 2, 1), edge(3, 0, 0)), []int{1, 2, 4}},
		{"an edge to itself costs least", netOf(3, edge(1, 1, -10000), edge(0, 1, 10000), edge(2, 1, 9999), edge(2, 2, 0)), []int{2, 1}},
		{"it falls apart in two", netOf(5, edge(3, 4, 2), edge(1, 2, 1), edge(4, 3, 1), edge(2, 0, 5), edge(0, 1, 6)), []int{1, 2, 3}},
		{"a place is left alone", netOf(4, edge(0, 3, 7), edge(3, 2, 7), edge(2, 0, 7)), []int{0, 1}},
		{"two halves are joined last", netOf(6, edge(0, 3, 8), edge(0, 1, 1), edge(1, 2, 2), edge(3, 4, 1), edge(4, 5, 2), edge(2, 0, 3), edge(5, 2, 7)), []int{1, 3, 2, 4, 6}},
		{"as dear as may be, and as cheap", netOf(3, edge(0, 1, 10000), edge(1, 2, -10000)), []int{1, 0}},
	} {
		for way, g := range []api.Net{x.g, turned(x.g), mixed(x.g)} {
			if l, e := Tree(g); !slices.Equal(l, x.want) || e != api.OK {
				t.Error(x.name, way, l, e)
			}
		}
	}
}

// full are 600 edges between 64 places: 537 of them dear, from place to place in turn, then a chain back to front.
func full() api.Net {
	g := api.Net{N: 64}
	for i := range 537 {
		g.Edges = append(g.Edges, edge(i%64, i*7%64, 100))
	}
	for v := range 63 {
		g.Edges = append(g.Edges, edge(v+1, v, 99-v))
	}
	return g
}

func TestTreeOf64(t *testing.T) {
	costly := netOf(64, slices.Repeat([]api.Edge{edge(63, 0, 5)}, 600)...)
	costly.Edges[599].Cost = 4
	for _, x := range []struct {
		name string
		g    api.Net
		want []int
	}{
		{"no edge", netOf(64), nil},
		{"a chain", chain(64, 3), rising(63, 0, 1)},
		{"600 edges, the chain costs less from its end on", full(), rising(63, 599, -1)},
		{"600 edges to themselves", netOf(64, slices.Repeat([]api.Edge{edge(63, 63, -1)}, 600)...), nil},
		{"600 edges between two, the last costs least", costly, []int{599}},
		{"600 edges between two, all the same", netOf(64, slices.Repeat([]api.Edge{edge(63, 0, 5)}, 600)...), []int{0}},
	} {
		for way, g := range []api.Net{x.g, turned(x.g), mixed(x.g)} {
			if l, e := Tree(g); !slices.Equal(l, x.want) || e != api.OK {
				t.Error(x.name, way, l, e)
			}
		}
	}
}

func TestNeck(t *testing.T) {
	// 0 and 3 are joined straight for 9, by 1 for 4 and 6, by 2 for 7 and 2; 4 and 5 are apart from them.
	ring := netOf(6, edge(0, 3, 9), edge(0, 1, 4), edge(3, 1, 6), edge(2, 0, 7), edge(2, 3, 2), edge(5, 4, -3), edge(4, 4, -9))
	for _, x := range []struct {
		name string
		g    api.Net
		a, b int
		want int
		e    api.Errno
	}{
		{"the best way round", ring, 0, 3, 6, api.OK},
		{"straight is dearer than round", ring, 0, 2, 6, api.OK},
		{"straight is best", ring, 0, 1, 4, api.OK},
		{"the cheapest edge is not all", ring, 1, 2, 6, api.OK},
		{"two that the cheapest edge joins", ring, 2, 3, 2, api.OK},
		{"in the other part, below 0", ring, 4, 5, -3, api.OK},
		{"in two parts", ring, 0, 5, 0, api.ErrNone},
		{"in two parts, the lesser behind", ring, 4, 3, 0, api.ErrNone},
		{"no edge", netOf(2), 0, 1, 0, api.ErrNone},
		{"edges to themselves alone", netOf(2, edge(0, 0, 1), edge(1, 1, 1)), 0, 1, 0, api.ErrNone},
		{"of several the least", netOf(2, edge(0, 1, 3), edge(1, 0, 2), edge(0, 1, 5)), 0, 1, 2, api.OK},
		{"just 0", netOf(3, edge(0, 1, 0), edge(2, 1, -4)), 0, 2, 0, api.OK},
		{"below 0 all along", netOf(3, edge(0, 1, -8), edge(2, 1, -4)), 0, 2, -4, api.OK},
		{"as dear as may be", netOf(3, edge(0, 1, 10000), edge(1, 2, -10000)), 0, 2, 10000, api.OK},
		{"as cheap as may be", netOf(3, edge(0, 1, -10000), edge(1, 2, 10000)), 0, 1, -10000, api.OK},
		{"edges that lead away from both", netOf(3, edge(1, 0, 3), edge(1, 2, 5)), 0, 2, 5, api.OK},
		{"edges that lead to both's middle", netOf(3, edge(0, 1, 3), edge(2, 1, 5)), 0, 2, 5, api.OK},
		{"a long way round costs more in all, and less at its neck", netOf(5, edge(0, 4, 3), edge(0, 1, 2), edge(1, 2, 2), edge(2, 3, 2), edge(3, 4, 2)), 0, 4, 2, api.OK},
		{"what is dearer elsewhere does not count", netOf(4, edge(2, 3, 8), edge(0, 1, 2), edge(1, 2, 9), edge(1, 1, 7)), 0, 1, 2, api.OK},
		{"what is cheaper elsewhere does not count", netOf(4, edge(2, 3, 1), edge(0, 1, 6), edge(3, 0, 2)), 1, 0, 6, api.OK},
	} {
		for way, g := range []api.Net{x.g, turned(x.g), mixed(x.g)} {
			if w, e := Neck(g, x.a, x.b); w != x.want || e != x.e {
				t.Error(x.name, way, w, e)
			}
			if w, e := Neck(g, x.b, x.a); w != x.want || e != x.e {
				t.Error(x.name, "from b to a", way, w, e)
			}
		}
	}
}

func TestNeckOf64(t *testing.T) {
	for a := range 64 {
		for b := range a {
			if w, e := Neck(full(), a, b); w != 99-b || e != api.OK {
				t.Error("600 edges", a, b, w, e)
			}
			if w, e := Neck(chain(64, -5), b, a); w != -5 || e != api.OK {
				t.Error("a chain", a, b, w, e)
			}
			if w, e := Neck(netOf(64), a, b); w != 0 || e != api.ErrNone {
				t.Error("no edge", a, b, w, e)
			}
		}
	}
}

// areJoined goes from a, either way along the edges, and tells whether it comes to b.
func areJoined(edges []api.Edge, a, b int) bool {
	var seen [64]bool
	seen[a] = true
	for more := true; more && !seen[b]; {
		more = false
		for _, d := range edges {
			if seen[d.From] != seen[d.To] {
				seen[d.From], seen[d.To], more = true, true, true
			}
		}
	}
	return seen[b]
}

// treeOf works out what Tree does, edge by edge.
func treeOf(g api.Net) []int {
	order := rising(len(g.Edges), 0, 1)
	slices.SortStableFunc(order, func(i, j int) int { return cmp.Compare(g.Edges[i].Cost, g.Edges[j].Cost) })
	var tree []int
	var taken []api.Edge
	for _, i := range order {
		if d := g.Edges[i]; !areJoined(taken, d.From, d.To) {
			tree, taken = append(tree, i), append(taken, d)
		}
	}
	return tree
}

// neckOf works out what Neck does, cost by cost.
func neckOf(g api.Net, a, b int) (int, api.Errno) {
	var costs []int
	for _, d := range g.Edges {
		costs = append(costs, d.Cost)
	}
	slices.Sort(costs)
	for _, w := range slices.Compact(costs) {
		dearer := func(d api.Edge) bool { return d.Cost > w }
		if areJoined(slices.DeleteFunc(slices.Clone(g.Edges), dearer), a, b) {
			return w, api.OK
		}
	}
	return 0, api.ErrNone
}

func TestManyTrees(t *testing.T) {
	sizes := map[int]int{}
	for i, g := range many() {
		want := treeOf(g)
		for way, g := range []api.Net{g, turned(g), mixed(g)} {
			if l, e := Tree(g); !slices.Equal(l, want) || e != api.OK {
				t.Fatal(i, way, l, want, e)
			}
		}
		sizes[len(want)]++
	}
	if len(sizes) < 20 {
		t.Error("the nets are too much the same:", sizes)
	}
}

func TestManyNecks(t *testing.T) {
	told := map[api.Errno]int{}
	for i, g := range many() {
		for k := range 20 {
			a, b := (k*k*3+i)%g.N, (k*7+i*i)%g.N
			if a == b {
				continue
			}
			want, wrong := neckOf(g, a, b)
			told[wrong]++
			for way, g := range []api.Net{g, turned(g), mixed(g)} {
				if w, e := Neck(g, a, b); w != want || e != wrong {
					t.Fatal(i, way, a, b, w, e, want, wrong)
				}
			}
		}
	}
	if told[api.OK] < 1000 || told[api.ErrNone] < 1000 {
		t.Error("the nets are too much the same:", told)
	}
}

// joins are the ends of the edges of those numbers.
func joins(g api.Net, numbers []int) []api.Pair {
	var l []api.Pair
	for _, i := range numbers {
		l = append(l, api.Pair{A: g.Edges[i].From, B: g.Edges[i].To})
	}
	return l
}

func sum(g api.Net, numbers []int) int {
	s := 0
	for _, i := range numbers {
		s += g.Edges[i].Cost
	}
	return s
}

func TestTreeHoldsAllTogether(t *testing.T) {
	for i, g := range many() {
		tree, _ := Tree(g)
		all, _ := union.Of(g.N, joins(g, rising(len(g.Edges), 0, 1)))
		held, _ := union.Of(g.N, joins(g, tree))
		if !slices.Equal(held, all) {
			t.Fatal(i, held, all)
		}
		if groups, _ := union.Many(g.N, joins(g, tree)); len(tree) != g.N-groups {
			t.Fatal(i, "more edges than are needed:", tree, groups)
		}
	}
}

func TestNoOtherEdgesHoldAllForLess(t *testing.T) {
	for n := 1; n <= 5; n++ {
		for seed := range 12 {
			g := scatter(n, 9, 1, 6, seed)
			tree, _ := Tree(g)
			groups, _ := union.Many(n, joins(g, tree))
			for set := range 1 << len(g.Edges) {
				var some []int
				for i := range g.Edges {
					if set>>i&1 == 1 {
						some = append(some, i)
					}
				}
				if k, _ := union.Many(n, joins(g, some)); k == groups && sum(g, some) < sum(g, tree) {
					t.Fatal(n, seed, tree, some)
				}
			}
		}
	}
}

// lowered has each edge of g both ways, each costing as much below 0 as it cost above.
func lowered(g api.Net) api.Net {
	l := api.Net{N: g.N}
	for _, d := range g.Edges {
		l.Edges = append(l.Edges, edge(d.From, d.To, -d.Cost), edge(d.To, d.From, -d.Cost))
	}
	return l
}

func TestTheNeckIsWhatTheWidestWalkBears(t *testing.T) {
	for i, g := range many() {
		if len(g.Edges) > 300 || g.N > 20 {
			continue
		}
		wide, _ := floyd.Wide(lowered(g))
		for a := range g.N {
			for b := range a {
				want, wrong := -wide[a][b], api.OK
				if want == api.Far {
					want, wrong = 0, api.ErrNone
				}
				if w, e := Neck(g, a, b); w != want || e != wrong {
					t.Fatal(i, a, b, w, want, e)
				}
			}
		}
	}
}

func TestTheNeckIsInTheTree(t *testing.T) {
	for i, g := range many() {
		tree, _ := Tree(g)
		few := api.Net{N: g.N}
		for _, j := range tree {
			few.Edges = append(few.Edges, g.Edges[j])
		}
		slices.Reverse(few.Edges)
		for b := 1; b < g.N; b++ {
			w, e := Neck(g, 0, b)
			if same, wrong := Neck(few, 0, b); w != same || e != wrong {
				t.Fatal(i, b, w, same, e, wrong)
			}
		}
	}
}

// spoil writes x over l and the room behind it.
func spoil[T any](l []T, x T) {
	l = l[:cap(l)]
	for i := range l {
		l[i] = x
	}
}

func TestWhatIsHandedInStays(t *testing.T) {
	edges := []api.Edge{edge(3, 1, 2), edge(1, 2, 3), edge(2, 1, -1), edge(2, 0, -1), edge(3, 3, -1), edge(9, 9, 9), edge(0, 3, 1)}
	was := slices.Clone(edges)
	for n := range len(edges) + 1 {
		g := netOf(4, edges[:n]...)
		tree, _ := Tree(g)
		spoil(tree, -77)
		for a := range 5 {
			for b := range 5 {
				Neck(g, a, b)
			}
		}
		if g.N != 4 || !slices.Equal(edges, was) {
			t.Error(n, edges)
		}
	}
}

func TestWhatIsAnsweredStays(t *testing.T) {
	g := netOf(4, edge(3, 2, 5), edge(2, 1, 4), edge(2, 0, 6))
	tree, _ := Tree(g)
	other, _ := Tree(g)
	spoil(other, -77)
	spoil(g.Edges, edge(3, 0, 1))
	if !slices.Equal(tree, []int{1, 0, 2}) {
		t.Error(tree)
	}
	if again, e := Tree(g); !slices.Equal(again, []int{0}) || e != api.OK {
		t.Error(again, e)
	}
	if w, e := Neck(g, 0, 3); w != 1 || e != api.OK {
		t.Error(w, e)
	}
}
