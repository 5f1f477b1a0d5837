package bell

import (
	"math"
	"slices"
	"testing"

	"fellwalker/api"
	"fellwalker/dijk"
	"fellwalker/net"
	"fellwalker/walk"
)

func netOf(n int, edges ...api.Edge) api.Net { return api.Net{N: n, Edges: edges} }

// chain is a net of n places in which each leads to the next.
func chain(n, cost int) api.Net {
	g := api.Net{N: n}
	for v := range n - 1 {
		g.Edges = append(g.Edges, api.Edge{From: v, To: v + 1, Cost: cost})
	}
	return g
}

// round is a chain whose last place leads to the first at that cost.
func round(n, cost, last int) api.Net {
	g := chain(n, cost)
	g.Edges = append(g.Edges, api.Edge{From: n - 1, To: 0, Cost: last})
	return g
}

// turned has the edges of g in the other order.
func turned(g api.Net) api.Net {
	g.Edges = slices.Clone(g.Edges)
	slices.Reverse(g.Edges)
	return g
}

// rising are n numbers from first on, each by that step.
func rising(n, first, step int) []int {
	l := make([]int, n)
	for i := range l {
		l[i] = first + i*step
	}
	return l
}

// fars are n times Far, but at the place at, which costs 0.
func fars(n, at int) []int {
	l := slices.Repeat([]int{api.Far}, n)
	l[at] = 0
	return l
}

// scatter makes a net whose edges hang on seed, with costs from least to most.
func scatter(n, edges, least, most, seed int) api.Net {
	g := api.Net{N: n}
	x := uint32(seed*2654435761 + 12345)
	next := func(below int) int {
		x = x*1664525 + 1013904223
		return int(x>>8) % below
	}
	for range edges {
		g.Edges = append(g.Edges, api.Edge{From: next(n), To: next(n), Cost: least + next(most-least+1)})
	}
	return g
}

// tilted is scatter's net of costs from 0 on, by heights that give it edges below 0, but no bad cycle.
func tilted(n, edges, most, seed int) api.Net {
	g := scatter(n, edges, 0, most, seed)
	for i, d := range g.Edges {
		g.Edges[i].Cost += d.From*d.From*37%101 - d.To*d.To*37%101
	}
	return g
}

// between works out what it costs from all to all by what lies between; a place on a bad cycle costs less than 0 from itself.
func between(g api.Net) [][]int {
	rows := make([][]int, g.N)
	for v := range rows {
		rows[v] = fars(g.N, v)
	}
	for _, d := range g.Edges {
		rows[d.From][d.To] = min(rows[d.From][d.To], d.Cost)
	}
	for mid := range rows {
		for from := range rows {
			for to := range rows {
				if rows[from][mid] != api.Far && rows[mid][to] != api.Far {
					// Bad cycles double what they gain with each place.
					rows[from][to] = min(rows[from][to], max(rows[from][mid]+rows[mid][to], -api.Far))
				}
			}
		}
	}
	return rows
}

// leadsToBad tells by between's rows whether a walk leads from from to a bad cycle.
func leadsToBad(rows [][]int, from int) bool {
	for v := range rows {
		if rows[from][v] != api.Far && rows[v][v] < 0 {
			return true
		}
	}
	return false
}

// isBad tells whether cycle holds places of g, each once, with edges from each to the next and round, that cost less than 0.
func isBad(g api.Net, cycle []int) bool {
	if len(cycle) == 0 || len(cycle) > g.N {
		return false
	}
	seen := map[int]int{}
	for _, v := range cycle {
		seen[v]++
		if !net.IsPlace(g, v) || seen[v] > 1 {
			return false
		}
	}
	cost, e := walk.Cost(g, append(slices.Clone(cycle), cycle[0]))
	return e == api.OK && cost < 0
}

// wrongNets are nets that net.Check refuses.
func wrongNets() []api.Net {
	good := api.Edge{From: 0, To: 1, Cost: -1}
	bad := api.Edge{From: 0, To: 0, Cost: -1}
	return []api.Net{
		{}, netOf(-1), netOf(65), netOf(65, bad), netOf(math.MaxInt), netOf(math.MinInt), netOf(0, bad),
		netOf(2, slices.Repeat([]api.Edge{good}, 601)...), netOf(2, slices.Repeat([]api.Edge{bad}, 601)...),
		netOf(2, api.Edge{From: 2, Cost: 1}), netOf(2, good, api.Edge{To: -1, Cost: 1}), netOf(2, bad, api.Edge{To: 2}),
		netOf(2, api.Edge{Cost: api.MaxCost + 1}), netOf(2, bad, api.Edge{Cost: -api.MaxCost - 1}),
		netOf(2, api.Edge{To: 1, Cost: math.MinInt}), netOf(2, api.Edge{To: 1, Cost: math.MaxInt}),
		netOf(2, api.Edge{Cost: api.MaxCost + 1}, api.Edge{From: 2}), netOf(2, api.Edge{From: 2}, api.Edge{Cost: api.MaxCost + 1}),
	}
}

func TestTheNetsErrorIsToldFirst(t *testing.T) {
	for i, g := range wrongNets() {
		want := net.Check(g)
		if want == api.OK {
			t.Error(i, "is not wrong")
		}
		for _, v := range []int{-1, 0, 1, 64, math.MaxInt, math.MinInt} {
			if l, e := Dist(g, v); l != nil || e != want {
				t.Error("Dist", i, v, l, e)
			}
		}
		if l, e := Cycle(g); l != nil || e != want {
			t.Error("Cycle", i, l, e)
		}
		if l, e := Ends(g); l != nil || e != want {
			t.Error("Ends", i, l, e)
		}
	}
}

func TestNoPlaceIsRefusedAheadOfABadCycle(t *testing.T) {
	for _, g := range []api.Net{netOf(1), netOf(1, api.Edge{Cost: -1}), netOf(3, api.Edge{To: 1}), netOf(64), round(64, -1, -1), chain(64, -1)} {
		for _, v := range []int{-1, g.N, g.N + 1, math.MinInt, math.MaxInt} {
			if l, e := Dist(g, v); l != nil || e != api.ErrArg {
				t.Error(g.N, v, l, e)
			}
		}
	}
}

// costly are nets, a place, and what Dist must answer; no list stands for ErrCycle.
var costly = []struct {
	name string
	g    api.Net
	from int
	want []int
}{
	{"one place", netOf(1), 0, []int{0}},
	{"one place with an edge to itself", netOf(1, api.Edge{Cost: 4}), 0, []int{0}},
	{"an edge to itself for 0", netOf(1, api.Edge{}), 0, []int{0}},
	{"an edge to itself for -1", netOf(1, api.Edge{Cost: -1}), 0, nil},
	{"several edges to itself, one below 0", netOf(1, api.Edge{Cost: 5}, api.Edge{Cost: -api.MaxCost}, api.Edge{Cost: 2}), 0, nil},
	{"no edge", netOf(3), 1, fars(3, 1)},
	{"64 places without an edge", netOf(64), 63, fars(64, 63)},
	{"over a place, above 0", netOf(3, api.Edge{From: 0, To: 2, Cost: 9}, api.Edge{From: 0, To: 1, Cost: 2}, api.Edge{From: 1, To: 2, Cost: 4}), 0, []int{0, 2, 6}},
	{"below 0 over a dear edge", netOf(4, api.Edge{From: 0, To: 1, Cost: 4}, api.Edge{From: 0, To: 2, Cost: 5}, api.Edge{From: 2, To: 1, Cost: -3}, api.Edge{From: 1, To: 2, Cost: 3}), 0, []int{0, 2, 5, api.Far}},
	{"the same, and the round trip costs -1", netOf(4, api.Edge{From: 0, To: 1, Cost: 4}, api.Edge{From: 0, To: 2, Cost: 5}, api.Edge{From: 2, To: 1, Cost: -3}, api.Edge{From: 1, To: 2, Cost: 2}), 0, nil},
	{"a bad cycle that no walk from here leads to", netOf(4, api.Edge{From: 0, To: 1, Cost: 4}, api.Edge{From: 0, To: 2, Cost: 5}, api.Edge{From: 2, To: 1, Cost: -3}, api.Edge{From: 1, To: 2, Cost: 2}), 3, fars(4, 3)},
	{"a bad cycle that leads here, and no walk back", netOf(3, api.Edge{From: 1, To: 1, Cost: -1}, api.Edge{From: 1, To: 0, Cost: -5}, api.Edge{From: 0, To: 2, Cost: -7}), 0, []int{0, api.Far, -7}},
	{"from a bad cycle", netOf(3, api.Edge{From: 1, To: 1, Cost: -1}, api.Edge{From: 1, To: 0, Cost: -5}, api.Edge{From: 0, To: 2, Cost: -7}), 1, nil},
	{"behind a bad cycle", netOf(3, api.Edge{From: 1, To: 1, Cost: -1}, api.Edge{From: 1, To: 0, Cost: -5}, api.Edge{From: 0, To: 2, Cost: -7}), 2, []int{api.Far, api.Far, 0}},
	{"a bad cycle at the end of a dear walk", netOf(4, api.Edge{From: 0, To: 1, Cost: api.MaxCost}, api.Edge{From: 1, To: 2, Cost: api.MaxCost}, api.Edge{From: 2, To: 3, Cost: 1}, api.Edge{From: 3, To: 2, Cost: -2}), 0, nil},
	{"a round trip that costs just 0", netOf(3, api.Edge{From: 0, To: 1, Cost: 7}, api.Edge{From: 1, To: 2, Cost: -9}, api.Edge{From: 2, To: 0, Cost: 2}), 0, []int{0, 7, -2}},
	{"the same from another place", netOf(3, api.Edge{From: 0, To: 1, Cost: 7}, api.Edge{From: 1, To: 2, Cost: -9}, api.Edge{From: 2, To: 0, Cost: 2}), 1, []int{-7, 0, -9}},
	{"a round trip of 0 edges alone", round(5, 0, 0), 2, []int{0, 0, 0, 0, 0}},
	{"of several edges the least", netOf(2, api.Edge{From: 0, To: 1, Cost: 3}, api.Edge{From: 0, To: 1, Cost: -6}, api.Edge{From: 0, To: 1, Cost: 8}, api.Edge{From: 0, To: 1, Cost: -2}), 0, []int{0, -6}},
	{"of several edges one makes the cycle bad", netOf(2, api.Edge{From: 0, To: 1, Cost: 3}, api.Edge{From: 0, To: 1, Cost: -6}, api.Edge{From: 0, To: 1, Cost: 8}, api.Edge{From: 1, To: 0, Cost: 5}), 0, nil},
	{"of several edges none makes the cycle bad", netOf(2, api.Edge{From: 0, To: 1, Cost: 3}, api.Edge{From: 0, To: 1, Cost: -6}, api.Edge{From: 0, To: 1, Cost: 8}, api.Edge{From: 1, To: 0, Cost: 6}), 0, []int{0, -6}},
	{"the wrong way", netOf(2, api.Edge{From: 1, To: 0, Cost: -1}), 0, []int{0, api.Far}},
	{"no walk leads here, though the edge on costs less than 0", netOf(3, api.Edge{From: 1, To: 2, Cost: -api.MaxCost}), 0, []int{0, api.Far, api.Far}},
	{"64 in a chain, below 0", chain(64, -api.MaxCost), 0, rising(64, 0, -api.MaxCost)},
	{"64 in a chain, each edge ahead of the one before", turned(chain(64, -api.MaxCost)), 0, rising(64, 0, -api.MaxCost)},
	{"64 in a chain, dear, each edge ahead of the one before", turned(chain(64, api.MaxCost)), 0, rising(64, 0, api.MaxCost)},
	{"64 in a round that costs 0", turned(round(64, -100, 6300)), 0, rising(64, 0, -100)},
	{"64 in a round that costs -1", turned(round(64, -100, 6299)), 0, nil},
	{"64 in a round of -1", round(64, 0, -1), 30, nil},
	{"64 in a round, all below 0", round(64, -api.MaxCost, -api.MaxCost), 63, nil},
	{"two places, the second round", netOf(2, api.Edge{From: 1, To: 0, Cost: -1}, api.Edge{From: 0, To: 1, Cost: 1}), 0, []int{0, 1}},
}

func TestDist(t *testing.T) {
	for _, x := range costly {
		want := api.OK
		if x.want == nil {
			want = api.ErrCycle
		}
		l, e := Dist(x.g, x.from)
		if !slices.Equal(l, x.want) || e != want || e != api.OK && l != nil {
			t.Error(x.name, l, e)
		}
	}
}

func TestCycle(t *testing.T) {
	for _, x := range []struct {
		name string
		g    api.Net
		want []int // the cycle's places, rising
	}{
		{"an edge to itself", netOf(1, api.Edge{Cost: -1}), []int{0}},
		{"several edges to itself", netOf(1, api.Edge{Cost: 3}, api.Edge{Cost: -api.MaxCost}, api.Edge{Cost: 4}), []int{0}},
		{"the last of 64 to itself", netOf(64, api.Edge{From: 63, To: 63, Cost: -1}), []int{63}},
		{"2 less 3", netOf(2, api.Edge{From: 0, To: 1, Cost: 2}, api.Edge{From: 1, To: 0, Cost: -3}), []int{0, 1}},
		{"of several edges the least", netOf(3, api.Edge{From: 2, To: 1, Cost: 9}, api.Edge{From: 2, To: 1, Cost: 2}, api.Edge{From: 2, To: 1, Cost: 5}, api.Edge{From: 1, To: 2, Cost: 0}, api.Edge{From: 1, To: 2, Cost: -3}), []int{1, 2}},
		{"beside a round trip of 0", netOf(4, api.Edge{From: 0, To: 1, Cost: -5}, api.Edge{From: 1, To: 0, Cost: 5}, api.Edge{From: 2, To: 3, Cost: -5}, api.Edge{From: 3, To: 2, Cost: 4}), []int{2, 3}},
		{"with a walk that leads there", netOf(5, api.Edge{From: 0, To: 1, Cost: -9}, api.Edge{From: 1, To: 2, Cost: -9}, api.Edge{From: 2, To: 3, Cost: 4}, api.Edge{From: 3, To: 2, Cost: -5}), []int{2, 3}},
		{"with walks that lead away", netOf(6, api.Edge{From: 4, To: 5, Cost: -9}, api.Edge{From: 3, To: 4, Cost: -9}, api.Edge{From: 2, To: 3, Cost: -9}, api.Edge{From: 1, To: 2, Cost: -9}, api.Edge{From: 0, To: 1, Cost: 4}, api.Edge{From: 1, To: 0, Cost: -5}), []int{0, 1}},
		{"a dear edge, and one that is worth more", netOf(3, api.Edge{From: 0, To: 1, Cost: 9999}, api.Edge{From: 1, To: 2, Cost: 0}, api.Edge{From: 2, To: 0, Cost: -api.MaxCost}), []int{0, 1, 2}},
		{"all of 64", round(64, 0, -1), rising(64, 0, 1)},
		{"all of 64, the edges the other way round", turned(round(64, 100, -6301)), rising(64, 0, 1)},
		{"all of 64, each below 0", round(64, -api.MaxCost, -api.MaxCost), rising(64, 0, 1)},
	} {
		l, e := Cycle(x.g)
		if !isBad(x.g, l) || e != api.OK {
			t.Error(x.name, l, e)
		}
		slices.Sort(l)
		if !slices.Equal(l, x.want) {
			t.Error(x.name, l)
		}
	}
}

func TestCycleTellsThatThereIsNone(t *testing.T) {
	for _, x := range []struct {
		name string
		g    api.Net
	}{
		{"one place", netOf(1)},
		{"64 places", netOf(64)},
		{"an edge to itself for 0", netOf(1, api.Edge{})},
		{"an edge to itself for 1", netOf(2, api.Edge{From: 1, To: 1, Cost: 1})},
		{"a round trip that costs just 0", netOf(2, api.Edge{From: 0, To: 1, Cost: 3}, api.Edge{From: 1, To: 0, Cost: -3})},
		{"several edges, a round trip that costs just 0", netOf(2, api.Edge{From: 0, To: 1, Cost: 3}, api.Edge{From: 0, To: 1, Cost: 4}, api.Edge{From: 1, To: 0, Cost: -3}, api.Edge{From: 1, To: 0, Cost: -2})},
		{"edges below 0 that lead nowhere back", chain(64, -api.MaxCost)},
		{"the same, the other way round", turned(chain(64, -api.MaxCost))},
		{"a round of 64 that costs just 0", round(64, -100, 6300)},
		{"the same, the other way round", turned(round(64, -100, 6300))},
		{"a round of 64 of 0 each", round(64, 0, 0)},
	} {
		if l, e := Cycle(x.g); l != nil || e != api.ErrNone {
			t.Error(x.name, l, e)
		}
	}
}

func TestEnds(t *testing.T) {
	g := netOf(4, api.Edge{From: 0, To: 1, Cost: -2}, api.Edge{From: 1, To: 2, Cost: 1}, api.Edge{From: 0, To: 2, Cost: 4}, api.Edge{From: 2, To: 3, Cost: 5})
	if l, e := Ends(g); !slices.Equal(l, []int{0, -2, -1, 0}) || e != api.OK {
		t.Error(l, e)
	}
	g.Edges = append(g.Edges, api.Edge{From: 3, To: 3, Cost: -1})
	if l, e := Ends(g); l != nil || e != api.ErrCycle {
		t.Error(l, e)
	}
}

// many are nets of all sizes, with few edges and with many, most of them with edges below 0, some with bad cycles.
func many() []api.Net {
	var l []api.Net
	for _, n := range []int{1, 2, 3, 4, 5, 8, 20, 64} {
		for _, edges := range []int{0, 1, n - 1, n, 2 * n, 4 * n, 600} {
			for seed := range 6 {
				l = append(l,
					scatter(n, edges, -1, 1, seed), scatter(n, edges, -1, 20, seed), scatter(n, edges, -3, 7, seed),
					scatter(n, edges, -api.MaxCost, api.MaxCost, seed), tilted(n, edges, 1, seed), tilted(n, edges, 9000, seed))
			}
		}
	}
	return l
}

// checkNet holds Dist and Cycle of g against what between works out, and answers from how many places a walk leads to a bad cycle.
func checkNet(t *testing.T, i int, g api.Net) int {
	rows, bad := between(g), 0
	for from := range g.N {
		l, e := Dist(g, from)
		if leadsToBad(rows, from) {
			bad++
			if l != nil || e != api.ErrCycle {
				t.Fatal(i, from, l, e)
			}
			continue
		}
		if !slices.Equal(l, rows[from]) || e != api.OK {
			t.Fatal(i, from, l, rows[from], e)
		}
	}
	l, e := Cycle(g)
	if bad == 0 && (l != nil || e != api.ErrNone) || bad > 0 && (!isBad(g, l) || e != api.OK) {
		t.Fatal(i, bad, l, e)
	}
	return bad
}

func TestManyNets(t *testing.T) {
	var none, some, all int
	for i, g := range many() {
		switch checkNet(t, i, g) {
		case 0:
			none++
		case g.N:
			all++
		default:
			some++
		}
	}
	if none < 100 || some < 100 || all < 100 {
		t.Error("the nets are too much the same:", none, some, all)
	}
}

func TestItCostsTheSameAsPlaceByPlace(t *testing.T) {
	for seed := range 20 {
		g := scatter(4+3*seed, 200, 1, 50, seed)
		for from := range g.N {
			want, _ := dijk.Dist(g, from)
			if l, e := Dist(g, from); !slices.Equal(l, want) || e != api.OK {
				t.Fatal(seed, from, l, want, e)
			}
		}
	}
}

func TestTheOrderOfEdgesDoesNotCount(t *testing.T) {
	for i, g := range many() {
		for from := range g.N {
			a, e := Dist(g, from)
			b, f := Dist(turned(g), from)
			if !slices.Equal(a, b) || e != f {
				t.Fatal(i, from, a, b, e, f)
			}
		}
		a, e := Cycle(g)
		b, f := Cycle(turned(g))
		if e != f || e == api.OK && (!isBad(g, a) || !isBad(g, b)) {
			t.Fatal(i, a, b, e, f)
		}
	}
}

func TestTheSameIsAnsweredTheSame(t *testing.T) {
	for i, g := range many() {
		a, e := Cycle(g)
		b, f := Cycle(g)
		if !slices.Equal(a, b) || e != f {
			t.Fatal(i, a, b, e, f)
		}
	}
}

// spoil writes over l and the room behind it.
func spoil(l []int) {
	l = l[:cap(l)]
	for i := range l {
		l[i] = -77
	}
}

func TestWhatIsHandedInStays(t *testing.T) {
	edges := []api.Edge{{From: 0, To: 1, Cost: -2}, {From: 1, To: 2, Cost: 3}, {From: 2, To: 3, Cost: -1}, {From: 2, To: 0, Cost: -1}, {From: 3, To: 3, Cost: -1}, {From: 9, To: 9, Cost: 9}, {From: 0, To: 3, Cost: 1}}
	was := slices.Clone(edges)
	for n := range len(edges) + 1 {
		g := netOf(4, edges[:n]...)
		for from := -1; from <= 4; from++ {
			l, _ := Dist(g, from)
			spoil(l)
		}
		l, _ := Cycle(g)
		spoil(l)
		l, _ = Ends(g)
		spoil(l)
		if g.N != 4 || !slices.Equal(edges, was) {
			t.Error(n, edges)
		}
	}
}

func TestWhatIsAnsweredStays(t *testing.T) {
	g := netOf(4, api.Edge{From: 0, To: 1, Cost: -2}, api.Edge{From: 2, To: 3, Cost: -2}, api.Edge{From: 3, To: 2, Cost: 1})
	l, _ := Dist(g, 0)
	c, _ := Cycle(g)
	otherL, _ := Dist(g, 0)
	otherC, _ := Cycle(g)
	spoil(otherL)
	spoil(otherC)
	for i := range g.Edges {
		g.Edges[i] = api.Edge{From: 1, To: 0, Cost: 5}
	}
	slices.Sort(c)
	if !slices.Equal(l, []int{0, -2, api.Far, api.Far}) || !slices.Equal(c, []int{2, 3}) {
		t.Error(l, c)
	}
	if l, e := Dist(g, 1); !slices.Equal(l, []int{5, 0, api.Far, api.Far}) || e != api.OK {
		t.Error("the net of now has one edge, from 1", l, e)
	}
	if l, e := Cycle(g); l != nil || e != api.ErrNone {
		t.Error("the net of now has no cycle", l, e)
	}
}
