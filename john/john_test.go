package john

import (
	"math"
	"slices"
	"testing"

	"fellwalker/api"
	"fellwalker/bell"
	"fellwalker/dijk"
	"fellwalker/net"
)

func netOf(n int, edges ...api.Edge) api.Net { return api.Net{N: n, Edges: edges} }

func isZero(g api.Net) bool { return g.N == 0 && g.Edges == nil }

// chain is a net of n places in which each leads to the next.
func chain(n, cost int) api.Net {
	g := api.Net{N: n}
	for v := range n - 1 {
		g.Edges = append(g.Edges, api.Edge{From: v, To: v + 1, Cost: cost})
	}
	return g
}

// round is a chain whose last place leads to the first at that cost.
func round(n, cost, last int) api.Net {
	g := chain(n, cost)
	g.Edges = append(g.Edges, api.Edge{From: n - 1, To: 0, Cost: last})
	return g
}

// rising are n numbers from first on, each by that step.
func rising(n, first, step int) []int {
	l := make([]int, n)
	for i := range l {
		l[i] = first + i*step
	}
	return l
}

// scatter makes a net whose edges hang on seed, with costs from least to most.
func scatter(n, edges, least, most, seed int) api.Net {
	g := api.Net{N: n}
	x := uint32(seed*2654435761 + 12345)
	next := func(below int) int {
		x = x*1664525 + 1013904223
		return int(x>>8) % below
	}
	for range edges {
		g.Edges = append(g.Edges, api.Edge{From: next(n), To: next(n), Cost: least + next(most-least+1)})
	}
	return g
}

// tilted is scatter's net of costs from 0 on, by heights that give it edges below 0, but no bad cycle.
func tilted(n, edges, most, seed int) api.Net {
	g := scatter(n, edges, 0, most, seed)
	for i, d := range g.Edges {
		g.Edges[i].Cost += d.From*d.From*37%101 - d.To*d.To*37%101
	}
	return g
}

// falling is a net whose edges, of any cost, all lead to greater places: it has no cycle, and heights far below 0.
func falling(n, edges, seed int) api.Net {
	g := scatter(n, edges, -api.MaxCost, api.MaxCost, seed)
	g.Edges = slices.DeleteFunc(g.Edges, func(d api.Edge) bool { return d.From >= d.To })
	return g
}

// wrongNets are nets that net.Check refuses.
func wrongNets() []api.Net {
	good := api.Edge{From: 0, To: 1, Cost: -1}
	bad := api.Edge{From: 0, To: 0, Cost: -1}
	return []api.Net{
		{}, netOf(-1), netOf(65), netOf(65, bad), netOf(math.MaxInt), netOf(math.MinInt), netOf(0, bad),
		netOf(2, slices.Repeat([]api.Edge{good}, 601)...), netOf(2, slices.Repeat([]api.Edge{bad}, 601)...),
		netOf(2, api.Edge{From: 2, Cost: 1}), netOf(2, good, api.Edge{To: -1, Cost: 1}), netOf(2, bad, api.Edge{To: 2}),
		netOf(2, api.Edge{Cost: api.MaxCost + 1}), netOf(2, bad, api.Edge{Cost: -api.MaxCost - 1}),
		netOf(2, api.Edge{To: 1, Cost: math.MinInt}), netOf(2, api.Edge{To: 1, Cost: math.MaxInt}),
		netOf(2, api.Edge{Cost: api.MaxCost + 1}, api.Edge{From: 2}), netOf(2, api.Edge{From: 2}, api.Edge{Cost: api.MaxCost + 1}),
	}
}

func TestTheNetsErrorIsToldFirst(t *testing.T) {
	for i, g := range wrongNets() {
		want := net.Check(g)
		if want == api.OK {
			t.Error(i, "is not wrong")
		}
		if l, e := Lift(g); l != nil || e != want {
			t.Error("Lift", i, l, e)
		}
		if l, e := All(g); l != nil || e != want {
			t.Error("All", i, l, e)
		}
		for _, h := range [][]int{nil, {0}, {0, 0}, {0, 5}, {0, 20000}, {api.MaxLift + 1, 0}, make([]int, 65)} {
			if f, e := Flat(g, h); !isZero(f) || e != want {
				t.Error("Flat", i, h, f, e)
			}
		}
	}
}

func TestABadCycleIsRefused(t *testing.T) {
	for _, x := range []struct {
		name string
		g    api.Net
	}{
		{"an edge to itself", netOf(1, api.Edge{Cost: -1})},
		{"the last of 64 to itself", netOf(64, api.Edge{From: 63, To: 63, Cost: -1})},
		{"several edges to itself, one below 0", netOf(2, api.Edge{From: 1, To: 1, Cost: 5}, api.Edge{From: 1, To: 1, Cost: -1}, api.Edge{From: 1, To: 1})},
		{"2 less 3", netOf(2, api.Edge{From: 0, To: 1, Cost: 2}, api.Edge{From: 1, To: 0, Cost: -3})},
		{"of several edges one makes it bad", netOf(2, api.Edge{From: 0, To: 1, Cost: 3}, api.Edge{From: 0, To: 1, Cost: 2}, api.Edge{From: 1, To: 0, Cost: -3})},
		{"that no walk leads to from 0", netOf(4, api.Edge{From: 0, To: 1, Cost: 2}, api.Edge{From: 2, To: 3, Cost: -2}, api.Edge{From: 3, To: 2, Cost: 1})},
		{"that leads to 0 alone", netOf(2, api.Edge{From: 1, To: 0, Cost: api.MaxCost}, api.Edge{From: 1, To: 1, Cost: -1})},
		{"all of 64", round(64, 0, -1)},
		{"all of 64, each below 0", round(64, -api.MaxCost, -api.MaxCost)},
	} {
		if l, e := Lift(x.g); l != nil || e != api.ErrCycle {
			t.Error("Lift", x.name, l, e)
		}
		if l, e := All(x.g); l != nil || e != api.ErrCycle {
			t.Error("All", x.name, l, e)
		}
	}
}

func TestLift(t *testing.T) {
	for _, x := range []struct {
		name string
		g    api.Net
		want []int
	}{
		{"one place", netOf(1), []int{0}},
		{"one place with an edge to itself for 0", netOf(1, api.Edge{}), []int{0}},
		{"64 places", netOf(64), make([]int, 64)},
		{"two edges below each other", netOf(3, api.Edge{From: 0, To: 1, Cost: -2}, api.Edge{From: 1, To: 2, Cost: 1}, api.Edge{From: 0, To: 2, Cost: 4}), []int{0, -2, -1}},
		{"each walk that ends there costs more than 0", netOf(2, api.Edge{From: 0, To: 1, Cost: 1}), []int{0, 0}},
		{"the same behind an edge below 0", netOf(3, api.Edge{From: 0, To: 1, Cost: -2}, api.Edge{From: 1, To: 2, Cost: 3}), []int{0, -2, 0}},
		{"just 0 behind an edge below 0", netOf(3, api.Edge{From: 0, To: 1, Cost: -2}, api.Edge{From: 1, To: 2, Cost: 2}), []int{0, -2, 0}},
		{"just below 0", netOf(3, api.Edge{From: 0, To: 1, Cost: -2}, api.Edge{From: 1, To: 2, Cost: 1}), []int{0, -2, -1}},
		{"the walk that costs least begins on its way", netOf(3, api.Edge{From: 0, To: 1, Cost: 5}, api.Edge{From: 1, To: 2, Cost: -3}), []int{0, 0, -3}},
		{"of several edges the least", netOf(2, api.Edge{From: 0, To: 1, Cost: 3}, api.Edge{From: 0, To: 1, Cost: -6}, api.Edge{From: 0, To: 1, Cost: -2}), []int{0, -6}},
		{"a round trip that costs just 0", netOf(3, api.Edge{From: 0, To: 1, Cost: 7}, api.Edge{From: 1, To: 2, Cost: -9}, api.Edge{From: 2, To: 0, Cost: 2}), []int{-7, 0, -9}},
		{"none leads to the other", netOf(4, api.Edge{From: 0, To: 1, Cost: -1}, api.Edge{From: 3, To: 2, Cost: -5}), []int{0, -1, -5, 0}},
		{"64 in a chain, below 0", chain(64, -api.MaxCost), rising(64, 0, -api.MaxCost)},
		{"64 in a chain, above 0", chain(64, api.MaxCost), make([]int, 64)},
		{"64 in a round that costs 0", round(64, -100, 6300), rising(64, 0, -100)},
	} {
		if l, e := Lift(x.g); !slices.Equal(l, x.want) || e != api.OK {
			t.Error(x.name, l, e)
		}
	}
}

func TestFlat(t *testing.T) {
	for _, x := range []struct {
		name string
		g    api.Net
		h    []int
		want []int // what its edges cost then
	}{
		{"one place, no edge", netOf(1), []int{5}, nil},
		{"64 places, no edge", netOf(64), rising(64, 900000, 1), nil},
		{"by Lift's heights", netOf(3, api.Edge{From: 0, To: 1, Cost: -2}, api.Edge{From: 1, To: 2, Cost: 1}, api.Edge{From: 0, To: 2, Cost: 4}), []int{0, -2, -1}, []int{0, 0, 5}},
		{"by heights of 0", netOf(2, api.Edge{From: 0, To: 1, Cost: 7}, api.Edge{From: 1, To: 0, Cost: 9}), []int{0, 0}, []int{7, 9}},
		{"From's height more, To's less", netOf(2, api.Edge{From: 0, To: 1, Cost: 100}, api.Edge{From: 1, To: 0, Cost: 100}), []int{30, 10}, []int{120, 80}},
		{"an edge to itself costs the same", netOf(2, api.Edge{From: 1, To: 1, Cost: 6}, api.Edge{From: 0, To: 0, Cost: 0}), []int{api.MaxLift, -api.MaxLift}, []int{6, 0}},
		{"just 0 and just 10000", netOf(3, api.Edge{From: 0, To: 1, Cost: -5}, api.Edge{From: 0, To: 2, Cost: 9000}), []int{1000, 995, 0}, []int{0, 10000}},
		{"heights of 1000000", netOf(2, api.Edge{From: 0, To: 1, Cost: 3}, api.Edge{From: 1, To: 0, Cost: 10000}), []int{api.MaxLift, api.MaxLift}, []int{3, 10000}},
		{"heights of -1000000", netOf(2, api.Edge{From: 0, To: 1, Cost: 3}, api.Edge{From: 1, To: 0, Cost: 0}), []int{-api.MaxLift, -api.MaxLift}, []int{3, 0}},
		{"heights of both, with no edge between", netOf(2), []int{-api.MaxLift, api.MaxLift}, nil},
		{"several edges between two places", netOf(2, api.Edge{From: 0, To: 1, Cost: 3}, api.Edge{From: 0, To: 1, Cost: 3}, api.Edge{From: 0, To: 1, Cost: -1}), []int{1, 0}, []int{4, 4, 0}},
		{"the least cost to the greatest", netOf(2, api.Edge{From: 0, To: 1, Cost: -10000}), []int{20000, 0}, []int{10000}},
		{"the greatest cost to the least", netOf(2, api.Edge{From: 0, To: 1, Cost: 10000}), []int{0, 10000}, []int{0}},
	} {
		want := netOf(x.g.N, slices.Clone(x.g.Edges)...)
		for i, cost := range x.want {
			want.Edges[i].Cost = cost
		}
		f, e := Flat(x.g, x.h)
		if f.N != want.N || !slices.Equal(f.Edges, want.Edges) || len(f.Edges) != len(x.want) || e != api.OK {
			t.Error(x.name, f, e)
		}
	}
}

func TestFlatRefusesHeights(t *testing.T) {
	// By heights of 0 the one edge would be too cheap: that is told only if there is nothing wrong with the heights.
	for _, x := range []struct {
		name string
		n    int
		h    []int
		want api.Errno
	}{
		{"none", 2, nil, api.ErrArg},
		{"one too few", 2, []int{0}, api.ErrArg},
		{"one too many", 2, []int{0, 0, 0}, api.ErrArg},
		{"two", 2, []int{0, 0}, api.ErrCost},
		{"none of one place", 1, []int{}, api.ErrArg},
		{"one of one place", 1, []int{0}, api.ErrCost},
		{"two of one place", 1, []int{0, 0}, api.ErrArg},
		{"63 of 64", 64, make([]int, 63), api.ErrArg},
		{"64 of 64", 64, make([]int, 64), api.ErrCost},
		{"65 of 64", 64, make([]int, 65), api.ErrArg},
		{"just 1000000", 2, []int{api.MaxLift, 0}, api.ErrCost},
		{"just -1000000", 2, []int{-api.MaxLift, 0}, api.ErrCost},
		{"1000001, the first", 2, []int{api.MaxLift + 1, 0}, api.ErrArg},
		{"1000001, the last", 2, []int{0, api.MaxLift + 1}, api.ErrArg},
		{"-1000001, the first", 2, []int{-api.MaxLift - 1, 0}, api.ErrArg},
		{"-1000001, the last", 2, []int{0, -api.MaxLift - 1}, api.ErrArg},
		{"the least of all", 2, []int{0, math.MinInt}, api.ErrArg},
		{"the greatest of all", 2, []int{math.MaxInt, 0}, api.ErrArg},
		{"the greatest and the least", 2, []int{math.MaxInt, math.MinInt}, api.ErrArg},
		{"the last of 64", 64, append(make([]int, 63), api.MaxLift+1), api.ErrArg},
	} {
		if f, e := Flat(netOf(x.n, api.Edge{Cost: -1}), x.h); !isZero(f) || e != x.want {
			t.Error(x.name, f, e)
		}
	}
}

func TestFlatRefusesEdgeByEdge(t *testing.T) {
	h := []int{0, 10, -10}
	good := api.Edge{From: 0, To: 1, Cost: 10}
	below := api.Edge{From: 0, To: 1, Cost: 9}
	above := api.Edge{From: 0, To: 2, Cost: 9991}
	for _, x := range []struct {
		name string
		g    api.Net
		h    []int
		want api.Errno
	}{
		{"just 0", netOf(3, good), h, api.OK},
		{"just -1", netOf(3, below), h, api.ErrCost},
		{"just 10000", netOf(3, api.Edge{From: 0, To: 2, Cost: 9990}), h, api.OK},
		{"just 10001", netOf(3, above), h, api.ErrLarge},
		{"the last below 0", netOf(3, good, good, below), h, api.ErrCost},
		{"the last above", netOf(3, good, good, above), h, api.ErrLarge},
		{"below ahead of above", netOf(3, good, below, good, above), h, api.ErrCost},
		{"above ahead of below", netOf(3, good, above, good, below), h, api.ErrLarge},
		{"600 edges, the last below", netOf(3, append(slices.Repeat([]api.Edge{good}, 599), below)...), h, api.ErrCost},
		{"600 edges, the last above", netOf(3, append(slices.Repeat([]api.Edge{good}, 599), above)...), h, api.ErrLarge},
		{"as far below as may be", netOf(2, api.Edge{From: 0, To: 1, Cost: -10000}), []int{-api.MaxLift, api.MaxLift}, api.ErrCost},
		{"as far above as may be", netOf(2, api.Edge{From: 0, To: 1, Cost: 10000}), []int{api.MaxLift, -api.MaxLift}, api.ErrLarge},
		{"by heights of 0 below", netOf(2, api.Edge{From: 0, To: 1, Cost: -1}), []int{0, 0}, api.ErrCost},
		{"an edge to itself below 0", netOf(2, api.Edge{From: 1, To: 1, Cost: -1}), []int{500, 700}, api.ErrCost},
	} {
		f, e := Flat(x.g, x.h)
		if e != x.want || e != api.OK && !isZero(f) {
			t.Error(x.name, f, e)
		}
	}
}

func TestAll(t *testing.T) {
	const far = api.Far
	for _, x := range []struct {
		name string
		g    api.Net
		want [][]int
	}{
		{"one place", netOf(1), [][]int{{0}}},
		{"one place with an edge to itself for 0", netOf(1, api.Edge{}), [][]int{{0}}},
		{"no edge", netOf(3), [][]int{{0, far, far}, {far, 0, far}, {far, far, 0}}},
		{"an edge below 0", netOf(3, api.Edge{From: 0, To: 1, Cost: -2}, api.Edge{From: 1, To: 2, Cost: 1}, api.Edge{From: 0, To: 2, Cost: 4}), [][]int{{0, -2, -1}, {far, 0, 1}, {far, far, 0}}},
		{"a round trip that costs just 0", netOf(3, api.Edge{From: 0, To: 1, Cost: 7}, api.Edge{From: 1, To: 2, Cost: -9}, api.Edge{From: 2, To: 0, Cost: 2}), [][]int{{0, 7, -2}, {-7, 0, -9}, {2, 9, 0}}},
		{"of several edges the least", netOf(2, api.Edge{From: 0, To: 1, Cost: 3}, api.Edge{From: 0, To: 1, Cost: -6}, api.Edge{From: 0, To: 1, Cost: 8}), [][]int{{0, -6}, {far, 0}}},
		{"a walk that costs more than 0 behind one below", netOf(3, api.Edge{From: 0, To: 1, Cost: -2}, api.Edge{From: 1, To: 2, Cost: 5}), [][]int{{0, -2, 3}, {far, 0, 5}, {far, far, 0}}},
		// By Lift's heights the second edge costs 20000, which Flat refuses.
		{"an edge that is dear by heights", netOf(3, api.Edge{From: 0, To: 1, Cost: -10000}, api.Edge{From: 2, To: 1, Cost: 10000}), [][]int{{0, -10000, far}, {far, 0, far}, {far, 10000, 0}}},
		{"no walk leads here, though the edge on costs less than 0", netOf(3, api.Edge{From: 1, To: 2, Cost: -10000}), [][]int{{0, far, far}, {far, 0, -10000}, {far, far, 0}}},
	} {
		if l, e := All(x.g); !slices.EqualFunc(l, x.want, slices.Equal) || e != api.OK {
			t.Error(x.name, l, e)
		}
	}
}

func TestAllOf64(t *testing.T) {
	for _, cost := range []int{-api.MaxCost, -1, 0, 1, api.MaxCost} {
		l, e := All(chain(64, cost))
		if len(l) != 64 || e != api.OK {
			t.Fatal(cost, len(l), e)
		}
		for from, row := range l {
			want := append(slices.Repeat([]int{api.Far}, from), rising(64-from, 0, cost)...)
			if !slices.Equal(row, want) {
				t.Error(cost, from, row)
			}
		}
	}
}

func TestAllOfWhatIsDearByHeights(t *testing.T) {
	g := chain(63, -api.MaxCost)
	g.N = 64
	g.Edges = append(g.Edges, api.Edge{From: 63, To: 62, Cost: api.MaxCost}, api.Edge{From: 62, To: 63, Cost: api.MaxCost})
	h, _ := Lift(g)
	if f, e := Flat(g, h); !isZero(f) || e != api.ErrLarge {
		t.Error("by Lift's heights no edge is dear", f, e)
	}
	l, e := All(g)
	if e != api.OK || l[63][62] != api.MaxCost || l[0][62] != -62*api.MaxCost || l[0][63] != -61*api.MaxCost || l[63][0] != api.Far {
		t.Error(l, e)
	}
}

// many are nets of all sizes, with few edges and with many, most of them with edges below 0, some with bad cycles.
func many() []api.Net {
	var l []api.Net
	for _, n := range []int{1, 2, 3, 4, 5, 8, 20, 64} {
		for _, edges := range []int{0, 1, n - 1, n, 3 * n, 600} {
			for seed := range 5 {
				l = append(l,
					scatter(n, edges, -1, 5, seed), scatter(n, edges, -3, 20, seed), scatter(n, edges, 1, 9, seed),
					falling(n, edges, seed), tilted(n, edges, 1, seed), tilted(n, edges, 9000, seed))
			}
		}
	}
	return l
}

// edgeByEdge works out what All does from each place alone.
func edgeByEdge(g api.Net) ([][]int, api.Errno) {
	rows := make([][]int, g.N)
	for from := range rows {
		row, e := bell.Dist(g, from)
		if e != api.OK {
			return nil, e
		}
		rows[from] = row
	}
	return rows, api.OK
}

// lowest answers the least of each column.
func lowest(rows [][]int) []int {
	low := slices.Clone(rows[0])
	for _, row := range rows {
		for to, cost := range row {
			low[to] = min(low[to], cost)
		}
	}
	return low
}

func TestManyNets(t *testing.T) {
	good := 0
	for i, g := range many() {
		want, wrong := edgeByEdge(g)
		if l, e := All(g); !slices.EqualFunc(l, want, slices.Equal) || e != wrong {
			t.Fatal("All", i, l, want, e)
		}
		h, e := Lift(g)
		if e != wrong {
			t.Fatal("Lift", i, h, e)
		}
		if e == api.OK {
			good++
			if !slices.Equal(h, lowest(want)) {
				t.Fatal("Lift", i, h, lowest(want))
			}
			checkFlat(t, i, g, h)
		}
	}
	if all := len(many()); good < 100 || all-good < 100 {
		t.Error("the nets are too much the same:", good, all)
	}
}

// checkFlat wants heights that leave no edge below 0: walks then cost the same but for the heights of their two ends.
func checkFlat(t *testing.T, i int, g api.Net, h []int) {
	f, e := Flat(g, h)
	if e == api.ErrLarge {
		return
	}
	if e != api.OK || net.Check(f) != api.OK {
		t.Fatal(i, f, e)
	}
	flat, _ := All(f)
	rows, _ := All(g)
	for from, row := range flat {
		for to, cost := range row {
			want := rows[from][to]
			if want != api.Far {
				want += h[from] - h[to]
			}
			if cost != want || cost < 0 {
				t.Fatal(i, from, to, cost, want)
			}
		}
	}
}

func TestItCostsTheSameAsPlaceByPlace(t *testing.T) {
	for w := 1; w <= api.MaxSide; w++ {
		ground := api.Grid{W: w, H: 9 - w}
		for i := range w * (9 - w) {
			ground.Cells = append(ground.Cells, (i*i+3*i+w)%4)
		}
		g, _ := net.Of(ground)
		l, e := All(g)
		if len(l) != g.N || e != api.OK {
			t.Fatal(w, l, e)
		}
		for from, row := range l {
			if want, _ := dijk.Dist(g, from); !slices.Equal(row, want) {
				t.Error(w, from, row, want)
			}
		}
	}
}

// spoil writes over l and the room behind it.
func spoil(l []int) {
	l = l[:cap(l)]
	for i := range l {
		l[i] = -77
	}
}

func spoilEdges(l []api.Edge) {
	l = l[:cap(l)]
	for i := range l {
		l[i] = api.Edge{From: -77, To: -77, Cost: -77}
	}
}

func TestWhatIsHandedInStays(t *testing.T) {
	edges := []api.Edge{{From: 0, To: 1, Cost: -2}, {From: 1, To: 2, Cost: 3}, {From: 2, To: 3, Cost: -1}, {From: 2, To: 0, Cost: -1}, {From: 3, To: 3, Cost: -1}, {From: 9, To: 9, Cost: 9}, {From: 0, To: 3, Cost: 1}}
	room := []int{0, -2, 0, -1, 5, api.MaxLift + 1, 7}
	wasEdges, was := slices.Clone(edges), slices.Clone(room)
	for n := range len(edges) + 1 {
		g := netOf(4, edges[:n]...)
		l, _ := Lift(g)
		spoil(l)
		rows, _ := All(g)
		for _, row := range rows {
			spoil(row)
		}
		for m := range len(room) + 1 {
			f, _ := Flat(g, room[:m])
			spoilEdges(f.Edges)
		}
		if g.N != 4 || !slices.Equal(edges, wasEdges) || !slices.Equal(room, was) {
			t.Error(n, edges, room)
		}
	}
}

func TestRowsShareNothing(t *testing.T) {
	for _, g := range []api.Net{netOf(3), chain(64, -5), scatter(20, 60, 0, 9, 3)} {
		want, _ := edgeByEdge(g)
		rows, _ := All(g)
		for from := range rows {
			spoil(rows[from])
			for rest := from + 1; rest < len(rows); rest++ {
				if !slices.Equal(rows[rest], want[rest]) {
					t.Fatal(g.N, from, rest, rows[rest])
				}
			}
		}
		if again, e := All(g); !slices.EqualFunc(again, want, slices.Equal) || e != api.OK {
			t.Error(g.N, again, e)
		}
	}
}

func TestWhatIsAnsweredStays(t *testing.T) {
	g := netOf(2, api.Edge{From: 0, To: 1, Cost: -2}, api.Edge{From: 1, To: 0, Cost: 6})
	low := []int{0, -2}
	h, _ := Lift(g)
	f, _ := Flat(g, low)
	rows, _ := All(g)
	otherH, _ := Lift(g)
	otherF, _ := Flat(g, low)
	otherRows, _ := All(g)
	spoil(otherH)
	spoilEdges(otherF.Edges)
	spoil(otherRows[0])
	spoil(low)
	spoilEdges(g.Edges)
	want := []api.Edge{{From: 0, To: 1, Cost: 0}, {From: 1, To: 0, Cost: 4}}
	if !slices.Equal(h, []int{0, -2}) || f.N != 2 || !slices.Equal(f.Edges, want) || !slices.EqualFunc(rows, [][]int{{0, -2}, {6, 0}}, slices.Equal) {
		t.Error(h, f, rows)
	}
}
