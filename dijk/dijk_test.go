package dijk

import (
	"math"
	"slices"
	"testing"

	"fellwalker/api"
	"fellwalker/net"
	"fellwalker/walk"
)

func netOf(n int, edges ...api.Edge) api.Net { return api.Net{N: n, Edges: edges} }

func isZero(w api.Way) bool { return w.Path == nil && w.Cost == 0 }

// chain is a net of n places in which each leads to the next.
func chain(n, cost int) api.Net {
	g := api.Net{N: n}
	for v := range n - 1 {
		g.Edges = append(g.Edges, api.Edge{From: v, To: v + 1, Cost: cost})
	}
	return g
}

// some has several edges between two places, an edge to itself, and two places that no walk from 0 leads to.
func some() api.Net {
	return netOf(6,
		api.Edge{From: 0, To: 3, Cost: 9}, api.Edge{From: 0, To: 1, Cost: 8}, api.Edge{From: 0, To: 1, Cost: 2}, api.Edge{From: 0, To: 1, Cost: 3},
		api.Edge{From: 1, To: 3, Cost: 4}, api.Edge{From: 1, To: 1, Cost: 1}, api.Edge{From: 3, To: 2, Cost: 1}, api.Edge{From: 2, To: 0, Cost: 5},
		api.Edge{From: 4, To: 0, Cost: 1}, api.Edge{From: 4, To: 5, Cost: 7}, api.Edge{From: 5, To: 4, Cost: 6})
}

// scatter makes a net whose edges hang on seed, with costs from 1 to most.
func scatter(n, edges, most, seed int) api.Net {
	g := api.Net{N: n}
	x := uint32(seed*2654435761 + 12345)
	next := func(below int) int {
		x = x*1664525 + 1013904223
		return int(x>>8) % below
	}
	for range edges {
		g.Edges = append(g.Edges, api.Edge{From: next(n), To: next(n), Cost: 1 + next(most)})
	}
	return g
}

// wrongNets are nets that net.Pos refuses.
func wrongNets() []api.Net {
	good := api.Edge{From: 0, To: 1, Cost: 1}
	return []api.Net{
		{}, netOf(-1), netOf(65), netOf(math.MaxInt), netOf(math.MinInt),
		netOf(2, slices.Repeat([]api.Edge{good}, 601)...),
		netOf(2, api.Edge{From: 2, Cost: 1}), netOf(2, good, api.Edge{To: -1, Cost: 1}),
		netOf(2, api.Edge{Cost: api.MaxCost + 1}), netOf(2, api.Edge{Cost: -api.MaxCost - 1}),
		netOf(2, good, api.Edge{From: 0, To: 1, Cost: 0}), netOf(2, good, api.Edge{From: 1, To: 0, Cost: -1}), netOf(1, api.Edge{}),
		netOf(2, api.Edge{}, api.Edge{From: 2, Cost: 1}),
	}
}

func TestLook(t *testing.T) {
	for _, x := range []struct {
		name   string
		g      api.Net
		places []int
		want   api.Errno
	}{
		{"no place asked", some(), nil, api.OK},
		{"the first", some(), []int{0}, api.OK},
		{"all, and some twice", some(), []int{5, 4, 3, 2, 1, 0, 0, 5}, api.OK},
		{"the only one", netOf(1), []int{0}, api.OK},
		{"the last of 64", netOf(64), []int{63}, api.OK},
		{"more than there are", netOf(2), make([]int, 1000), api.OK},
		{"below 0", some(), []int{-1}, api.ErrArg},
		{"beyond the last", some(), []int{6}, api.ErrArg},
		{"1 of 1", netOf(1), []int{1}, api.ErrArg},
		{"64 of 64", netOf(64), []int{64}, api.ErrArg},
		{"the first of three", some(), []int{6, 0, 1}, api.ErrArg},
		{"the second of three", some(), []int{0, -1, 1}, api.ErrArg},
		{"the third of three", some(), []int{0, 1, 6}, api.ErrArg},
		{"far below", some(), []int{math.MinInt}, api.ErrArg},
		{"far beyond", some(), []int{0, math.MaxInt}, api.ErrArg},
		{"an edge of 0", netOf(2, api.Edge{}), []int{0, 1}, api.ErrCost},
		{"an edge of 0, no place asked", netOf(2, api.Edge{}), nil, api.ErrCost},
		{"an edge of 0 ahead of no place", netOf(2, api.Edge{}), []int{2}, api.ErrCost},
	} {
		if e := Look(x.g, x.places...); e != x.want {
			t.Error(x.name, e)
		}
	}
}

func TestTheNetsErrorIsToldFirst(t *testing.T) {
	for i, g := range wrongNets() {
		want := net.Pos(g)
		if want == api.OK {
			t.Error(i, "is not wrong")
		}
		if e := Look(g); e != want {
			t.Error("Look", i, e)
		}
		for _, v := range []int{-1, 0, 1, 64, math.MaxInt} {
			if e := Look(g, v, 0); e != want {
				t.Error("Look", i, v, e)
			}
			if l, e := Dist(g, v); l != nil || e != want {
				t.Error("Dist", i, v, l, e)
			}
			for _, to := range []int{-1, 0, 1, v} {
				if w, e := Way(g, v, to); !isZero(w) || e != want {
					t.Error("Way", i, v, to, w, e)
				}
			}
		}
	}
}

func TestNoPlaceIsRefused(t *testing.T) {
	for _, g := range []api.Net{netOf(1), netOf(1, api.Edge{Cost: 1}), some(), netOf(64), chain(64, 3)} {
		for _, v := range []int{-1, g.N, g.N + 1, math.MinInt, math.MaxInt} {
			if l, e := Dist(g, v); l != nil || e != api.ErrArg {
				t.Error("Dist", g.N, v, l, e)
			}
			for _, other := range []int{0, g.N - 1, v} {
				if w, e := Way(g, v, other); !isZero(w) || e != api.ErrArg {
					t.Error("Way from", g.N, v, other, w, e)
				}
				if w, e := Way(g, other, v); !isZero(w) || e != api.ErrArg {
					t.Error("Way to", g.N, v, other, w, e)
				}
			}
		}
	}
}

func TestDist(t *testing.T) {
	for _, x := range []struct {
		name string
		g    api.Net
		from int
		want []int
	}{
		{"one place", netOf(1), 0, []int{0}},
		{"one place with an edge to itself", netOf(1, api.Edge{Cost: 4}), 0, []int{0}},
		{"no edge", netOf(3), 1, []int{api.Far, 0, api.Far}},
		{"over a place", some(), 0, []int{0, 2, 7, 6, api.Far, api.Far}},
		{"with nothing but an edge to itself and one out", some(), 1, []int{10, 0, 5, 4, api.Far, api.Far}},
		{"round to the one ahead", some(), 3, []int{6, 8, 1, 0, api.Far, api.Far}},
		{"to all", some(), 5, []int{7, 9, 14, 13, 6, 0}},
		{"the wrong way", netOf(2, api.Edge{From: 1, To: 0, Cost: 1}), 0, []int{0, api.Far}},
		{"many small ones below one", netOf(4, api.Edge{From: 0, To: 3, Cost: 4}, api.Edge{From: 0, To: 1, Cost: 1}, api.Edge{From: 1, To: 2, Cost: 1}, api.Edge{From: 2, To: 3, Cost: 1}), 0, []int{0, 1, 2, 3}},
	} {
		if l, e := Dist(x.g, x.from); !slices.Equal(l, x.want) || e != api.OK {
			t.Error(x.name, l, e)
		}
	}
}

func TestDistOf64(t *testing.T) {
	for from := range 64 {
		l, e := Dist(chain(64, api.MaxCost), from)
		if len(l) != 64 || e != api.OK {
			t.Fatal(from, l, e)
		}
		for v, cost := range l {
			want := api.Far
			if v >= from {
				want = (v - from) * api.MaxCost
			}
			if cost != want {
				t.Error(from, v, cost)
			}
		}
	}
	if api.Far != 1<<40 {
		t.Error(api.Far)
	}
}

func TestWay(t *testing.T) {
	for _, x := range []struct {
		name     string
		g        api.Net
		from, to int
		path     []int
		cost     int
	}{
		{"the same place", some(), 4, 4, []int{4}, 0},
		{"the same place with an edge to itself", some(), 1, 1, []int{1}, 0},
		{"the same place on a round", some(), 0, 0, []int{0}, 0},
		{"the only place", netOf(1), 0, 0, []int{0}, 0},
		{"of several edges the least", some(), 0, 1, []int{0, 1}, 2},
		{"over a place", some(), 0, 3, []int{0, 1, 3}, 6},
		{"round", some(), 3, 1, []int{3, 2, 0, 1}, 8},
		{"from the last to the first", some(), 5, 2, []int{5, 4, 0, 1, 3, 2}, 14},
		{"64 places", chain(64, api.MaxCost), 0, 63, numbers(64), 63 * api.MaxCost},
		{"the same cost over the least place", netOf(4, api.Edge{From: 0, To: 2, Cost: 1}, api.Edge{From: 2, To: 3, Cost: 2}, api.Edge{From: 0, To: 1, Cost: 2}, api.Edge{From: 1, To: 3, Cost: 1}), 0, 3, []int{0, 1, 3}, 3},
		{"the same cost straight, from the least", netOf(3, api.Edge{From: 0, To: 1, Cost: 1}, api.Edge{From: 1, To: 2, Cost: 1}, api.Edge{From: 0, To: 2, Cost: 2}), 0, 2, []int{0, 2}, 2},
		{"the same cost straight, but from a greater", netOf(3, api.Edge{From: 2, To: 1, Cost: 2}, api.Edge{From: 2, To: 0, Cost: 1}, api.Edge{From: 0, To: 1, Cost: 1}), 2, 1, []int{2, 0, 1}, 2},
		// 0 1 4 5 comes first if lists are held against each other from their beginning, 0 2 3 5 from their end.
		{"what stands ahead of the end is chosen first", netOf(6, api.Edge{From: 0, To: 1, Cost: 1}, api.Edge{From: 1, To: 4, Cost: 1}, api.Edge{From: 4, To: 5, Cost: 1}, api.Edge{From: 0, To: 2, Cost: 1}, api.Edge{From: 2, To: 3, Cost: 1}, api.Edge{From: 3, To: 5, Cost: 1}), 0, 5, []int{0, 2, 3, 5}, 3},
		{"a lesser place that costs more does not count", netOf(4, api.Edge{From: 0, To: 1, Cost: 2}, api.Edge{From: 1, To: 3, Cost: 2}, api.Edge{From: 0, To: 2, Cost: 1}, api.Edge{From: 2, To: 3, Cost: 2}), 0, 3, []int{0, 2, 3}, 3},
		{"a lesser place that no walk leads to does not count", netOf(4, api.Edge{From: 0, To: 3, Cost: 1}, api.Edge{From: 3, To: 2, Cost: 1}, api.Edge{From: 1, To: 2, Cost: 1}), 0, 2, []int{0, 3, 2}, 2},
		{"over the least place by its dearer edge", netOf(4, api.Edge{From: 0, To: 2, Cost: 1}, api.Edge{From: 2, To: 3, Cost: 5}, api.Edge{From: 0, To: 1, Cost: 1}, api.Edge{From: 1, To: 3, Cost: 6}, api.Edge{From: 1, To: 3, Cost: 5}), 0, 3, []int{0, 1, 3}, 6},
	} {
		if w, e := Way(x.g, x.from, x.to); !slices.Equal(w.Path, x.path) || w.Cost != x.cost || e != api.OK {
			t.Error(x.name, w, e)
		}
	}
}

func numbers(n int) []int {
	l := make([]int, n)
	for i := range l {
		l[i] = i
	}
	return l
}

func TestWayTellsThatThereIsNone(t *testing.T) {
	for _, x := range []struct {
		name     string
		g        api.Net
		from, to int
	}{
		{"no edge", netOf(2), 0, 1},
		{"no edge of 64", netOf(64), 63, 0},
		{"to one that leads here alone", some(), 0, 4},
		{"to one behind that", some(), 2, 5},
		{"against the edges", chain(64, 1), 1, 0},
		{"an edge to itself alone", netOf(2, api.Edge{From: 0, To: 0, Cost: 1}, api.Edge{From: 1, To: 1, Cost: 1}), 0, 1},
	} {
		if w, e := Way(x.g, x.from, x.to); !isZero(w) || e != api.ErrNone {
			t.Error(x.name, w, e)
		}
	}
}

// edgeByEdge works out what Dist does by going through all edges as often as there are places.
func edgeByEdge(g api.Net, from int) []int {
	dist := slices.Repeat([]int{api.Far}, g.N)
	dist[from] = 0
	for range g.N {
		for _, d := range g.Edges {
			if dist[d.From] < api.Far {
				dist[d.To] = min(dist[d.To], dist[d.From]+d.Cost)
			}
		}
	}
	return dist
}

// isLeast tells whether ahead of each place of path but the first stands the least that may.
func isLeast(g api.Net, dist, path []int) bool {
	for i := 1; i < len(path); i++ {
		for _, d := range g.Edges {
			if d.To == path[i] && d.From < path[i-1] && dist[d.From]+d.Cost == dist[d.To] {
				return false
			}
		}
	}
	return true
}

// many are nets of all sizes, with few edges and with many, with costs that are often the same and with others.
func many() []api.Net {
	var l []api.Net
	for _, n := range []int{1, 2, 3, 5, 8, 20, 64} {
		for _, edges := range []int{0, n, 3 * n, 600} {
			for seed, most := range []int{1, 2, 3, 10, api.MaxCost} {
				l = append(l, scatter(n, edges, most, seed+n))
			}
		}
	}
	for w := 1; w <= api.MaxSide; w++ {
		ground := api.Grid{W: w, H: 9 - w}
		for i := range w * (9 - w) {
			ground.Cells = append(ground.Cells, (i*i+3*i+w)%4)
		}
		g, _ := net.Of(ground)
		l = append(l, g)
	}
	return l
}

func TestManyNets(t *testing.T) {
	for i, g := range many() {
		for from := range g.N {
			want := edgeByEdge(g, from)
			if l, e := Dist(g, from); !slices.Equal(l, want) || e != api.OK {
				t.Fatal(i, from, l, want, e)
			}
			for to, least := range want {
				w, e := Way(g, from, to)
				if least == api.Far {
					if !isZero(w) || e != api.ErrNone {
						t.Fatal(i, from, to, w, e)
					}
					continue
				}
				cost, wrong := walk.Cost(g, w.Path)
				if e != api.OK || wrong != api.OK || cost != least || w.Cost != least || w.Path[0] != from || w.Path[len(w.Path)-1] != to || !isLeast(g, want, w.Path) {
					t.Fatal(i, from, to, w, e, cost, least)
				}
			}
		}
	}
}

func TestTheOrderOfEdgesDoesNotCount(t *testing.T) {
	g := scatter(12, 60, 3, 4)
	turned := netOf(g.N, slices.Clone(g.Edges)...)
	slices.Reverse(turned.Edges)
	for from := range g.N {
		for to := range g.N {
			a, e := Way(g, from, to)
			b, f := Way(turned, from, to)
			if !slices.Equal(a.Path, b.Path) || a.Cost != b.Cost || e != f {
				t.Error(from, to, a, b, e, f)
			}
		}
	}
}

// spoil writes over l and the room behind it.
func spoil(l []int) {
	l = l[:cap(l)]
	for i := range l {
		l[i] = -77
	}
}

func TestWhatIsHandedInStays(t *testing.T) {
	edges := append(some().Edges, api.Edge{From: 9, To: 9, Cost: 9}, api.Edge{From: 0, To: 5, Cost: 1})
	room := []int{0, 1, 2, 3, 9, 5}
	wasEdges, was := slices.Clone(edges), slices.Clone(room)
	for _, g := range []api.Net{netOf(6, edges[:11]...), netOf(6, edges[:12]...), netOf(6, edges[2:5]...), netOf(6, edges[:0]...)} {
		for n := range room {
			Look(g, room[:n]...)
		}
		for from := -1; from <= 6; from++ {
			l, _ := Dist(g, from)
			spoil(l)
			for to := -1; to <= 6; to++ {
				w, _ := Way(g, from, to)
				spoil(w.Path)
			}
		}
		if !slices.Equal(edges, wasEdges) || !slices.Equal(room, was) {
			t.Error(edges, room)
		}
	}
}

func TestWhatIsAnsweredStays(t *testing.T) {
	g := some()
	l, _ := Dist(g, 0)
	w, _ := Way(g, 0, 3)
	otherL, _ := Dist(g, 0)
	otherW, _ := Way(g, 0, 3)
	spoil(otherL)
	spoil(otherW.Path)
	for i := range g.Edges {
		g.Edges[i] = api.Edge{From: 5, To: 5, Cost: 1}
	}
	if !slices.Equal(l, []int{0, 2, 7, 6, api.Far, api.Far}) || !slices.Equal(w.Path, []int{0, 1, 3}) || w.Cost != 6 {
		t.Error(l, w)
	}
	if l, e := Dist(g, 0); !slices.Equal(l, []int{0, api.Far, api.Far, api.Far, api.Far, api.Far}) || e != api.OK {
		t.Error("the net of now has no edge from 0", l, e)
	}
}

func TestCostsBeyondWhatDistTakes(t *testing.T) {
	g := netOf(4, api.Edge{From: 0, To: 1, Cost: 0}, api.Edge{From: 1, To: 0, Cost: 0}, api.Edge{From: 1, To: 2, Cost: 640000}, api.Edge{From: 0, To: 2, Cost: 640001}, api.Edge{From: 0, To: 0, Cost: 0})
	for from, want := range [][]int{{0, 0, 640000, api.Far}, {0, 0, 640000, api.Far}, {api.Far, api.Far, 0, api.Far}, {api.Far, api.Far, api.Far, 0}} {
		if l := Costs(g, from); !slices.Equal(l, want) {
			t.Error(from, l)
		}
	}
}
