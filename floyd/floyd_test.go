package floyd

import (
	"math"
	"slices"
	"testing"

	"fellwalker/api"
	"fellwalker/bell"
	"fellwalker/dijk"
	"fellwalker/john"
	"fellwalker/net"
)

const far = api.Far

func netOf(n int, edges ...api.Edge) api.Net { return api.Net{N: n, Edges: edges} }

// chain is a net of n places in which each leads to the next.
func chain(n, cost int) api.Net {
	g := api.Net{N: n}
	for v := range n - 1 {
		g.Edges = append(g.Edges, api.Edge{From: v, To: v + 1, Cost: cost})
	}
	return g
}

// round is a chain whose last place leads to the first at that cost.
func round(n, cost, last int) api.Net {
	g := chain(n, cost)
	g.Edges = append(g.Edges, api.Edge{From: n - 1, To: 0, Cost: last})
	return g
}

// thick are 600 edges between 64 places, from each to itself and to the next ones, all at that cost.
func thick(cost int) api.Net {
	g := api.Net{N: 64}
	for i := range 600 {
		g.Edges = append(g.Edges, api.Edge{From: i % 64, To: (i%64 + i/64) % 64, Cost: cost})
	}
	return g
}

// renamed has the edges of g in the other order, and its places by the other end.
func renamed(g api.Net) api.Net {
	r := api.Net{N: g.N}
	for _, d := range slices.Backward(g.Edges) {
		r.Edges = append(r.Edges, api.Edge{From: g.N - 1 - d.From, To: g.N - 1 - d.To, Cost: d.Cost})
	}
	return r
}

// scatter makes a net whose edges hang on seed, with costs from least to most.
func scatter(n, edges, least, most, seed int) api.Net {
	g := api.Net{N: n}
	x := uint32(seed*2654435761 + 12345)
	next := func(below int) int {
		x = x*1664525 + 1013904223
		return int(x>>8) % below
	}
	for range edges {
		g.Edges = append(g.Edges, api.Edge{From: next(n), To: next(n), Cost: least + next(most-least+1)})
	}
	return g
}

// tilted is scatter's net of costs from 0 on, by heights that give it edges below 0, but no bad cycle.
func tilted(n, edges, most, seed int) api.Net {
	g := scatter(n, edges, 0, most, seed)
	for i, d := range g.Edges {
		g.Edges[i].Cost += d.From*d.From*37%101 - d.To*d.To*37%101
	}
	return g
}

// many are nets of all sizes, with few edges and with many, most of them with edges below 0, some with bad cycles.
func many() []api.Net {
	var l []api.Net
	for _, n := range []int{1, 2, 3, 4, 5, 8, 20, 64} {
		for _, edges := range []int{0, 1, n - 1, n, 3 * n, 600} {
			for seed := range 4 {
				l = append(l,
					scatter(n, edges, -1, 5, seed), scatter(n, edges, -3, 20, seed), scatter(n, edges, 1, 9, seed),
					scatter(n, edges, -api.MaxCost, api.MaxCost, seed), tilted(n, edges, 1, seed), tilted(n, edges, 9000, seed))
			}
		}
	}
	return l
}

func alike[T comparable](a, b [][]T) bool { return slices.EqualFunc(a, b, slices.Equal) }

// wrongNets are nets that net.Check refuses, most of them with a bad cycle.
func wrongNets() []api.Net {
	good := api.Edge{From: 0, To: 1, Cost: -1}
	bad := api.Edge{From: 0, To: 0, Cost: -1}
	return []api.Net{
		{}, netOf(-1), netOf(65), netOf(65, bad), netOf(math.MaxInt), netOf(math.MinInt), netOf(0, bad),
		netOf(65, slices.Repeat([]api.Edge{bad}, 601)...), netOf(0, slices.Repeat([]api.Edge{bad}, 601)...),
		netOf(2, slices.Repeat([]api.Edge{good}, 601)...), netOf(2, slices.Repeat([]api.Edge{bad}, 601)...),
		netOf(2, slices.Repeat([]api.Edge{{From: 2}}, 601)...), netOf(2, append(slices.Repeat([]api.Edge{bad}, 599), api.Edge{To: 2})...),
		netOf(2, api.Edge{From: 2, Cost: 1}), netOf(2, good, api.Edge{To: -1, Cost: 1}), netOf(2, bad, api.Edge{To: 2}),
		netOf(64, bad, api.Edge{From: 64}), netOf(64, bad, api.Edge{To: math.MaxInt}), netOf(64, bad, api.Edge{From: math.MinInt}),
		netOf(2, api.Edge{Cost: api.MaxCost + 1}), netOf(2, bad, api.Edge{Cost: -api.MaxCost - 1}),
		netOf(2, api.Edge{To: 1, Cost: math.MinInt}), netOf(2, api.Edge{To: 1, Cost: math.MaxInt}),
		netOf(2, api.Edge{Cost: api.MaxCost + 1}, api.Edge{From: 2}), netOf(2, api.Edge{From: 2}, api.Edge{Cost: api.MaxCost + 1}),
		netOf(2, api.Edge{To: 2, Cost: api.MaxCost + 1}),
	}
}

func TestTheNetsErrorIsToldFirst(t *testing.T) {
	for i, g := range wrongNets() {
		want := net.Check(g)
		if want == api.OK {
			t.Error(i, "is not wrong")
		}
		if l, e := All(g); l != nil || e != want {
			t.Error("All", i, l, e)
		}
		if l, e := Wide(g); l != nil || e != want {
			t.Error("Wide", i, l, e)
		}
		if l, e := Reach(g); l != nil || e != want {
			t.Error("Reach", i, l, e)
		}
	}
}

func TestABadCycleIsRefusedByAllAlone(t *testing.T) {
	for _, x := range []struct {
		name string
		g    api.Net
	}{
		{"an edge to itself", netOf(1, api.Edge{Cost: -1})},
		{"the last of 64 to itself", netOf(64, api.Edge{From: 63, To: 63, Cost: -1})},
		{"several edges to itself, one below 0", netOf(2, api.Edge{From: 1, To: 1, Cost: 5}, api.Edge{From: 1, To: 1, Cost: -1}, api.Edge{From: 1, To: 1})},
		{"2 less 3", netOf(2, api.Edge{From: 0, To: 1, Cost: 2}, api.Edge{From: 1, To: 0, Cost: -3})},
		{"of several edges one makes it bad", netOf(2, api.Edge{From: 0, To: 1, Cost: 3}, api.Edge{From: 0, To: 1, Cost: 2}, api.Edge{From: 1, To: 0, Cost: -3})},
		{"that no walk leads to from 0", netOf(4, api.Edge{From: 0, To: 1, Cost: 2}, api.Edge{From: 2, To: 3, Cost: -2}, api.Edge{From: 3, To: 2, Cost: 1})},
		{"that leads to 0 alone", netOf(2, api.Edge{From: 1, To: 0, Cost: api.MaxCost}, api.Edge{From: 1, To: 1, Cost: -1})},
		{"all of 64", round(64, 0, -1)},
		{"all of 64, just below 0", round(64, -100, 6299)},
		{"all of 64, each below 0", round(64, -api.MaxCost, -api.MaxCost)},
		{"many of 64, each far below 0", thick(-api.MaxCost)},
		{"many of 64, each just below 0", thick(-1)},
		{"many of 64, each 8192 below 0", thick(-8192)},
	} {
		for _, g := range []api.Net{x.g, renamed(x.g)} {
			if l, e := All(g); l != nil || e != api.ErrCycle {
				t.Error("All", x.name, l, e)
			}
			if l, e := Wide(g); !alike(l, widest(g)) || e != api.OK {
				t.Error("Wide", x.name, l, e)
			}
			if l, e := Reach(g); !alike(l, reached(g, -far)) || e != api.OK {
				t.Error("Reach", x.name, l, e)
			}
		}
	}
}

// answers are nets, and what All, Wide and Reach must answer of each.
var answers = []struct {
	name  string
	g     api.Net
	all   [][]int
	wide  [][]int
	reach [][]bool
}{
	{"one place", netOf(1), [][]int{{0}}, [][]int{{far}}, [][]bool{{true}}},
	{"an edge to itself for 0", netOf(1, api.Edge{}), [][]int{{0}}, [][]int{{far}}, [][]bool{{true}}},
	{"edges to itself above 0", netOf(1, api.Edge{Cost: 7}, api.Edge{Cost: api.MaxCost}), [][]int{{0}}, [][]int{{far}}, [][]bool{{true}}},
	{"no edge", netOf(3),
		[][]int{{0, far, far}, {far, 0, far}, {far, far, 0}},
		[][]int{{far, -far, -far}, {-far, far, -far}, {-far, -far, far}},
		[][]bool{{true, false, false}, {false, true, false}, {false, false, true}}},
	{"one edge, one way", netOf(2, api.Edge{From: 1, To: 0, Cost: 5}),
		[][]int{{0, far}, {5, 0}}, [][]int{{far, -far}, {5, far}}, [][]bool{{true, false}, {true, true}}},
	{"one edge for 0", netOf(2, api.Edge{From: 0, To: 1}),
		[][]int{{0, 0}, {far, 0}}, [][]int{{far, 0}, {-far, far}}, [][]bool{{true, true}, {false, true}}},
	{"one edge below 0", netOf(2, api.Edge{From: 0, To: 1, Cost: -api.MaxCost}),
		[][]int{{0, -10000}, {far, 0}}, [][]int{{far, -10000}, {-far, far}}, [][]bool{{true, true}, {false, true}}},
	{"several edges", netOf(2, api.Edge{From: 0, To: 1, Cost: 3}, api.Edge{From: 0, To: 1, Cost: -6}, api.Edge{From: 0, To: 1, Cost: 8}, api.Edge{From: 0, To: 1, Cost: 1}),
		[][]int{{0, -6}, {far, 0}}, [][]int{{far, 8}, {-far, far}}, [][]bool{{true, true}, {false, true}}},
	{"several edges below 0", netOf(2, api.Edge{From: 0, To: 1, Cost: -3}, api.Edge{From: 0, To: 1, Cost: -6}, api.Edge{From: 0, To: 1, Cost: -2}, api.Edge{From: 0, To: 1, Cost: -4}),
		[][]int{{0, -6}, {far, 0}}, [][]int{{far, -2}, {-far, far}}, [][]bool{{true, true}, {false, true}}},
	{"round it costs less and bears more", netOf(3, api.Edge{From: 0, To: 2, Cost: -3}, api.Edge{From: 0, To: 1, Cost: -2}, api.Edge{From: 1, To: 2, Cost: -2}),
		[][]int{{0, -2, -4}, {far, 0, -2}, {far, far, 0}}, [][]int{{far, -2, -2}, {-far, far, -2}, {-far, -far, far}},
		[][]bool{{true, true, true}, {false, true, true}, {false, false, true}}},
	{"round it costs more and bears more", netOf(3, api.Edge{From: 0, To: 2, Cost: 4}, api.Edge{From: 0, To: 1, Cost: 9}, api.Edge{From: 1, To: 2, Cost: 5}),
		[][]int{{0, 9, 4}, {far, 0, 5}, {far, far, 0}}, [][]int{{far, 9, 5}, {-far, far, 5}, {-far, -far, far}},
		[][]bool{{true, true, true}, {false, true, true}, {false, false, true}}},
	{"straight it costs more and bears more", netOf(3, api.Edge{From: 0, To: 2, Cost: 9}, api.Edge{From: 0, To: 1, Cost: 4}, api.Edge{From: 1, To: 2, Cost: 2}),
		[][]int{{0, 4, 6}, {far, 0, 2}, {far, far, 0}}, [][]int{{far, 4, 9}, {-far, far, 2}, {-far, -far, far}},
		[][]bool{{true, true, true}, {false, true, true}, {false, false, true}}},
	{"a round trip that costs just 0", netOf(3, api.Edge{From: 0, To: 1, Cost: 7}, api.Edge{From: 1, To: 2, Cost: -9}, api.Edge{From: 2, To: 0, Cost: 2}),
		[][]int{{0, 7, -2}, {-7, 0, -9}, {2, 9, 0}}, [][]int{{far, 7, -9}, {-9, far, -9}, {2, 2, far}},
		[][]bool{{true, true, true}, {true, true, true}, {true, true, true}}},
	{"no walk leads here, though the edge on costs less than 0", netOf(3, api.Edge{From: 1, To: 2, Cost: -10000}),
		[][]int{{0, far, far}, {far, 0, -10000}, {far, far, 0}}, [][]int{{far, -far, -far}, {-far, far, -10000}, {-far, -far, far}},
		[][]bool{{true, false, false}, {false, true, true}, {false, false, true}}},
	{"the least and the greatest cost, one behind the other", netOf(3, api.Edge{From: 2, To: 0, Cost: 10000}, api.Edge{From: 0, To: 1, Cost: -10000}),
		[][]int{{0, -10000, far}, {far, 0, far}, {10000, 0, 0}}, [][]int{{far, -10000, -far}, {-far, far, -far}, {10000, -10000, far}},
		[][]bool{{true, true, false}, {false, true, false}, {true, true, true}}},
}

func TestAnswers(t *testing.T) {
	for _, x := range answers {
		if l, e := All(x.g); !alike(l, x.all) || e != api.OK {
			t.Error("All", x.name, l, e)
		}
		if l, e := Wide(x.g); !alike(l, x.wide) || e != api.OK {
			t.Error("Wide", x.name, l, e)
		}
		if l, e := Reach(x.g); !alike(l, x.reach) || e != api.OK {
			t.Error("Reach", x.name, l, e)
		}
	}
}

// checkChain holds what is answered of a chain of 64, each edge at that cost, against it place by place.
func checkChain(t *testing.T, cost int) {
	g := chain(64, cost)
	all, e1 := All(g)
	wide, e2 := Wide(g)
	reach, e3 := Reach(g)
	if len(all) != 64 || len(wide) != 64 || len(reach) != 64 || e1 != api.OK || e2 != api.OK || e3 != api.OK {
		t.Fatal(cost, len(all), len(wide), len(reach), e1, e2, e3)
	}
	for from := range 64 {
		for to := range 64 {
			wantAll, wantWide := far, -far
			switch {
			case from == to:
				wantAll, wantWide = 0, far
			case from < to:
				wantAll, wantWide = (to-from)*cost, cost
			}
			if all[from][to] != wantAll || wide[from][to] != wantWide || reach[from][to] != (from <= to) {
				t.Fatal(cost, from, to, all[from][to], wide[from][to], reach[from][to])
			}
		}
	}
}

func TestChainsOf64(t *testing.T) {
	for _, cost := range []int{-api.MaxCost, -1, 0, 1, api.MaxCost} {
		checkChain(t, cost)
	}
}

func TestSumStaysInBounds(t *testing.T) {
	for _, x := range [][3]int{
		{2, -3, -1}, {0, 0, 0}, {far, 0, far}, {0, far, far}, {far, -5, far}, {-5, far, far}, {far, far, far}, {far, -far, far},
		{-far, 0, -far}, {-far, -far, -far}, {1 - far, -1, -far}, {1 - far, -2, -far}, {1 - far, 0, 1 - far}, {-far, 1, 1 - far},
	} {
		if c := sum(x[0], x[1]); c != x[2] {
			t.Error(x, c)
		}
	}
}

func TestOf64WithoutAnEdge(t *testing.T) {
	g := netOf(64)
	all, e1 := All(g)
	wide, e2 := Wide(g)
	reach, e3 := Reach(g)
	if e1 != api.OK || e2 != api.OK || e3 != api.OK || len(all) != 64 || len(wide) != 64 || len(reach) != 64 {
		t.Fatal(e1, e2, e3, len(all), len(wide), len(reach))
	}
	for from := range 64 {
		wantAll, wantWide, wantReach := slices.Repeat([]int{far}, 64), slices.Repeat([]int{-far}, 64), make([]bool, 64)
		wantAll[from], wantWide[from], wantReach[from] = 0, far, true
		if !slices.Equal(all[from], wantAll) || !slices.Equal(wide[from], wantWide) || !slices.Equal(reach[from], wantReach) {
			t.Error(from, all[from], wide[from], reach[from])
		}
	}
}

func TestOneWideWalkAmong600(t *testing.T) {
	g := thick(-5)
	g.Edges = append(g.Edges[:600-64], round(64, 3, 2).Edges...)
	l, e := Wide(g)
	if len(g.Edges) != 600 || len(l) != 64 || e != api.OK {
		t.Fatal(len(g.Edges), len(l), e)
	}
	for from := range 64 {
		for to := range 64 {
			want := 3
			if to < from {
				want = 2
			}
			if to == from {
				want = far
			}
			if l[from][to] != want {
				t.Error(from, to, l[from][to], want)
			}
		}
	}
}

// reached works out place by place where walks lead over edges that cost least or more.
func reached(g api.Net, least int) [][]bool {
	rows := make([][]bool, g.N)
	for from := range rows {
		rows[from] = make([]bool, g.N)
		rows[from][from] = true
		for list := []int{from}; len(list) > 0; list = list[1:] {
			for _, d := range g.Edges {
				if d.From == list[0] && d.Cost >= least && !rows[from][d.To] {
					rows[from][d.To] = true
					list = append(list, d.To)
				}
			}
		}
	}
	return rows
}

// widest works out what Wide does from each place alone, the edges that cost most ahead.
func widest(g api.Net) [][]int {
	edges := slices.Clone(g.Edges)
	slices.SortFunc(edges, func(a, b api.Edge) int { return b.Cost - a.Cost })
	rows := make([][]int, g.N)
	for from := range rows {
		rows[from] = slices.Repeat([]int{-far}, g.N)
		rows[from][from] = far
		for {
			// The first edge that leads on from what is reached is the widest that does.
			i := slices.IndexFunc(edges, func(d api.Edge) bool { return rows[from][d.From] != -far && rows[from][d.To] == -far })
			if i < 0 {
				break
			}
			rows[from][edges[i].To] = min(rows[from][edges[i].From], edges[i].Cost)
		}
	}
	return rows
}

// edgeByEdge works out what All does from each place alone.
func edgeByEdge(g api.Net) ([][]int, api.Errno) {
	rows := make([][]int, g.N)
	for from := range rows {
		row, e := bell.Dist(g, from)
		if e != api.OK {
			return nil, e
		}
		rows[from] = row
	}
	return rows, api.OK
}

func TestManyNets(t *testing.T) {
	good, bad := 0, 0
	for i, g := range many() {
		want, wrong := edgeByEdge(g)
		byHeights, e := john.All(g)
		if !alike(byHeights, want) || e != wrong {
			t.Fatal("john.All", i, byHeights, want, e)
		}
		if l, e := All(g); !alike(l, want) || e != wrong || e != api.OK && l != nil {
			t.Fatal("All", i, l, want, e)
		}
		if l, e := Wide(g); !alike(l, widest(g)) || e != api.OK {
			t.Fatal("Wide", i, l, widest(g), e)
		}
		if l, e := Reach(g); !alike(l, reached(g, -far)) || e != api.OK {
			t.Fatal("Reach", i, l, reached(g, -far), e)
		}
		if wrong == api.OK {
			good++
		} else {
			bad++
		}
	}
	if good < 100 || bad < 100 {
		t.Error("the nets are too much the same:", good, bad)
	}
}

func TestWideIsTheGreatestNumberThatHolds(t *testing.T) {
	for i, g := range many() {
		if g.N > 8 {
			continue
		}
		l, e := Wide(g)
		if len(l) != g.N || e != api.OK {
			t.Fatal(i, l, e)
		}
		for from, row := range l {
			for to, w := range row {
				if from == to {
					continue
				}
				if w != -far && !reached(g, w)[from][to] || reached(g, w+1)[from][to] {
					t.Fatal(i, from, to, w)
				}
			}
		}
	}
}

func TestTheOrderOfEdgesAndPlacesDoesNotCount(t *testing.T) {
	for i, g := range many() {
		a, e := All(g)
		b, f := All(renamed(g))
		if e != f || e == api.OK && !alike(a, mirrored(b)) {
			t.Fatal("All", i, a, b, e, f)
		}
		a, _ = Wide(g)
		b, _ = Wide(renamed(g))
		if !alike(a, mirrored(b)) {
			t.Fatal("Wide", i, a, b)
		}
		c, _ := Reach(g)
		d, _ := Reach(renamed(g))
		if !alike(c, mirrored(d)) {
			t.Fatal("Reach", i, c, d)
		}
	}
}

// mirrored has the last row first, and of each row the last first.
func mirrored[T any](rows [][]T) [][]T {
	var m [][]T
	for _, row := range slices.Backward(rows) {
		row = slices.Clone(row)
		slices.Reverse(row)
		m = append(m, row)
	}
	return m
}

func TestItCostsTheSameAsPlaceByPlace(t *testing.T) {
	for w := 1; w <= api.MaxSide; w++ {
		ground := api.Grid{W: w, H: 9 - w}
		for i := range w * (9 - w) {
			ground.Cells = append(ground.Cells, (i*i+3*i+w)%4)
		}
		g, _ := net.Of(ground)
		l, e := All(g)
		if len(l) != g.N || e != api.OK {
			t.Fatal(w, l, e)
		}
		for from, row := range l {
			if want, _ := dijk.Dist(g, from); !slices.Equal(row, want) {
				t.Error(w, from, row, want)
			}
		}
	}
}

// spoil writes x over l and the room behind it.
func spoil[T any](l []T, x T) {
	l = l[:cap(l)]
	for i := range l {
		l[i] = x
	}
}

func TestWhatIsHandedInStays(t *testing.T) {
	edges := []api.Edge{{From: 0, To: 1, Cost: -2}, {From: 1, To: 2, Cost: 3}, {From: 2, To: 3, Cost: -1}, {From: 2, To: 0, Cost: -1}, {From: 3, To: 3, Cost: -1}, {From: 9, To: 9, Cost: 9}, {From: 0, To: 3, Cost: 1}}
	was := slices.Clone(edges)
	for n := range len(edges) + 1 {
		g := netOf(4, edges[:n]...)
		all, _ := All(g)
		wide, _ := Wide(g)
		for _, row := range append(all, wide...) {
			spoil(row, -77)
		}
		reach, _ := Reach(g)
		for _, row := range reach {
			spoil(row, true)
		}
		if g.N != 4 || !slices.Equal(edges, was) {
			t.Error(n, edges)
		}
	}
}

// checkRows spoils the rows that f answers of g one by one, and wants those behind, and a new answer, as they were.
func checkRows[T comparable](t *testing.T, name string, g api.Net, f func(api.Net) ([][]T, api.Errno), want [][]T, x T) {
	rows, e := f(g)
	if !alike(rows, want) || e != api.OK {
		t.Fatal(name, g.N, rows, e)
	}
	for from := range rows {
		spoil(rows[from], x)
		if !alike(rows[from+1:], want[from+1:]) {
			t.Fatal(name, g.N, from, rows)
		}
	}
	spoil(rows, nil)
	if again, e := f(g); !alike(again, want) || e != api.OK {
		t.Error(name, g.N, again, e)
	}
}

func TestRowsShareNothing(t *testing.T) {
	for _, g := range []api.Net{netOf(1), netOf(3), chain(64, -5), scatter(20, 60, 0, 9, 3), tilted(64, 600, 9, 2)} {
		costs, _ := edgeByEdge(g)
		checkRows(t, "All", g, All, costs, -77)
		checkRows(t, "Wide", g, Wide, widest(g), -77)
		checkRows(t, "Reach", g, Reach, reached(g, -far), true)
		checkRows(t, "Reach", g, Reach, reached(g, -far), false)
	}
}

func TestWhatIsAnsweredStays(t *testing.T) {
	g := netOf(3, api.Edge{From: 0, To: 1, Cost: -2}, api.Edge{From: 1, To: 0, Cost: 6})
	all, _ := All(g)
	wide, _ := Wide(g)
	reach, _ := Reach(g)
	spoil(g.Edges, api.Edge{From: 2, To: 0, Cost: 1})
	if !alike(all, [][]int{{0, -2, far}, {6, 0, far}, {far, far, 0}}) ||
		!alike(wide, [][]int{{far, -2, -far}, {6, far, -far}, {-far, -far, far}}) ||
		!alike(reach, [][]bool{{true, true, false}, {true, true, false}, {false, false, true}}) {
		t.Error(all, wide, reach)
	}
	if l, e := All(g); !alike(l, [][]int{{0, far, far}, {far, 0, far}, {1, far, 0}}) || e != api.OK {
		t.Error("the net of now has one edge, from 2", l, e)
	}
}
