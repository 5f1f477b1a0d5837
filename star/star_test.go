package star

import (
	"math"
	"slices"
	"testing"

	"fellwalker/api"
	"fellwalker/dijk"
	"fellwalker/heur"
	"fellwalker/net"
	"fellwalker/walk"
)

const far = api.Far

func netOf(n int, edges ...api.Edge) api.Net { return api.Net{N: n, Edges: edges} }

// edge leads from a to b.
func edge(a, b, cost int) api.Edge { return api.Edge{From: a, To: b, Cost: cost} }

// chain is a net of n places in which each leads to the next.
func chain(n, cost int) api.Net {
	g := api.Net{N: n}
	for v := range n - 1 {
		g.Edges = append(g.Edges, edge(v, v+1, cost))
	}
	return g
}

// rising are n numbers from first on, each by that step.
func rising(n, first, step int) []int {
	l := make([]int, n)
	for i := range l {
		l[i] = first + i*step
	}
	return l
}

// with answers l with x in the place of what stands at i.
func with(l []int, i, x int) []int {
	l = slices.Clone(l)
	l[i] = x
	return l
}

func found(cost int, path, order []int) api.Found {
	return api.Found{Way: api.Way{Path: path, Cost: cost}, Order: order}
}

func isZero(f api.Found) bool { return f.Way.Path == nil && f.Way.Cost == 0 && f.Order == nil }

func same(a, b api.Found) bool {
	return slices.Equal(a.Way.Path, b.Way.Path) && a.Way.Cost == b.Way.Cost && slices.Equal(a.Order, b.Order)
}

// scatter makes a net whose edges hang on seed, with costs from 1 to most.
func scatter(n, edges, most, seed int) api.Net {
	g := api.Net{N: n}
	x := uint32(seed*2654435761 + 12345)
	next := func(below int) int {
		x = x*1664525 + 1013904223
		return int(x>>8) % below
	}
	for range edges {
		g.Edges = append(g.Edges, edge(next(n), next(n), 1+next(most)))
	}
	return g
}

// many are nets of all sizes, with few edges and with many, with costs that are often the same and with others, and ground.
func many() []api.Net {
	var l []api.Net
	for _, n := range []int{1, 2, 3, 4, 5, 8, 20, 64} {
		for _, edges := range []int{0, n, 3 * n / 2, 3 * n, 600} {
			for seed := range 3 {
				for _, most := range []int{1, 3, 9, api.MaxCost} {
					l = append(l, scatter(n, edges, most, seed+n+most))
				}
			}
		}
	}
	for w := 1; w <= api.MaxSide; w++ {
		ground := api.Grid{W: w, H: 9 - w}
		for i := range w * (9 - w) {
			ground.Cells = append(ground.Cells, (i*i+3*i+w)%4)
		}
		g, _ := net.Of(ground)
		l = append(l, g)
	}
	return l
}

// least answers what it costs least from each place to to.
func least(g api.Net, to int) []int {
	back, _ := net.Turn(g)
	l, _ := dijk.Dist(back, to)
	return l
}

// guesses are of 0, just what it costs least, and between.
func guesses(g api.Net, to int) [][]int {
	costs := least(g, to)
	half, low := slices.Clone(costs), slices.Clone(costs)
	for v, c := range costs {
		half[v], low[v] = c/2, min(c, 7)
	}
	marked, _ := heur.Of(g, []int{0, g.N / 2, g.N - 1}, to)
	return [][]int{make([]int, g.N), costs, half, low, marked}
}

// byWords does what P41 says, word by word: what waits stands in a map, by its cost so far.
func byWords(g api.Net, from, to int, h []int, key func(cost, guess int) int) (api.Found, api.Errno) {
	waiting, looked, got := map[int]int{}, map[int]int{}, map[int]int{}
	if h[from] != far {
		waiting[from] = 0
	}
	var order []int
	for len(waiting) > 0 {
		at := -1
		for v := range g.N {
			cost, ok := waiting[v]
			if ok && (at < 0 || slices.Compare([]int{key(cost, h[v]), h[v], v}, []int{key(waiting[at], h[at]), h[at], at}) < 0) {
				at = v
			}
		}
		looked[at] = waiting[at]
		delete(waiting, at)
		order = append(order, at)
		if at == to {
			path := []int{to}
			for path[0] != from {
				path = slices.Insert(path, 0, got[path[0]])
			}
			return found(looked[to], path, order), api.OK
		}
		for _, d := range g.Edges {
			cost, waits := waiting[d.To]
			_, done := looked[d.To]
			if d.From == at && h[d.To] != far && !done && (!waits || cost > looked[at]+d.Cost) {
				waiting[d.To], got[d.To] = looked[at]+d.Cost, at
			}
		}
	}
	return api.Found{}, api.ErrNone
}

func together(cost, guess int) int { return cost + guess }

// wrongNets are nets that net.Pos refuses.
func wrongNets() []api.Net {
	good := edge(0, 1, 1)
	return []api.Net{
		{}, netOf(-1), netOf(65), netOf(math.MaxInt), netOf(math.MinInt), netOf(0, good),
		netOf(65, slices.Repeat([]api.Edge{good}, 601)...), netOf(2, slices.Repeat([]api.Edge{good}, 601)...),
		netOf(2, edge(2, 0, 1)), netOf(2, good, edge(0, -1, 1)), netOf(2, good, edge(math.MaxInt, math.MinInt, 1)),
		netOf(2, edge(0, 0, api.MaxCost+1)), netOf(2, good, edge(1, 0, -api.MaxCost-1)), netOf(2, edge(0, 1, math.MinInt)),
		netOf(2, good, edge(0, 1, 0)), netOf(2, good, edge(1, 0, -1)), netOf(1, edge(0, 0, 0)), netOf(2, edge(0, 0, 0), edge(2, 0, 1)),
	}
}

// refuses tells a fault if Look, or Run, answers anything but that error.
func refuses(t *testing.T, name string, g api.Net, from, to int, h []int, want api.Errno) {
	t.Helper()
	if e := Look(g, from, to, h); e != want {
		t.Error("Look", name, from, to, h, e)
	}
	if f, e := Run(g, from, to, h); !isZero(f) || e != want {
		t.Error("Run", name, from, to, h, f, e)
	}
}

func TestTheNetsErrorIsToldFirst(t *testing.T) {
	for _, g := range wrongNets() {
		want := net.Pos(g)
		if want == api.OK {
			t.Error(g, "is not wrong")
		}
		for _, h := range [][]int{nil, {0}, {0, 0}, {1, 1}, {-1, far + 1}, make([]int, 65)} {
			for _, v := range []int{-1, 0, 1, 64, math.MaxInt} {
				refuses(t, "from", g, v, 0, h, want)
				refuses(t, "to", g, 0, v, h, want)
				refuses(t, "both", g, v, v, h, want)
			}
		}
	}
}

func TestNoPlaceIsToldAheadOfTheGuesses(t *testing.T) {
	for _, g := range []api.Net{netOf(1), netOf(1, edge(0, 0, 1)), chain(5, 2), netOf(64), chain(64, 3)} {
		for _, v := range []int{-1, g.N, g.N + 1, math.MinInt, math.MaxInt} {
			// Of the last list each guess is wrong as a guess, which is told only if both are places.
			for _, h := range [][]int{nil, make([]int, g.N), slices.Repeat([]int{-1}, g.N), slices.Repeat([]int{9}, g.N)} {
				refuses(t, "from", g, v, 0, h, api.ErrArg)
				refuses(t, "to", g, 0, v, h, api.ErrArg)
				refuses(t, "both", g, v, v, h, api.ErrArg)
			}
		}
	}
}

func TestWrongGuessesAreRefused(t *testing.T) {
	g := netOf(4, edge(0, 1, 3), edge(1, 2, 4), edge(0, 2, 9), edge(2, 0, 1))
	for _, x := range []struct {
		name     string
		from, to int
		h        []int
		want     api.Errno
	}{
		{"none", 0, 2, nil, api.ErrArg},
		{"too few", 0, 2, []int{7, 4, 0}, api.ErrArg},
		{"too many", 0, 2, []int{7, 4, 0, 0, 0}, api.ErrArg},
		{"below 0", 0, 2, []int{7, -1, 0, 0}, api.ErrArg},
		{"beyond Far", 0, 2, []int{7, 4, 0, far + 1}, api.ErrArg},
		{"the greatest number", 0, 2, []int{7, 4, 0, math.MaxInt}, api.ErrArg},
		{"the least number", 0, 2, []int{math.MinInt, 4, 0, 0}, api.ErrArg},
		{"too few, ahead of one that does not agree", 0, 2, []int{8, 4, 1}, api.ErrArg},
		{"beyond Far, behind one that does not agree", 0, 2, []int{8, 4, 1, far + 1}, api.ErrArg},
		{"of the end 1", 0, 2, []int{0, 0, 1, 0}, api.ErrHeur},
		{"1 more than it costs", 0, 2, []int{8, 4, 0, 0}, api.ErrHeur},
		{"1 more than by the next", 0, 2, []int{6, 2, 0, 0}, api.ErrHeur},
		{"Far, though a walk leads on", 0, 2, []int{far, 4, 0, 0}, api.ErrHeur},
		{"of another end", 0, 0, []int{7, 4, 0, 0}, api.ErrHeur},
		{"does not agree, and no walk leads to the end", 0, 3, []int{1, 0, 0, 1}, api.ErrHeur},
		{"too few, and no walk leads to the end", 0, 3, []int{0, 0, 0}, api.ErrArg},
		{"does not agree, from and to the same", 1, 1, []int{0, 9, 0, 0}, api.ErrHeur},
		{"does not agree apart from the walk", 2, 0, []int{0, 99, 1, 0}, api.ErrHeur},
	} {
		refuses(t, x.name, g, x.from, x.to, x.h, x.want)
	}
	for _, n := range []int{0, 63, 65, 1000} {
		refuses(t, "of 64", chain(64, 3), 0, 63, make([]int, n), api.ErrArg)
	}
	refuses(t, "the last of 64", chain(64, 3), 0, 63, with(make([]int, 64), 63, far+1), api.ErrArg)
	refuses(t, "the last but one of 64", chain(64, 3), 0, 63, with(make([]int, 64), 62, 4), api.ErrHeur)
}

func TestLookTakesWhatIsRight(t *testing.T) {
	for i, g := range many() {
		from, to := (i*i+1)%g.N, (3*i)%g.N
		for k, h := range guesses(g, to) {
			if e := Look(g, from, to, h); e != api.OK {
				t.Fatal(i, from, to, k, h, e)
			}
		}
	}
	// That no walk leads to the end is not for Look to tell.
	for _, h := range [][]int{{0, 0}, {far, 0}, {9, 0}} {
		if e := Look(netOf(2), 0, 1, h); e != api.OK {
			t.Error(h, e)
		}
	}
}

func TestRun(t *testing.T) {
	fork := netOf(5, edge(0, 1, 3), edge(0, 2, 2), edge(1, 3, 4), edge(2, 3, 4), edge(0, 3, 9), edge(3, 0, 1))
	// Both walks cost 6: over one place for 2 and 4, over the other for 4 and 2.
	pair := netOf(4, edge(0, 1, 2), edge(0, 2, 4), edge(1, 3, 4), edge(2, 3, 2))
	pairTurned := netOf(4, edge(0, 1, 4), edge(0, 2, 2), edge(1, 3, 2), edge(2, 3, 4))
	star := netOf(5, edge(0, 4, 5), edge(0, 3, 5), edge(0, 2, 5), edge(0, 1, 5), edge(3, 1, 1))
	anew := netOf(5, edge(0, 1, 9), edge(0, 2, 1), edge(2, 1, 4), edge(0, 3, 2), edge(3, 1, 2), edge(1, 4, 8))
	several := netOf(3, edge(0, 1, 8), edge(0, 1, 2), edge(0, 1, 3), edge(0, 0, 1), edge(1, 1, 1), edge(1, 2, 7), edge(1, 2, 5), edge(1, 2, 6), edge(2, 2, 1))
	for _, x := range []struct {
		name     string
		g        api.Net
		from, to int
		h        []int
		want     api.Found
	}{
		{"by what they cost", fork, 0, 3, make([]int, 5), found(6, []int{0, 2, 3}, []int{0, 2, 1, 3})},
		{"just what it costs", fork, 0, 3, []int{6, 4, 4, 0, far}, found(6, []int{0, 2, 3}, []int{0, 2, 3})},
		{"between", fork, 0, 3, []int{2, 2, 4, 0, 0}, found(6, []int{0, 2, 3}, []int{0, 1, 2, 3})},
		{"round", fork, 3, 1, make([]int, 5), found(4, []int{3, 0, 1}, []int{3, 0, 2, 1})},

		{"the same place", fork, 0, 0, make([]int, 5), found(0, []int{0}, []int{0})},
		{"the same place, the last", fork, 4, 4, make([]int, 5), found(0, []int{4}, []int{4})},
		{"the same place with an edge to itself", netOf(2, edge(1, 1, 1)), 1, 1, []int{far, 0}, found(0, []int{1}, []int{1})},
		{"one place", netOf(1), 0, 0, []int{0}, found(0, []int{0}, []int{0})},
		{"one place, 600 edges", netOf(1, slices.Repeat([]api.Edge{edge(0, 0, 1)}, 600)...), 0, 0, []int{0}, found(0, []int{0}, []int{0})},
		{"64 places, no edge", netOf(64), 63, 63, make([]int, 64), found(0, []int{63}, []int{63})},
		{"64 places in a chain", chain(64, api.MaxCost), 0, 63, make([]int, 64), found(630000, rising(64, 0, 1), rising(64, 0, 1))},
		{"64 places in a chain, guesses of what it costs", chain(64, api.MaxCost), 0, 63, rising(64, 630000, -10000), found(630000, rising(64, 0, 1), rising(64, 0, 1))},
		{"600 edges, the last the least", netOf(2, append(slices.Repeat([]api.Edge{edge(0, 1, 9)}, 599), edge(0, 1, 8))...), 0, 1, []int{8, 0}, found(8, []int{0, 1}, []int{0, 1})},

		{"the same key: the least guess, of the greater number", pair, 0, 3, []int{0, 3, 1, 0}, found(6, []int{0, 2, 3}, []int{0, 2, 1, 3})},
		{"the same key: the least guess, of the lesser number", pairTurned, 0, 3, []int{0, 1, 3, 0}, found(6, []int{0, 1, 3}, []int{0, 1, 2, 3})},
		{"the same key: the end has the least guess", netOf(3, edge(0, 1, 4), edge(0, 2, 5), edge(1, 2, 2)), 0, 2, []int{0, 1, 0}, found(5, []int{0, 2}, []int{0, 2})},
		{"the same key and guess: the least number", star, 0, 4, make([]int, 5), found(5, []int{0, 4}, []int{0, 1, 2, 3, 4})},
		{"the same key and guess: the end is the least number", star, 0, 1, make([]int, 5), found(5, []int{0, 1}, []int{0, 1})},
		{"the same key and guess: nothing behind the end", star, 0, 2, make([]int, 5), found(5, []int{0, 2}, []int{0, 1, 2})},
		{"the same key and guess of 3", netOf(4, edge(0, 2, 2), edge(0, 1, 2), edge(1, 3, 3), edge(2, 3, 3)), 0, 3, []int{0, 3, 3, 0}, found(5, []int{0, 1, 3}, []int{0, 1, 3})},

		{"anew for less, twice", anew, 0, 4, make([]int, 5), found(12, []int{0, 3, 1, 4}, []int{0, 2, 3, 1, 4})},
		{"anew for less, then looked from itself", anew, 0, 1, make([]int, 5), found(4, []int{0, 3, 1}, []int{0, 2, 3, 1})},
		{"the same cost again, from a lesser number", netOf(4, edge(0, 1, 2), edge(0, 2, 1), edge(1, 3, 1), edge(2, 3, 2)), 0, 3, make([]int, 4), found(3, []int{0, 2, 3}, []int{0, 2, 1, 3})},
		{"the same cost again, from a greater number", netOf(4, edge(0, 1, 1), edge(0, 2, 2), edge(2, 3, 1), edge(1, 3, 2)), 0, 3, make([]int, 4), found(3, []int{0, 1, 3}, []int{0, 1, 2, 3})},
		{"the same cost again, over a place", netOf(4, edge(0, 3, 3), edge(0, 1, 1), edge(1, 3, 2), edge(3, 2, 1)), 0, 2, make([]int, 4), found(4, []int{0, 3, 2}, []int{0, 1, 3, 2})},
		{"back to where it was looked from", netOf(3, edge(0, 1, 1), edge(1, 0, 1), edge(1, 2, 3), edge(2, 1, 1)), 0, 2, make([]int, 3), found(4, []int{0, 1, 2}, []int{0, 1, 2})},

		{"several edges, and to itself", several, 0, 2, make([]int, 3), found(7, []int{0, 1, 2}, []int{0, 1, 2})},
		{"several edges, guesses of what it costs", several, 0, 2, []int{7, 5, 0}, found(7, []int{0, 1, 2}, []int{0, 1, 2})},

		{"nothing is looked from behind the end", netOf(4, edge(0, 1, 1), edge(1, 2, 1), edge(0, 3, 2)), 0, 1, make([]int, 4), found(1, []int{0, 1}, []int{0, 1})},
		{"the end is not over as it is reached", netOf(3, edge(0, 2, 9), edge(0, 1, 2), edge(1, 2, 3)), 0, 2, make([]int, 3), found(5, []int{0, 1, 2}, []int{0, 1, 2})},
		{"one whose guess is Far", netOf(4, edge(0, 1, 1), edge(0, 2, 5), edge(2, 3, 5), edge(3, 1, 1)), 0, 3, []int{10, far, 5, 0}, found(10, []int{0, 2, 3}, []int{0, 2, 3})},
		{"one whose guess is as good as Far", netOf(4, edge(0, 1, 1), edge(0, 2, 5), edge(2, 3, 5)), 0, 3, []int{10, far - 1, 5, 0}, found(10, []int{0, 2, 3}, []int{0, 2, 3})},
	} {
		if f, e := Run(x.g, x.from, x.to, x.h); !same(f, x.want) || e != api.OK {
			t.Error(x.name, f, e)
		}
	}
}

func TestRunTellsThatThereIsNone(t *testing.T) {
	// No walk leads to 3.
	g := netOf(4, edge(0, 1, 3), edge(1, 2, 4), edge(2, 0, 1), edge(3, 0, 1), edge(3, 3, 1))
	for _, x := range []struct {
		name     string
		g        api.Net
		from, to int
		h        []int
	}{
		{"guesses of 0", g, 0, 3, make([]int, 4)},
		{"guesses between", g, 1, 3, []int{5, 6, 2, 0}},
		{"all Far", g, 0, 3, []int{far, far, far, 0}},
		{"from alone is not Far", g, 0, 3, []int{far - 1, far, far, 0}},
		{"from itself is Far", netOf(3, edge(0, 1, 5)), 0, 2, []int{far, far - 5, 0}},
		{"one behind it is Far", netOf(3, edge(0, 1, 5)), 0, 2, []int{7, far, 0}},
		{"64 places, no edge", netOf(64), 0, 63, make([]int, 64)},
		{"64 places in a chain, back", chain(64, 1), 63, 0, make([]int, 64)},
		{"an edge to itself", netOf(2, edge(0, 0, 1), edge(1, 1, 1)), 0, 1, []int{0, 0}},
		{"600 edges the other way", netOf(2, slices.Repeat([]api.Edge{edge(1, 0, 1)}, 600)...), 0, 1, []int{far, 0}},
	} {
		if f, e := Run(x.g, x.from, x.to, x.h); !isZero(f) || e != api.ErrNone {
			t.Error(x.name, f, e)
		}
	}
}

func TestManyRuns(t *testing.T) {
	told := map[api.Errno]int{}
	for i, g := range many() {
		for k := range 3 {
			from, to := (i*i+5*k+1)%g.N, (3*i+k)%g.N
			costs := least(g, to)
			for j, h := range guesses(g, to) {
				want, wrong := byWords(g, from, to, h, together)
				f, e := Run(g, from, to, h)
				if e != wrong || !same(f, want) {
					t.Fatal(i, from, to, j, h, f, e, want, wrong)
				}
				told[e]++
				if (e == api.OK) != (costs[from] < far) {
					t.Fatal(i, from, to, j, e, costs)
				}
				if e != api.OK {
					continue
				}
				if cost, wrong := walk.Cost(g, f.Way.Path); cost != costs[from] || f.Way.Cost != cost || wrong != api.OK {
					t.Fatal(i, from, to, j, f, cost, wrong, costs[from])
				}
			}
		}
	}
	if told[api.OK] < 2000 || told[api.ErrNone] < 1000 {
		t.Error("the searches are too much the same:", told)
	}
}

func TestGuessesOfNothingLookFromAllThatCostLess(t *testing.T) {
	for i, g := range many() {
		from, to := (i*i+1)%g.N, (3*i)%g.N
		f, e := Run(g, from, to, make([]int, g.N))
		if e != api.OK {
			continue
		}
		dist, _ := dijk.Dist(g, from)
		var want []int
		for v := range g.N {
			if dist[v] < dist[to] || dist[v] == dist[to] && v <= to {
				want = append(want, v)
			}
		}
		// Those of one cost stay by their numbers.
		slices.SortStableFunc(want, func(a, b int) int { return dist[a] - dist[b] })
		if !slices.Equal(f.Order, want) {
			t.Fatal(i, from, to, f, want)
		}
	}
}

func TestJustWhatItCostsLooksFromNothingElse(t *testing.T) {
	for i, g := range many() {
		from, to := (i*i+1)%g.N, (3*i)%g.N
		costs := least(g, to)
		f, e := Run(g, from, to, costs)
		if e != api.OK {
			continue
		}
		// All keys are the same: each step leads nearer, and no place is looked from that is off the walk.
		if !slices.Equal(f.Order, f.Way.Path) || f.Way.Cost != costs[from] {
			t.Fatal(i, from, to, f, costs)
		}
	}
}

func TestTheOrderOfEdgesDoesNotCount(t *testing.T) {
	for i, g := range many() {
		from, to := (i*i+1)%g.N, (3*i)%g.N
		turned := netOf(g.N, slices.Clone(g.Edges)...)
		slices.Reverse(turned.Edges)
		for j, h := range guesses(g, to) {
			a, e := Run(g, from, to, h)
			b, wrong := Run(turned, from, to, h)
			if !same(a, b) || e != wrong {
				t.Fatal(i, from, to, j, a, b)
			}
		}
	}
}

// heavy is a key in which a guess weighs more than a cost.
func heavy(cost, guess int) int { return cost + 5*guess }

func TestNoPlaceIsLookedFromTwice(t *testing.T) {
	// 2 is looked from ahead of 1, from which it would cost 2 and not 5, and 3 would cost 4 and not 7.
	g := netOf(5, edge(0, 1, 1), edge(1, 2, 1), edge(0, 2, 5), edge(2, 3, 2), edge(3, 4, 6))
	h := []int{8, 7, 6, 6, 0}
	want := found(13, []int{0, 2, 3, 4}, []int{0, 2, 1, 3, 4})
	if f, e := ByKeys(g, 0, 4, h, heavy); Look(g, 0, 4, h) != api.OK || !same(f, want) || e != api.OK {
		t.Error(f, e)
	}
	// 3 waits still as 1 is looked from, and gets a cost so far anew.
	g.Edges = append(g.Edges, edge(1, 3, 2))
	want = found(9, []int{0, 1, 3, 4}, []int{0, 2, 1, 3, 4})
	if f, e := ByKeys(g, 0, 4, h, heavy); Look(g, 0, 4, h) != api.OK || !same(f, want) || e != api.OK {
		t.Error(f, e)
	}
}

func TestNoPlaceWhoseGuessIsFarWaits(t *testing.T) {
	// What waits has a key. No walk leads to the end, so all that may wait do.
	g := netOf(5, edge(0, 1, 1), edge(0, 2, 1), edge(1, 2, 1), edge(2, 3, 1))
	for _, x := range []struct{ h, want []int }{
		{[]int{7, 6, far, far, 0}, []int{7, 6}},
		{[]int{7, far, far - 1, far, 0}, []int{7, far - 1}},
		{[]int{7, far, far - 1, far - 2, 0}, []int{7, far - 1, far - 2}},
		{[]int{far, far, far - 1, far, 0}, nil},
	} {
		var keyed []int
		f, e := ByKeys(g, 0, 4, x.h, func(cost, guess int) int {
			keyed = append(keyed, guess)
			return cost + guess
		})
		if Look(g, 0, 4, x.h) != api.OK || !isZero(f) || e != api.ErrNone || !slices.Equal(keyed, x.want) {
			t.Error(x.h, keyed, f, e)
		}
	}
}

func TestManySearchesByOtherKeys(t *testing.T) {
	dearer := 0
	for i, g := range many() {
		for k := range 3 {
			from, to := (i*i+5*k+1)%g.N, (3*i+k)%g.N
			costs := least(g, to)
			for j, h := range guesses(g, to) {
				want, wrong := byWords(g, from, to, h, heavy)
				f, e := ByKeys(g, from, to, h, heavy)
				if e != wrong || !same(f, want) {
					t.Fatal(i, from, to, j, h, f, e, want, wrong)
				}
				if e == api.OK && f.Way.Cost > costs[from] {
					dearer++
				}
			}
		}
	}
	if dearer < 50 {
		t.Error("what is found costs the least too often:", dearer)
	}
}

// spoil writes x over l and the room behind it.
func spoil[T any](l []T, x T) {
	l = l[:cap(l)]
	for i := range l {
		l[i] = x
	}
}

func TestWhatIsHandedInStays(t *testing.T) {
	edges := []api.Edge{edge(0, 1, 2), edge(1, 2, 3), edge(2, 0, 1), edge(0, 0, 1), edge(0, 2, 9), edge(9, 9, 9), edge(0, 3, 1)}
	room := []int{5, 3, 0, far, -5, 7, far + 1}
	wasEdges, was := slices.Clone(edges), slices.Clone(room)
	for n := range len(edges) + 1 {
		g := netOf(4, edges[:n]...)
		for m := range len(room) + 1 {
			for v := range 4 {
				Look(g, v, 2, room[:m])
				f, _ := Run(g, v, 2, room[:m])
				spoil(f.Way.Path, -77)
				spoil(f.Order, -77)
			}
		}
		if g.N != 4 || !slices.Equal(edges, wasEdges) || !slices.Equal(room, was) {
			t.Error(n, edges, room)
		}
	}
}

func TestPathAndOrderShareNothing(t *testing.T) {
	for i, g := range many() {
		from, to := (i*i+1)%g.N, (3*i)%g.N
		for j, h := range guesses(g, to) {
			want, e := Run(g, from, to, h)
			if e != api.OK {
				continue
			}
			path, order := slices.Clone(want.Way.Path), slices.Clone(want.Order)
			f, _ := Run(g, from, to, h)
			spoil(f.Way.Path, -77)
			if !slices.Equal(f.Order, order) {
				t.Fatal("Order", i, from, to, j, f)
			}
			f, _ = Run(g, from, to, h)
			spoil(f.Order, -77)
			if !slices.Equal(f.Way.Path, path) {
				t.Fatal("Path", i, from, to, j, f)
			}
			// Nor does one answer with another.
			if !slices.Equal(want.Way.Path, path) || !slices.Equal(want.Order, order) {
				t.Fatal("another answer", i, from, to, j, want)
			}
		}
	}
}

func TestWhatIsAnsweredStays(t *testing.T) {
	g, h := netOf(3, edge(0, 1, 2), edge(1, 2, 3), edge(0, 2, 9)), []int{0, 1, 0}
	f, e := Run(g, 0, 2, h)
	spoil(g.Edges, edge(0, 2, 4))
	spoil(h, 0)
	if want := found(5, []int{0, 1, 2}, []int{0, 1, 2}); !same(f, want) || e != api.OK {
		t.Error(f, e)
	}
	if f, e := Run(g, 0, 2, h); !same(f, found(4, []int{0, 2}, []int{0, 2})) || e != api.OK {
		t.Error("the net of now", f, e)
	}
}
