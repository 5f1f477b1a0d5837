package heur

import (
	"math"
	"slices"
	"testing"

	"fellwalker/api"
	"fellwalker/dijk"
	"fellwalker/floyd"
	"fellwalker/net"
)

const far = api.Far

func netOf(n int, edges ...api.Edge) api.Net { return api.Net{N: n, Edges: edges} }

// edge leads from a to b.
func edge(a, b, cost int) api.Edge { return api.Edge{From: a, To: b, Cost: cost} }

// chain is a net of n places in which each leads to the next.
func chain(n, cost int) api.Net {
	g := api.Net{N: n}
	for v := range n - 1 {
		g.Edges = append(g.Edges, edge(v, v+1, cost))
	}
	return g
}

// some has several edges between two places, an edge to itself, and two places that no walk from 0 leads to.
func some() api.Net {
	return netOf(6,
		edge(0, 3, 9), edge(0, 1, 8), edge(0, 1, 2), edge(0, 1, 3), edge(1, 3, 4), edge(1, 1, 1),
		edge(3, 2, 1), edge(2, 0, 5), edge(4, 0, 1), edge(4, 5, 7), edge(5, 4, 6))
}

// someRows are what it costs in some from each place to each.
func someRows() [][]int {
	return [][]int{
		{0, 2, 7, 6, far, far},
		{10, 0, 5, 4, far, far},
		{5, 7, 0, 11, far, far},
		{6, 8, 1, 0, far, far},
		{1, 3, 8, 7, 0, 7},
		{7, 9, 14, 13, 6, 0},
	}
}

// rising are n numbers from first on, each by that step.
func rising(n, first, step int) []int {
	l := make([]int, n)
	for i := range l {
		l[i] = first + i*step
	}
	return l
}

// column answers what stands in each row at v.
func column(rows [][]int, v int) []int {
	var l []int
	for _, row := range rows {
		l = append(l, row[v])
	}
	return l
}

// with answers l with x in the place of what stands at i.
func with(l []int, i, x int) []int {
	l = slices.Clone(l)
	l[i] = x
	return l
}

// scatter makes a net whose edges hang on seed, with costs from 1 to most.
func scatter(n, edges, most, seed int) api.Net {
	g := api.Net{N: n}
	x := uint32(seed*2654435761 + 12345)
	next := func(below int) int {
		x = x*1664525 + 1013904223
		return int(x>>8) % below
	}
	for range edges {
		g.Edges = append(g.Edges, edge(next(n), next(n), 1+next(most)))
	}
	return g
}

// many are nets of all sizes, with few edges and with many.
func many() []api.Net {
	var l []api.Net
	for _, n := range []int{1, 2, 3, 4, 5, 8, 20, 64} {
		for _, edges := range []int{0, 1, n / 2, n - 1, n, 3 * n / 2, 3 * n, 600} {
			for seed := range 4 {
				l = append(l, scatter(n, edges, 1, seed), scatter(n, edges, 9, seed), scatter(n, edges, api.MaxCost, seed))
			}
		}
	}
	return l
}

// someMarks are k places of a net of n, the same ones perhaps.
func someMarks(n, k, seed int) []int {
	var l []int
	for i := range k {
		l = append(l, (seed*seed+3*seed+i*(seed%7))%n)
	}
	return l
}

// wrongNets are nets that net.Pos refuses.
func wrongNets() []api.Net {
	good := edge(0, 1, 1)
	return []api.Net{
		{}, netOf(-1), netOf(65), netOf(65, good), netOf(math.MaxInt), netOf(math.MinInt), netOf(0, good),
		netOf(65, slices.Repeat([]api.Edge{good}, 601)...), netOf(2, slices.Repeat([]api.Edge{good}, 601)...),
		netOf(2, slices.Repeat([]api.Edge{{From: 2}}, 601)...), netOf(2, append(slices.Repeat([]api.Edge{good}, 599), edge(0, 2, 1))...),
		netOf(2, edge(2, 0, 1)), netOf(2, good, edge(0, -1, 1)), netOf(2, good, edge(math.MaxInt, math.MinInt, 1)),
		netOf(2, edge(0, 0, api.MaxCost+1)), netOf(2, good, edge(1, 0, -api.MaxCost-1)), netOf(2, edge(0, 1, math.MaxInt)), netOf(2, edge(0, 1, math.MinInt)),
		netOf(2, good, edge(0, 1, 0)), netOf(2, good, edge(1, 0, -1)), netOf(1, edge(0, 0, 0)), netOf(2, edge(0, 1, -api.MaxCost)),
		netOf(2, append(slices.Repeat([]api.Edge{good}, 599), edge(0, 1, 0))...), netOf(2, edge(0, 0, 0), edge(2, 0, 1)),
	}
}

func isZero(t api.Table) bool { return t.From == nil && t.To == nil }

func sameTable(a, b api.Table) bool {
	return slices.EqualFunc(a.From, b.From, slices.Equal) && slices.EqualFunc(a.To, b.To, slices.Equal)
}

func TestTheNetsErrorIsToldFirst(t *testing.T) {
	for i, g := range wrongNets() {
		want := net.Pos(g)
		if want == api.OK {
			t.Error(i, "is not wrong")
		}
		for _, marks := range [][]int{nil, {0}, {-1}, {64}, {0, math.MaxInt}, make([]int, 4), make([]int, 5), {-1, 0, 0, 0, 0}} {
			if m, e := Marks(g, marks); !isZero(m) || e != want {
				t.Error("Marks", i, marks, m, e)
			}
			for _, to := range []int{-1, 0, 1, 64, math.MaxInt} {
				if l, e := Of(g, marks, to); l != nil || e != want {
					t.Error("Of", i, marks, to, l, e)
				}
			}
		}
		for _, h := range [][]int{nil, {0}, {0, 0}, {1, 1}, {-1, far + 1}, make([]int, 65)} {
			for _, to := range []int{-1, 0, 1, 64, math.MaxInt} {
				if e := Check(g, to, h); e != want {
					t.Error("Check", i, to, h, e)
				}
			}
		}
	}
}

func TestNoPlaceIsRefused(t *testing.T) {
	for _, g := range []api.Net{netOf(1), netOf(1, edge(0, 0, 1)), some(), netOf(64), chain(64, 3)} {
		for _, v := range []int{-1, g.N, g.N + 1, math.MinInt, math.MaxInt} {
			for _, marks := range [][]int{nil, {0}, {g.N - 1, 0, 0, 0}} {
				if l, e := Of(g, marks, v); l != nil || e != api.ErrArg {
					t.Error("Of", g.N, marks, v, l, e)
				}
			}
			for i := range 4 {
				marks := with(make([]int, 4), i, v)[:i+1]
				for _, marks := range [][]int{marks, with(make([]int, 4), i, v)} {
					if m, e := Marks(g, marks); !isZero(m) || e != api.ErrArg {
						t.Error("Marks", g.N, marks, m, e)
					}
					if l, e := Of(g, marks, 0); l != nil || e != api.ErrArg {
						t.Error("Of", g.N, marks, l, e)
					}
				}
			}
			for _, h := range [][]int{nil, make([]int, g.N), slices.Repeat([]int{9}, g.N), slices.Repeat([]int{-1}, g.N)} {
				if e := Check(g, v, h); e != api.ErrArg {
					t.Error("Check", g.N, v, h, e)
				}
			}
		}
	}
}

func TestTooManyMarksAreToldAheadOfWhatTheyAre(t *testing.T) {
	for _, g := range []api.Net{netOf(1), some(), netOf(64), chain(64, 3)} {
		for _, marks := range [][]int{make([]int, 5), slices.Repeat([]int{-1}, 5), {0, 0, 0, 0, 64}, {64, 0, 0, 0, 0}, make([]int, 64), make([]int, 1000)} {
			if m, e := Marks(g, marks); !isZero(m) || e != api.ErrLarge {
				t.Error("Marks", g.N, marks, m, e)
			}
			for _, to := range []int{-1, 0, g.N - 1, g.N} {
				if l, e := Of(g, marks, to); l != nil || e != api.ErrLarge {
					t.Error("Of", g.N, marks, to, l, e)
				}
			}
		}
	}
}

func TestCheckHoldsGuessesAgainstEdges(t *testing.T) {
	// 0 leads to 1 for 3, 1 to 2 for 4, 0 to 2 for 9; nothing leads from 3.
	g := netOf(4, edge(0, 1, 3), edge(1, 2, 4), edge(0, 2, 9), edge(2, 2, 1), edge(2, 0, 1), edge(1, 3, 2))
	for _, x := range []struct {
		name string
		g    api.Net
		to   int
		h    []int
		want api.Errno
	}{
		{"just what it costs", g, 2, []int{7, 4, 0, far}, api.OK},
		{"guesses of 0", g, 2, make([]int, 4), api.OK},
		{"guesses of 0, to the place that nothing leads from", g, 3, make([]int, 4), api.OK},
		{"less than what it costs", g, 2, []int{5, 3, 0, 100}, api.OK},
		{"0 for 1 more", g, 2, []int{8, 4, 0, far}, api.ErrHeur},
		{"1 for 1 more", g, 2, []int{7, 5, 0, far}, api.ErrHeur},
		{"both for 1 more", g, 2, []int{8, 5, 0, far}, api.ErrHeur},
		{"less than it costs, but more than by the guess of the next", g, 2, []int{6, 2, 0, far}, api.ErrHeur},
		{"just by the guess of the next", g, 2, []int{5, 2, 0, far}, api.OK},
		{"more than by the guess of one that leads nowhere", g, 2, []int{7, 4, 0, 1}, api.ErrHeur},
		{"just by the guess of one that leads nowhere", g, 2, []int{7, 4, 0, 2}, api.OK},
		{"of the end 1, no edge", netOf(2), 1, []int{0, 1}, api.ErrHeur},
		{"of the end Far, no edge", netOf(2), 0, []int{far, far}, api.ErrHeur},
		{"of the end 0, no edge", netOf(2), 1, []int{far, 0}, api.OK},
		{"of the end 1, and all edges agree", netOf(2, edge(0, 1, 5)), 1, []int{6, 1}, api.ErrHeur},
		{"Far from a place that leads to a guess of 0", netOf(2, edge(0, 1, 5)), 1, []int{far, 0}, api.ErrHeur},
		{"Far from a place that leads to a Far one", netOf(3, edge(0, 1, 5)), 2, []int{far, far, 0}, api.OK},
		{"not Far from a place that leads to a Far one", netOf(3, edge(0, 1, 5)), 2, []int{7, far, 0}, api.OK},
		{"Far, where one of two edges leads to a Far one", netOf(3, edge(0, 1, 5), edge(0, 2, 5)), 2, []int{far, far, 0}, api.ErrHeur},
		{"Far, and the next less by its cost", netOf(3, edge(0, 1, 5)), 2, []int{far, far - 5, 0}, api.OK},
		{"Far, and the next less by 1 more", netOf(3, edge(0, 1, 5)), 2, []int{far, far - 6, 0}, api.ErrHeur},
		{"1 less than Far, and the next less by its cost", netOf(3, edge(0, 1, 5)), 2, []int{far - 1, far - 6, 0}, api.OK},
		{"to a Far place from the end", netOf(2, edge(0, 1, 5)), 0, []int{0, far}, api.OK},
		{"an edge to itself", netOf(2, edge(0, 0, 1), edge(1, 1, 1)), 1, []int{9, 0}, api.OK},
		{"an edge to itself, Far", netOf(2, edge(0, 0, 10000)), 1, []int{far, 0}, api.OK},
		{"of several edges the least, ahead", netOf(2, edge(0, 1, 3), edge(0, 1, 5), edge(0, 1, 8)), 1, []int{4, 0}, api.ErrHeur},
		{"of several edges the least, between", netOf(2, edge(0, 1, 5), edge(0, 1, 3), edge(0, 1, 8)), 1, []int{4, 0}, api.ErrHeur},
		{"of several edges the least, behind", netOf(2, edge(0, 1, 8), edge(0, 1, 5), edge(0, 1, 3)), 1, []int{4, 0}, api.ErrHeur},
		{"of several edges just the least", netOf(2, edge(0, 1, 8), edge(0, 1, 3), edge(0, 1, 5)), 1, []int{3, 0}, api.OK},
		{"an edge counts one way alone", netOf(2, edge(1, 0, 1)), 1, []int{9, 0}, api.OK},
		{"the last of 600", netOf(2, append(slices.Repeat([]api.Edge{edge(1, 0, 1)}, 599), edge(0, 1, 1))...), 1, []int{2, 0}, api.ErrHeur},
		{"600 that agree", netOf(2, append(slices.Repeat([]api.Edge{edge(1, 0, 1)}, 599), edge(0, 1, 1))...), 1, []int{1, 0}, api.OK},
		{"64 places", chain(64, 3), 63, rising(64, 63*3, -3), api.OK},
		{"64 places, the first 1 more", chain(64, 3), 63, with(rising(64, 63*3, -3), 0, 190), api.ErrHeur},
		{"64 places, one that leads to the last 1 more", chain(64, 3), 63, with(rising(64, 63*3, -3), 62, 4), api.ErrHeur},
		{"one place", netOf(1), 0, []int{0}, api.OK},
		{"one place, 1", netOf(1, edge(0, 0, 1)), 0, []int{1}, api.ErrHeur},
		{"as dear as may be", netOf(2, edge(0, 1, api.MaxCost)), 1, []int{api.MaxCost, 0}, api.OK},
		{"dearer than may be", netOf(2, edge(0, 1, api.MaxCost)), 1, []int{api.MaxCost + 1, 0}, api.ErrHeur},
	} {
		if e := Check(x.g, x.to, x.h); e != x.want {
			t.Error(x.name, e)
		}
	}
}

func TestCheckRefusesWhatIsNoGuess(t *testing.T) {
	// Of the end 9 is told to be wrong only if there is nothing wrong with the numbers.
	good := []int{0, 0, 9}
	g := netOf(3, edge(0, 1, 3))
	if e := Check(g, 2, good); e != api.ErrHeur {
		t.Error(e)
	}
	for _, h := range [][]int{nil, {}, {9}, {9, 9}, {0, 0}, {0, 0, 0, 0}, {9, 9, 9, 9}, make([]int, 64), make([]int, 1000)} {
		if e := Check(g, 2, h); e != api.ErrArg {
			t.Error(h, e)
		}
	}
	for i := range good {
		for _, x := range []int{-1, -far, far + 1, math.MinInt, math.MaxInt} {
			if e := Check(g, 2, with(good, i, x)); e != api.ErrArg {
				t.Error(i, x, e)
			}
		}
		for _, x := range []int{9, far} {
			if e := Check(g, 2, with(good, i, x)); e != api.ErrHeur {
				t.Error(i, x, e)
			}
		}
	}
	for _, n := range []int{0, 63, 65} {
		if e := Check(netOf(64), 0, make([]int, n)); e != api.ErrArg {
			t.Error(n, "of 64", e)
		}
	}
	if e := Check(netOf(64), 0, with(make([]int, 64), 63, far+1)); e != api.ErrArg {
		t.Error("the last of 64", e)
	}
}

// least answers what it costs least from each place to to.
func least(g api.Net, to int) []int {
	back, _ := net.Turn(g)
	l, _ := dijk.Dist(back, to)
	return l
}

func TestWhatItCostsIsTheGreatestGuess(t *testing.T) {
	for i, g := range many() {
		to := (i * i) % g.N
		l := least(g, to)
		if e := Check(g, to, l); e != api.OK {
			t.Fatal(i, to, l, e)
		}
		if e := Check(g, to, make([]int, g.N)); e != api.OK {
			t.Fatal("guesses of 0", i, to, e)
		}
		for v, c := range l {
			want := api.ErrHeur
			if c == far {
				want = api.ErrArg
			}
			if e := Check(g, to, with(l, v, c+1)); e != want {
				t.Fatal("1 more", i, to, v, l, e)
			}
		}
	}
}

// agrees works out what Check does from the words of the promise, where h has a right number for each place.
func agrees(g api.Net, to int, h []int) bool {
	return h[to] == 0 && !slices.ContainsFunc(g.Edges, func(d api.Edge) bool { return h[d.From]-h[d.To] > d.Cost })
}

func TestManyGuesses(t *testing.T) {
	told := map[bool]int{}
	for i, g := range many() {
		for k := range 8 {
			to := (i + k*k) % g.N
			h := least(g, to)
			for v := range h {
				if (v*v+i)%9 <= k {
					h[v] = max(0, min(h[v], 1000)-(v*7+i+k)%5)
				}
			}
			want := agrees(g, to, h)
			told[want]++
			if e := Check(g, to, h); (e == api.OK) != want || e != api.OK && e != api.ErrHeur {
				t.Fatal(i, k, to, h, want, e)
			}
			for v, c := range least(g, to) {
				if want && h[v] > c {
					t.Fatal("a guess is more than it costs", i, k, to, v, h)
				}
			}
		}
	}
	if told[true] < 500 || told[false] < 500 {
		t.Error("the guesses are too much the same:", told)
	}
}

func TestMarks(t *testing.T) {
	rows := someRows()
	for _, x := range []struct {
		name  string
		marks []int
	}{
		{"no mark", nil},
		{"no mark, a list", []int{}},
		{"one", []int{2}},
		{"the first", []int{0}},
		{"one that no walk leads to from most", []int{5}},
		{"in order", []int{3, 0}},
		{"in the other order", []int{0, 3}},
		{"the same twice", []int{3, 3}},
		{"four", []int{4, 1, 5, 0}},
		{"the same four times", []int{1, 1, 1, 1}},
	} {
		var want api.Table
		for _, m := range x.marks {
			want.From = append(want.From, rows[m])
			want.To = append(want.To, column(rows, m))
		}
		if m, e := Marks(some(), x.marks); !sameTable(m, want) || e != api.OK {
			t.Error(x.name, m, e)
		}
	}
}

func TestMarksOfPlacesApart(t *testing.T) {
	// No walk leads to 0 or from 2, and none to or from 3.
	g := netOf(4, edge(0, 1, 3), edge(1, 2, 4), edge(3, 3, 1))
	want := api.Table{
		From: [][]int{{0, 3, 7, far}, {far, far, 0, far}, {far, far, far, 0}},
		To:   [][]int{{0, far, far, far}, {7, 4, 0, far}, {far, far, far, 0}},
	}
	if m, e := Marks(g, []int{0, 2, 3}); !sameTable(m, want) || e != api.OK {
		t.Error(m, e)
	}
	one := api.Table{From: [][]int{{0}}, To: [][]int{{0}}}
	if m, e := Marks(netOf(1), []int{0}); !sameTable(m, one) || e != api.OK {
		t.Error(m, e)
	}
	ends := api.Table{
		From: [][]int{append(slices.Repeat([]int{far}, 63), 0), rising(64, 0, api.MaxCost)},
		To:   [][]int{rising(64, 63*api.MaxCost, -api.MaxCost), append([]int{0}, slices.Repeat([]int{far}, 63)...)},
	}
	if m, e := Marks(chain(64, api.MaxCost), []int{63, 0}); !sameTable(m, ends) || e != api.OK {
		t.Error(m, e)
	}
}

func TestManyMarks(t *testing.T) {
	for i, g := range many() {
		rows, _ := floyd.All(g)
		marks := someMarks(g.N, i%5, i)
		m, e := Marks(g, marks)
		if len(m.From) != len(marks) || len(m.To) != len(marks) || e != api.OK {
			t.Fatal(i, marks, m, e)
		}
		for k, v := range marks {
			if !slices.Equal(m.From[k], rows[v]) || !slices.Equal(m.To[k], column(rows, v)) {
				t.Fatal(i, marks, k, m)
			}
		}
	}
}

// tableOf has a row From and a row To for each two lists that are handed in.
func tableOf(rows ...[]int) api.Table {
	var t api.Table
	for i := 0; i < len(rows); i += 2 {
		t.From, t.To = append(t.From, rows[i]), append(t.To, rows[i+1])
	}
	return t
}

func TestBound(t *testing.T) {
	for _, x := range []struct {
		name  string
		table api.Table
		v, to int
		want  int
	}{
		{"no mark", tableOf(), 0, 1, 0},
		{"no mark, lists", api.Table{From: [][]int{}, To: [][]int{}}, 1, 0, 0},
		{"From alone tells", tableOf([]int{2, 9}, []int{4, 4}), 0, 1, 7},
		{"To alone tells", tableOf([]int{4, 4}, []int{9, 2}), 0, 1, 7},
		{"From, the wrong way round", tableOf([]int{9, 2}, []int{4, 4}), 0, 1, 0},
		{"To, the wrong way round", tableOf([]int{4, 4}, []int{2, 9}), 0, 1, 0},
		{"From is more", tableOf([]int{1, 9}, []int{8, 3}), 0, 1, 8},
		{"To is more", tableOf([]int{3, 8}, []int{9, 1}), 0, 1, 8},
		{"both the same", tableOf([]int{3, 8}, []int{6, 1}), 0, 1, 5},
		{"both tell nothing", tableOf([]int{8, 3}, []int{1, 6}), 0, 1, 0},
		{"0 all along", tableOf([]int{0, 0}, []int{0, 0}), 0, 1, 0},
		{"From's of v Far", tableOf([]int{far, 3}, []int{5, 5}), 0, 1, 0},
		{"From's of to Far", tableOf([]int{3, far}, []int{5, 5}), 0, 1, far},
		{"From's of to Far, of v 0", tableOf([]int{0, far}, []int{5, 5}), 0, 1, far},
		{"From's both Far", tableOf([]int{far, far}, []int{5, 5}), 0, 1, 0},
		{"To's of to Far", tableOf([]int{5, 5}, []int{3, far}), 0, 1, 0},
		{"To's of v Far", tableOf([]int{5, 5}, []int{far, 3}), 0, 1, far},
		{"To's of v Far, of to 0", tableOf([]int{5, 5}, []int{far, 0}), 0, 1, far},
		{"To's both Far", tableOf([]int{5, 5}, []int{far, far}), 0, 1, 0},
		{"From's both Far, To tells", tableOf([]int{far, far}, []int{8, 2}), 0, 1, 6},
		{"To's both Far, From tells", tableOf([]int{2, 8}, []int{far, far}), 0, 1, 6},
		{"all Far", tableOf([]int{far, far}, []int{far, far}), 0, 1, 0},
		{"1 less than Far is not Far", tableOf([]int{1, far - 1}, []int{5, 5}), 0, 1, far - 2},
		{"1 less than Far to Far", tableOf([]int{far - 1, far}, []int{5, 5}), 0, 1, far},
		{"Far to 1 less than Far", tableOf([]int{far, far - 1}, []int{far - 1, far}), 0, 1, 0},
		{"the first mark is most", tableOf([]int{0, 9}, []int{0, 0}, []int{0, 5}, []int{0, 0}, []int{0, 1}, []int{2, 0}), 0, 1, 9},
		{"the second is most", tableOf([]int{0, 5}, []int{0, 0}, []int{0, 0}, []int{9, 0}, []int{0, 1}, []int{2, 0}), 0, 1, 9},
		{"the fourth is most, From", tableOf([]int{0, 5}, []int{0, 0}, []int{0, 0}, []int{6, 0}, []int{0, 1}, []int{2, 0}, []int{1, 8}, []int{0, 0}), 0, 1, 7},
		{"the fourth is most, To", tableOf([]int{0, 5}, []int{0, 0}, []int{0, 0}, []int{6, 0}, []int{0, 1}, []int{2, 0}, []int{0, 0}, []int{8, 1}), 0, 1, 7},
		{"one mark is not held against another", tableOf([]int{0, 2}, []int{9, 9}, []int{9, 9}, []int{2, 0}), 0, 1, 2},
		{"a mark that tells Far, and one that tells less", tableOf([]int{0, far}, []int{0, 0}, []int{0, 4}, []int{0, 0}), 0, 1, far},
		{"a mark that tells nothing, and one that tells Far", tableOf([]int{far, 1}, []int{1, far}, []int{0, 4}, []int{far, 0}), 0, 1, far},
		{"v is to", tableOf([]int{3, 8}, []int{9, 1}), 1, 1, 0},
		{"v is to, Far", tableOf([]int{far, 8}, []int{far, 1}), 0, 0, 0},
		{"the other way", tableOf([]int{9, 2}, []int{1, 6}), 1, 0, 7},
	} {
		if w, e := Bound(x.table, 2, x.v, x.to); w != x.want || e != api.OK {
			t.Error(x.name, w, e)
		}
	}
}

func TestBoundAtItsBounds(t *testing.T) {
	if w, e := Bound(tableOf([]int{7}, []int{far}), 1, 0, 0); w != 0 || e != api.OK {
		t.Error("one place", w, e)
	}
	up, down := rising(64, 0, 10), rising(64, 630, -9)
	for _, x := range []struct{ v, to, want int }{{0, 63, 630}, {63, 0, 0}, {63, 63, 0}, {0, 0, 0}, {62, 63, 10}, {0, 1, 10}, {1, 0, 0}} {
		if w, e := Bound(tableOf(up, down), 64, x.v, x.to); w != x.want || e != api.OK {
			t.Error(x.v, x.to, w, e)
		}
	}
	if w, e := Bound(tableOf(down, up), 64, 63, 0); w != 630 || e != api.OK {
		t.Error("back", w, e)
	}
	if w, e := Bound(api.Table{}, 64, 63, 63); w != 0 || e != api.OK {
		t.Error("no mark", w, e)
	}
}

func TestBoundRefusesNumbers(t *testing.T) {
	// A wrong table is told only if there is nothing wrong with the numbers.
	tables := []api.Table{{}, tableOf([]int{0, 0}, []int{0, 0}), {From: [][]int{{0}}}, {To: make([][]int, 5)}, tableOf([]int{-1}, []int{far + 1})}
	for i, table := range tables {
		for _, n := range []int{-1, 0, 65, math.MinInt, math.MaxInt} {
			for _, v := range []int{0, n - 1, n, -1} {
				if w, e := Bound(table, n, v, 0); w != 0 || e != api.ErrArg {
					t.Error("n", i, n, v, w, e)
				}
			}
		}
		for _, n := range []int{1, 2, 64} {
			for _, v := range []int{-1, n, n + 1, math.MinInt, math.MaxInt} {
				for _, other := range []int{0, n - 1, v} {
					if w, e := Bound(table, n, v, other); w != 0 || e != api.ErrArg {
						t.Error("v", i, n, v, other, w, e)
					}
					if w, e := Bound(table, n, other, v); w != 0 || e != api.ErrArg {
						t.Error("to", i, n, other, v, w, e)
					}
				}
			}
		}
	}
}

func TestBoundRefusesTables(t *testing.T) {
	row, rows := []int{0, 1, 2}, func(k int) [][]int { return slices.Repeat([][]int{{0, 1, 2}}, k) }
	type wrong struct {
		name  string
		table api.Table
	}
	l := []wrong{
		{"one row From, none To", api.Table{From: rows(1)}},
		{"no row From, one To", api.Table{To: rows(1)}},
		{"two rows From, one To", api.Table{From: rows(2), To: rows(1)}},
		{"one row From, two To", api.Table{From: rows(1), To: rows(2)}},
		{"4 rows From, 3 To", api.Table{From: rows(4), To: rows(3)}},
		{"3 rows From, 4 To", api.Table{From: rows(3), To: rows(4)}},
		{"5 rows From, 4 To", api.Table{From: rows(5), To: rows(4)}},
		{"4 rows From, 5 To", api.Table{From: rows(4), To: rows(5)}},
		{"5 rows each", api.Table{From: rows(5), To: rows(5)}},
		{"100 rows each", api.Table{From: rows(100), To: rows(100)}},
	}
	bad := [][]int{nil, {}, {0}, {0, 1}, {0, 1, 2, 3}, make([]int, 64), make([]int, 1000)}
	for i := range row {
		for _, x := range []int{-1, -far, far + 1, math.MinInt, math.MaxInt} {
			bad = append(bad, with(row, i, x))
		}
	}
	for _, b := range bad {
		for k := 1; k <= 4; k++ {
			for at := range k {
				from, to := rows(k), rows(k)
				from[at], to[at] = b, b
				l = append(l, wrong{"From", api.Table{From: from, To: rows(k)}}, wrong{"To", api.Table{From: rows(k), To: to}}, wrong{"both", api.Table{From: from, To: to}})
			}
		}
	}
	for _, x := range l {
		for v := range 3 {
			for to := range 3 {
				if w, e := Bound(x.table, 3, v, to); w != 0 || e != api.ErrForm {
					t.Error(x.name, x.table, v, to, w, e)
				}
			}
		}
	}
	for _, k := range []int{0, 1, 4} {
		for _, n := range []int{1, 2, 4, 64} {
			want := api.ErrForm
			if k == 0 {
				want = api.OK
			}
			if w, e := Bound(api.Table{From: rows(k), To: rows(k)}, n, 0, 0); w != 0 || e != want {
				t.Error(k, n, w, e)
			}
		}
	}
	if w, e := Bound(api.Table{From: rows(4), To: rows(4)}, 3, 0, 2); w != 2 || e != api.OK {
		t.Error("as many rows as there may be", w, e)
	}
}

// gap works out how far two costs are apart.
func gap(a, b int) int {
	switch {
	case a == far || b != far && b < a:
		return 0
	case b == far:
		return far
	}
	return b - a
}

func TestManyBounds(t *testing.T) {
	numbers := []int{0, 1, 5, 9, far - 1, far}
	for _, a := range numbers {
		for _, b := range numbers {
			for _, c := range numbers {
				for _, d := range numbers {
					table := tableOf([]int{a, 3, b}, []int{c, 3, d})
					if w, e := Bound(table, 3, 0, 2); w != max(gap(a, b), gap(d, c)) || e != api.OK {
						t.Error("on", table, w, e)
					}
					if w, e := Bound(table, 3, 2, 0); w != max(gap(b, a), gap(c, d)) || e != api.OK {
						t.Error("back", table, w, e)
					}
				}
			}
		}
	}
}

func TestOf(t *testing.T) {
	rows := someRows()
	for to := range 6 {
		if l, e := Of(some(), []int{to}, to); !slices.Equal(l, column(rows, to)) || e != api.OK {
			t.Error("the end itself as a mark", to, l, e)
		}
		if l, e := Of(some(), nil, to); !slices.Equal(l, make([]int, 6)) || e != api.OK {
			t.Error("no mark", to, l, e)
		}
	}
	for _, x := range []struct {
		name  string
		g     api.Net
		marks []int
		to    int
		want  []int
	}{
		{"by a mark that no walk leads to from the end", some(), []int{4}, 3, []int{6, 4, 0, 0, 7, 0}},
		{"by a mark that leads to the end, and the end to it", some(), []int{3}, 2, []int{0, 0, 0, 1, 0, 2}},
		{"of no walk nothing is told", netOf(3, edge(0, 1, 5)), []int{2}, 1, []int{0, 0, far}},
		{"to where no walk leads", netOf(3, edge(0, 1, 5)), []int{0}, 2, []int{far, far, 0}},
		{"the end among four", some(), []int{0, 5, 2, 3}, 2, column(rows, 2)},
		{"one place", netOf(1), []int{0, 0, 0, 0}, 0, []int{0}},
		{"one place, no mark", netOf(1, edge(0, 0, 4)), nil, 0, []int{0}},
		{"64 places, the end as a mark", chain(64, 3), []int{63}, 63, rising(64, 189, -3)},
		{"64 places, the begin as a mark", chain(64, 3), []int{0}, 63, append([]int{189}, rising(63, 186, -3)...)},
	} {
		if l, e := Of(x.g, x.marks, x.to); !slices.Equal(l, x.want) || e != api.OK {
			t.Error(x.name, l, e)
		}
	}
}

func TestOfIsBoundOfMarks(t *testing.T) {
	for i, g := range many() {
		for k := range 5 {
			marks := someMarks(g.N, k, i)
			to := (i*i + k) % g.N
			l, e := Of(g, marks, to)
			if len(l) != g.N || e != api.OK {
				t.Fatal(i, marks, to, l, e)
			}
			table, _ := Marks(g, marks)
			for v, c := range l {
				if w, e := Bound(table, g.N, v, to); w != c || e != api.OK {
					t.Fatal(i, marks, v, to, w, c, e)
				}
			}
		}
	}
}

func TestOfAnswersAGuess(t *testing.T) {
	told := 0
	for i, g := range many() {
		to := (i * i) % g.N
		costs := least(g, to)
		var before []int
		for k := range 5 {
			marks := someMarks(g.N, 4, i)[:k]
			l, _ := Of(g, marks, to)
			if e := Check(g, to, l); e != api.OK {
				t.Fatal(i, marks, to, l, e)
			}
			for v, c := range l {
				if c > costs[v] || k > 0 && c < before[v] {
					t.Fatal(i, marks, to, v, l, costs, before)
				}
				if 0 < c && c < costs[v] {
					told++
				}
			}
			before = l
		}
		if l, e := Of(g, []int{g.N - 1, to}, to); !slices.Equal(l, costs) || e != api.OK {
			t.Fatal("the end itself as a mark", i, to, l, costs, e)
		}
	}
	if told < 1000 {
		t.Error("the guesses are too much the same:", told)
	}
}

// spoil writes x over l and the room behind it.
func spoil[T any](l []T, x T) {
	l = l[:cap(l)]
	for i := range l {
		l[i] = x
	}
}

func spoilTable(t api.Table) {
	for _, row := range slices.Concat(t.From, t.To) {
		spoil(row, -77)
	}
	spoil(t.From, nil)
	spoil(t.To, nil)
}

func TestTheNetStays(t *testing.T) {
	edges := []api.Edge{edge(3, 1, 2), edge(1, 2, 3), edge(2, 1, 1), edge(2, 0, 1), edge(3, 3, 1), edge(9, 9, 9), edge(0, 3, 1)}
	room := []int{0, 3, 1, 0, 2, -5, 7}
	wasEdges, was := slices.Clone(edges), slices.Clone(room)
	for n := range len(edges) + 1 {
		g := netOf(4, edges[:n]...)
		for m := range len(room) + 1 {
			table, _ := Marks(g, room[:m])
			spoilTable(table)
			l, _ := Of(g, room[:m], 1)
			spoil(l, -77)
			Check(g, 0, room[:m])
		}
		if g.N != 4 || !slices.Equal(edges, wasEdges) || !slices.Equal(room, was) {
			t.Error(n, edges, room)
		}
	}
}

func TestTheTableStays(t *testing.T) {
	fresh := func() []int { return []int{4, far, 0, 2, -77, far + 1} }
	for n := 1; n <= 6; n++ {
		for k := range 4 {
			rows := [][]int{fresh()[:n], fresh()[:n], fresh()[:n], fresh()[:n]}
			table := api.Table{From: slices.Clone(rows)[:k], To: slices.Clone(rows)[:k]}
			for v := range n {
				Bound(table, n, v, n-1-v)
				Bound(table, 4, v, 0)
			}
			for _, row := range slices.Concat(rows, table.From[:4], table.To[:4]) {
				if len(row) != n || !slices.Equal(row[:6], fresh()) {
					t.Error(n, k, table)
				}
			}
		}
	}
}

func TestRowsShareNothing(t *testing.T) {
	for _, g := range []api.Net{some(), chain(64, 5), netOf(3), netOf(1), scatter(20, 60, 9, 3)} {
		rows, _ := floyd.All(g)
		for _, marks := range [][]int{{0, 0, 0, 0}, {0, g.N - 1}, {g.N - 1, 0, g.N - 1}} {
			for spoilt := range 2 * len(marks) {
				table, _ := Marks(g, marks)
				all := slices.Concat(table.From, table.To)
				spoil(all[spoilt], -77)
				for i, row := range all {
					want := rows[marks[i%len(marks)]]
					if i >= len(marks) {
						want = column(rows, marks[i-len(marks)])
					}
					if i != spoilt && !slices.Equal(row, want) {
						t.Fatal(g.N, marks, spoilt, i, row, want)
					}
				}
			}
		}
	}
}

func TestRowListsShareNothing(t *testing.T) {
	for k := range 5 {
		marks := make([]int, k)
		table, _ := Marks(some(), marks)
		spoil(table.From, nil)
		for _, row := range table.To {
			if !slices.Equal(row, column(someRows(), 0)) {
				t.Error(k, table)
			}
		}
		table, _ = Marks(some(), marks)
		spoil(table.To, nil)
		for _, row := range table.From {
			if !slices.Equal(row, someRows()[0]) {
				t.Error(k, table)
			}
		}
	}
}

func TestWhatIsAnsweredStays(t *testing.T) {
	g, marks := some(), []int{4, 4}
	table, _ := Marks(g, marks)
	l, _ := Of(g, marks, 3)
	otherTable, _ := Marks(g, marks)
	otherL, _ := Of(g, marks, 3)
	spoilTable(otherTable)
	spoil(otherL, -77)
	spoil(marks, 1)
	spoil(g.Edges, edge(0, 5, 1))
	rows := someRows()
	want := tableOf(rows[4], column(rows, 4), rows[4], column(rows, 4))
	if !sameTable(table, want) || !slices.Equal(l, []int{6, 4, 0, 0, 7, 0}) {
		t.Error(table, l)
	}
	if again, e := Of(g, marks, 5); !slices.Equal(again, []int{0, far, 0, 0, 0, 0}) || e != api.OK {
		t.Error(again, e)
	}
}
