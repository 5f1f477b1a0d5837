package weigh

import (
	"math"
	"math/big"
	"slices"
	"testing"

	"fellwalker/api"
	"fellwalker/dijk"
	"fellwalker/heur"
	"fellwalker/net"
	"fellwalker/ratio"
	"fellwalker/star"
	"fellwalker/walk"
)

const (
	far = api.Far
	top = api.MaxPart
)

func netOf(n int, edges ...api.Edge) api.Net { return api.Net{N: n, Edges: edges} }

// edge leads from a to b.
func edge(a, b, cost int) api.Edge { return api.Edge{From: a, To: b, Cost: cost} }

func of(num, den int) api.Ratio { return api.Ratio{Num: num, Den: den} }

// chain is a net of n places in which each leads to the next.
func chain(n, cost int) api.Net {
	g := api.Net{N: n}
	for v := range n - 1 {
		g.Edges = append(g.Edges, edge(v, v+1, cost))
	}
	return g
}

// rising are n numbers from first on, each by that step.
func rising(n, first, step int) []int {
	l := make([]int, n)
	for i := range l {
		l[i] = first + i*step
	}
	return l
}

func found(cost int, path, order []int) api.Found {
	return api.Found{Way: api.Way{Path: path, Cost: cost}, Order: order}
}

func isZero(f api.Found) bool { return f.Way.Path == nil && f.Way.Cost == 0 && f.Order == nil }

func same(a, b api.Found) bool {
	return slices.Equal(a.Way.Path, b.Way.Path) && a.Way.Cost == b.Way.Cost && slices.Equal(a.Order, b.Order)
}

// scatter makes a net whose edges hang on seed, with costs from 1 to most.
func scatter(n, edges, most, seed int) api.Net {
	g := api.Net{N: n}
	x := uint32(seed*2654435761 + 12345)
	next := func(below int) int {
		x = x*1664525 + 1013904223
		return int(x>>8) % below
	}
	for range edges {
		g.Edges = append(g.Edges, edge(next(n), next(n), 1+next(most)))
	}
	return g
}

// many are nets of all sizes, with few edges and with many, with costs that are often the same and with others, and ground.
func many() []api.Net {
	var l []api.Net
	for _, n := range []int{1, 2, 3, 5, 8, 20, 64} {
		for _, edges := range []int{0, n, 3 * n / 2, 3 * n, 600} {
			for seed := range 2 {
				for _, most := range []int{1, 3, 9, api.MaxCost} {
					l = append(l, scatter(n, edges, most, seed+n+most))
				}
			}
		}
	}
	for w := 1; w <= api.MaxSide; w++ {
		ground := api.Grid{W: w, H: 9 - w}
		for i := range w * (9 - w) {
			ground.Cells = append(ground.Cells, (i*i+3*i+w)%4)
		}
		g, _ := net.Of(ground)
		l = append(l, g)
	}
	return l
}

// least answers what it costs least from each place to to.
func least(g api.Net, to int) []int {
	back, _ := net.Turn(g)
	l, _ := dijk.Dist(back, to)
	return l
}

// guesses are of 0, just what it costs least, and between.
func guesses(g api.Net, to int) [][]int {
	costs := least(g, to)
	half := slices.Clone(costs)
	for v, c := range costs {
		half[v] = c / 2
	}
	marked, _ := heur.Of(g, []int{0, g.N / 2, g.N - 1}, to)
	return [][]int{make([]int, g.N), costs, half, marked}
}

// weights are 1, just above it, and up to the greatest.
func weights() []api.Ratio {
	return []api.Ratio{of(1, 1), of(top, top-1), of(3, 2), of(2, 1), of(19, 7), of(10, 1), of(top, 3), of(top-1, 1), of(top, 1)}
}

// rank is what places are chosen by: a key that no bound of int cuts, a guess, and a number.
type rank struct {
	key   *big.Int
	guess int
	place int
}

func rankOf(w api.Ratio, cost, guess, place int) rank {
	times := func(a, b int) *big.Int { return new(big.Int).Mul(big.NewInt(int64(a)), big.NewInt(int64(b))) }
	return rank{new(big.Int).Add(times(w.Den, cost), times(w.Num, guess)), guess, place}
}

func (a rank) ahead(b rank) bool {
	if c := a.key.Cmp(b.key); c != 0 {
		return c < 0
	}
	return a.guess < b.guess || a.guess == b.guess && a.place < b.place
}

// byWords does what P41 says, word by word, with the key of P44: what waits stands in a map, by its rank.
func byWords(g api.Net, from, to int, h []int, w api.Ratio) (api.Found, api.Errno) {
	waiting, cost, got, done := map[int]rank{}, make([]int, g.N), make([]int, g.N), make([]bool, g.N)
	if h[from] != far {
		waiting[from] = rankOf(w, 0, h[from], from)
	}
	var order []int
	for len(waiting) > 0 {
		at := -1
		for v, r := range waiting {
			if at < 0 || r.ahead(waiting[at]) {
				at = v
			}
		}
		delete(waiting, at)
		done[at] = true
		order = append(order, at)
		if at == to {
			path := []int{to}
			for path[0] != from {
				path = slices.Insert(path, 0, got[path[0]])
			}
			return found(cost[to], path, order), api.OK
		}
		for _, d := range g.Edges {
			sum := cost[at] + d.Cost
			_, waits := waiting[d.To]
			if d.From == at && h[d.To] != far && !done[d.To] && (!waits || cost[d.To] > sum) {
				cost[d.To], got[d.To], waiting[d.To] = sum, at, rankOf(w, sum, h[d.To], d.To)
			}
		}
	}
	return api.Found{}, api.ErrNone
}

// wrongWeights are no ratio in its form, or are below 1, with what Weight answers.
func wrongWeights() map[api.Ratio]api.Errno {
	m := map[api.Ratio]api.Errno{}
	for _, w := range []api.Ratio{
		{}, of(1, 0), of(2, 0), of(2, 2), of(4, 2), of(6, 4), of(top, 2), of(top, top), of(3, -1), of(-3, -1), of(1, -1), of(-1, -1),
		of(top+1, 1), of(top+1, top), of(2*top, 1), of(math.MaxInt, 1), of(math.MaxInt, math.MaxInt), of(math.MaxInt, math.MinInt), of(math.MinInt, math.MinInt),
		// These would be below 1, too.
		of(2, 4), of(0, 2), of(0, top), of(-2, 2), of(1, top+1), of(-top-1, 1), of(math.MinInt, 1), of(1, math.MaxInt), of(-1, 0),
	} {
		m[w] = api.ErrForm
	}
	for _, w := range []api.Ratio{of(0, 1), of(-1, 1), of(1, 2), of(2, 3), of(top-1, top), of(1, top), of(-1, top), of(-top, 1), of(-top, top-1), of(-3, 2)} {
		m[w] = api.ErrArg
	}
	return m
}

func TestWeight(t *testing.T) {
	for _, w := range append(weights(), of(top-1, top-2), of(1001, 1000), of(2, 1), of(500001, 500000), of(top, 999)) {
		if e := Weight(w); e != api.OK {
			t.Error(w, e)
		}
	}
	for w, want := range wrongWeights() {
		if e := Weight(w); e != want {
			t.Error(w, e, want)
		}
	}
	for den := 1; den <= 30; den++ {
		for num := -40; num <= 40; num++ {
			w := of(num, den)
			want := ratio.Check(w)
			if want == api.OK && num < den {
				want = api.ErrArg
			}
			if e := Weight(w); e != want {
				t.Error(w, e, want)
			}
		}
	}
}

func TestRunRefusesWeights(t *testing.T) {
	for w, want := range wrongWeights() {
		for _, g := range []api.Net{netOf(1), netOf(2, edge(0, 1, 3)), netOf(2), chain(64, 3)} {
			// In some of them no walk leads to the end, which is told only if the weight is right.
			for _, v := range []int{0, g.N - 1} {
				if f, e := Run(g, v, 0, make([]int, g.N), w); !isZero(f) || e != want {
					t.Error(w, g.N, v, f, e)
				}
				if f, e := Run(g, 0, v, make([]int, g.N), w); !isZero(f) || e != want {
					t.Error(w, g.N, v, f, e)
				}
			}
		}
	}
}

func TestLooksErrorIsToldAheadOfTheWeights(t *testing.T) {
	good, wrong := netOf(3, edge(0, 1, 3), edge(1, 0, 3)), netOf(2, edge(0, 1, 0))
	for _, x := range []struct {
		name     string
		g        api.Net
		from, to int
		h        []int
		want     api.Errno
	}{
		{"no place", netOf(0), 0, 0, nil, api.ErrArg},
		{"65 places", netOf(65), 0, 0, make([]int, 65), api.ErrArg},
		{"601 edges", netOf(2, slices.Repeat([]api.Edge{edge(0, 1, 1)}, 601)...), 0, 1, []int{0, 0}, api.ErrLarge},
		{"an edge to no place", netOf(2, edge(0, 2, 1)), 0, 1, []int{0, 0}, api.ErrArg},
		{"an edge of 0", wrong, 0, 1, []int{0, 0}, api.ErrCost},
		{"an edge of 0, from no place", wrong, 2, 1, []int{0, 0}, api.ErrCost},
		{"an edge of 0, wrong guesses", wrong, 0, 1, []int{9, 9}, api.ErrCost},
		{"too dear", netOf(2, edge(0, 1, api.MaxCost+1)), 0, 1, []int{0, 0}, api.ErrCost},
		{"from no place", good, 3, 0, []int{0, 0, 0}, api.ErrArg},
		{"to no place, wrong guesses", good, 0, -1, []int{9, 9, 9}, api.ErrArg},
		{"from far off", good, math.MaxInt, 1, []int{0, 0, 0}, api.ErrArg},
		{"too few guesses", good, 0, 1, []int{0, 0}, api.ErrArg},
		{"guesses beyond Far", good, 0, 1, []int{far + 1, 0, 0}, api.ErrArg},
		{"guesses below 0", good, 0, 1, []int{0, 0, -1}, api.ErrArg},
		{"guesses that do not agree", good, 0, 1, []int{4, 0, 0}, api.ErrHeur},
		{"the end's is not 0", good, 0, 1, []int{0, 1, 0}, api.ErrHeur},
		{"guesses that do not agree, and no walk", good, 0, 2, []int{4, 0, 0}, api.ErrHeur},
	} {
		if e := star.Look(x.g, x.from, x.to, x.h); e != x.want {
			t.Error("Look", x.name, e)
		}
		l := weights()
		for w := range wrongWeights() {
			l = append(l, w)
		}
		for _, w := range l {
			if f, e := Run(x.g, x.from, x.to, x.h, w); !isZero(f) || e != x.want {
				t.Error(x.name, w, f, e)
			}
		}
	}
}

func TestRun(t *testing.T) {
	// Over 1 it costs 9, over 2 it costs 10; 2 seems to be nearer to the end.
	fork := netOf(4, edge(0, 1, 1), edge(1, 3, 8), edge(0, 2, 5), edge(2, 3, 5))
	near := []int{7, 8, 2, 0}
	// 2 is reached for 5, and over 1 for 2.
	late := netOf(5, edge(0, 1, 1), edge(1, 2, 1), edge(0, 2, 5), edge(2, 3, 2), edge(3, 4, 6))
	waits := netOf(5, append(slices.Clone(late.Edges), edge(1, 3, 2))...)
	ahead := []int{8, 7, 6, 6, 0}
	five := netOf(4, edge(0, 1, 2), edge(0, 2, 5), edge(1, 3, 6), edge(2, 3, 4))
	level := netOf(4, edge(0, 2, 3), edge(0, 1, 3), edge(2, 3, 4), edge(1, 3, 4))
	for _, x := range []struct {
		name     string
		g        api.Net
		from, to int
		h        []int
		w        api.Ratio
		want     api.Found
	}{
		{"soon, for more than the least", fork, 0, 3, near, of(2, 1), found(10, []int{0, 2, 3}, []int{0, 2, 3})},
		{"the least, by the weight 1", fork, 0, 3, near, of(1, 1), found(9, []int{0, 1, 3}, []int{0, 2, 1, 3})},
		{"the least, by a weight just above 1", fork, 0, 3, near, of(top, top-1), found(9, []int{0, 1, 3}, []int{0, 2, 1, 3})},
		{"the end's key is that of one over which it costs less", fork, 0, 3, near, of(9, 8), found(10, []int{0, 2, 3}, []int{0, 2, 3})},
		{"the greatest weight", fork, 0, 3, near, of(top, 1), found(10, []int{0, 2, 3}, []int{0, 2, 3})},
		{"guesses of 0 tell nothing, whatever they weigh", fork, 0, 3, make([]int, 4), of(top, 1), found(9, []int{0, 1, 3}, []int{0, 1, 2, 3})},
		{"just what it costs", fork, 0, 3, []int{9, 8, 5, 0}, of(2, 1), found(10, []int{0, 2, 3}, []int{0, 2, 3})},
		{"Den weighs the cost", five, 0, 3, []int{5, 4, 2, 0}, of(5, 4), found(8, []int{0, 1, 3}, []int{0, 1, 2, 3})},
		{"Num weighs the guess", five, 0, 3, []int{5, 4, 2, 0}, of(5, 3), found(8, []int{0, 1, 3}, []int{0, 2, 1, 3})},
		{"both weigh", five, 0, 3, []int{5, 4, 2, 0}, of(7, 4), found(9, []int{0, 2, 3}, []int{0, 2, 3})},

		// With the weight 3/2 both keys are 16 (2 times 2 and 3 times 4, 2 times 5 and 3 times 2).
		{"the same key: the least guess", five, 0, 3, []int{5, 4, 2, 0}, of(3, 2), found(8, []int{0, 1, 3}, []int{0, 2, 1, 3})},
		{"the same key and guess: the least number", level, 0, 3, []int{6, 4, 4, 0}, of(3, 1), found(7, []int{0, 1, 3}, []int{0, 1, 3})},
		{"not again, for less, once looked from", late, 0, 4, ahead, of(5, 1), found(13, []int{0, 2, 3, 4}, []int{0, 2, 1, 3, 4})},
		{"anew, for less, while it waits", waits, 0, 4, ahead, of(5, 1), found(9, []int{0, 1, 3, 4}, []int{0, 2, 1, 3, 4})},
		{"the same net by the weight 1", late, 0, 4, ahead, of(1, 1), found(10, []int{0, 1, 2, 3, 4}, []int{0, 1, 2, 3, 4})},

		{"one place", netOf(1), 0, 0, []int{0}, of(top, 1), found(0, []int{0}, []int{0})},
		{"the same place", fork, 3, 3, near, of(3, 2), found(0, []int{3}, []int{3})},
		{"64 places, no edge", netOf(64), 5, 5, make([]int, 64), of(7, 2), found(0, []int{5}, []int{5})},
		{"600 edges, the first the least", netOf(2, append([]api.Edge{edge(0, 1, 8)}, slices.Repeat([]api.Edge{edge(0, 1, 9)}, 599)...)...), 0, 1, []int{8, 0}, of(2, 1), found(8, []int{0, 1}, []int{0, 1})},
		{"several edges, and to itself", netOf(3, edge(0, 1, 8), edge(0, 1, 2), edge(0, 0, 1), edge(0, 1, 3), edge(1, 2, 7), edge(1, 1, 1), edge(1, 2, 5)), 0, 2, []int{7, 5, 0}, of(3, 2), found(7, []int{0, 1, 2}, []int{0, 1, 2})},
		{"one whose guess is Far", netOf(4, edge(0, 1, 1), edge(0, 2, 5), edge(2, 3, 5)), 0, 3, []int{10, far, 5, 0}, of(top, 1), found(10, []int{0, 2, 3}, []int{0, 2, 3})},
	} {
		if f, e := Run(x.g, x.from, x.to, x.h, x.w); !same(f, x.want) || e != api.OK {
			t.Error(x.name, f, e)
		}
	}
}

func TestTheGreatestKeys(t *testing.T) {
	for _, w := range []api.Ratio{of(top, 1), of(top, top-1), of(top, 999983), of(top-1, top-2)} {
		for _, h := range [][]int{make([]int, 64), rising(64, 630000, -10000)} {
			all := rising(64, 0, 1)
			if f, e := Run(chain(64, api.MaxCost), 0, 63, h, w); !same(f, found(630000, all, all)) || e != api.OK {
				t.Error("as dear as may be", w, f, e)
			}
		}
		// Nothing leads from 1, so its guess may be anything; its key is the greatest that there is.
		g := netOf(64, append(chain(64, api.MaxCost).Edges[2:], edge(0, 1, api.MaxCost), edge(0, 2, api.MaxCost))...)
		for _, guess := range []int{630000, far / 2, far - 10001, far - 1, far} {
			h := rising(64, 630000, -10000)
			h[0], h[1] = 620000, guess
			want := append([]int{0}, rising(62, 2, 1)...)
			if f, e := Run(g, 0, 63, h, w); !same(f, found(620000, want, want)) || e != api.OK {
				t.Error("a guess of", guess, w, f, e)
			}
		}
		// All wait with such guesses, and no walk leads to the end.
		g = netOf(64, chain(63, api.MaxCost).Edges...)
		if f, e := Run(g, 0, 63, append(rising(63, far-630000, 10000), 0), w); !isZero(f) || e != api.ErrNone {
			t.Error("no walk", w, f, e)
		}
	}
}

func TestKeysThatAreAlmostTheSame(t *testing.T) {
	w := of(top, 999983)
	for _, x := range []struct {
		guess, last int
		order       []int
	}{
		{58822, 8824, []int{0, 3, 4, 5, 6, 7, 1, 2, 8}}, // the key of 1 is less by 9
		{58823, 8825, []int{0, 3, 4, 5, 6, 7, 2, 1, 8}}, // the key of 1 is more by 8
	} {
		// 1 leads nowhere; 2 is reached over 3 to 7, with a guess of 0.
		g := netOf(9, edge(0, 1, 1), edge(0, 3, 10000), edge(3, 4, 10000), edge(4, 5, 10000), edge(5, 6, 10000), edge(6, 7, 10000), edge(7, 2, x.last), edge(2, 8, 1))
		want := found(50000+x.last+1, []int{0, 3, 4, 5, 6, 7, 2, 8}, x.order)
		if f, e := Run(g, 0, 8, []int{0, x.guess, 0, 0, 0, 0, 0, 0, 0}, w); !same(f, want) || e != api.OK {
			t.Error(x.guess, f, e)
		}
	}
}

func TestRunTellsThatThereIsNone(t *testing.T) {
	for _, w := range weights() {
		for _, x := range []struct {
			name     string
			g        api.Net
			from, to int
			h        []int
		}{
			{"guesses of 0", netOf(3, edge(0, 1, 5), edge(2, 0, 1)), 0, 2, make([]int, 3)},
			{"guesses between", netOf(3, edge(0, 1, 5)), 0, 2, []int{9, 7, 0}},
			{"from itself is Far", netOf(3, edge(0, 1, 5)), 0, 2, []int{far, far - 5, 0}},
			{"one behind it is Far", netOf(3, edge(0, 1, 5)), 0, 2, []int{7, far, 0}},
			{"64 places, no edge", netOf(64), 0, 63, make([]int, 64)},
			{"64 places in a chain, back", chain(64, 1), 63, 0, make([]int, 64)},
		} {
			if f, e := Run(x.g, x.from, x.to, x.h, w); !isZero(f) || e != api.ErrNone {
				t.Error(x.name, w, f, e)
			}
		}
	}
}

func TestManyRuns(t *testing.T) {
	told := map[string]int{}
	for i, g := range many() {
		for k := range 2 {
			from, to := (i*i+5*k+1)%g.N, (3*i+k)%g.N
			costs := least(g, to)
			for j, h := range guesses(g, to) {
				for _, w := range weights() {
					want, wrong := byWords(g, from, to, h, w)
					f, e := Run(g, from, to, h, w)
					if e != wrong || !same(f, want) || (e == api.OK) != (costs[from] < far) {
						t.Fatal(i, from, to, j, w, f, e, want, wrong)
					}
					if e != api.OK {
						told["none"]++
						continue
					}
					cost, wrong := walk.Cost(g, f.Way.Path)
					if cost != f.Way.Cost || wrong != api.OK || w.Den*cost > w.Num*costs[from] {
						t.Fatal("costs", i, from, to, j, w, f, cost, wrong, costs[from])
					}
					if cost > costs[from] {
						told["more than the least"]++
					}
				}
			}
		}
	}
	if told["none"] < 1000 || told["more than the least"] < 100 {
		t.Error("the searches are too much the same:", told)
	}
}

func TestTheWeight1IsTheSearchOfStar(t *testing.T) {
	for i, g := range many() {
		for k := range 3 {
			from, to := (i*i+5*k+1)%g.N, (3*i+k)%g.N
			for j, h := range guesses(g, to) {
				want, wrong := star.Run(g, from, to, h)
				// Just above 1 a key tells apart only what costs and guesses together tell apart, and then the lesser guess.
				for _, w := range []api.Ratio{of(1, 1), of(top, top-1)} {
					if f, e := Run(g, from, to, h, w); !same(f, want) || e != wrong {
						t.Fatal(i, from, to, j, w, f, e, want, wrong)
					}
				}
			}
		}
	}
}

// spoil writes x over l and the room behind it.
func spoil[T any](l []T, x T) {
	l = l[:cap(l)]
	for i := range l {
		l[i] = x
	}
}

func TestWhatIsHandedInStays(t *testing.T) {
	edges := []api.Edge{edge(0, 1, 2), edge(1, 2, 3), edge(2, 0, 1), edge(0, 0, 1), edge(0, 2, 9), edge(9, 9, 9), edge(0, 3, 1)}
	room := []int{5, 3, 0, far, -5, 7, far + 1}
	wasEdges, was := slices.Clone(edges), slices.Clone(room)
	for n := range len(edges) + 1 {
		g := netOf(4, edges[:n]...)
		for m := range len(room) + 1 {
			for v := range 4 {
				f, _ := Run(g, v, 2, room[:m], of(3, 2))
				spoil(f.Way.Path, -77)
				spoil(f.Order, -77)
			}
		}
		if g.N != 4 || !slices.Equal(edges, wasEdges) || !slices.Equal(room, was) {
			t.Error(n, edges, room)
		}
	}
}

func TestPathAndOrderShareNothing(t *testing.T) {
	for i, g := range many() {
		from, to := (i*i+1)%g.N, (3*i)%g.N
		for j, h := range guesses(g, to) {
			want, e := Run(g, from, to, h, of(2, 1))
			if e != api.OK {
				continue
			}
			path, order := slices.Clone(want.Way.Path), slices.Clone(want.Order)
			f, _ := Run(g, from, to, h, of(2, 1))
			spoil(f.Way.Path, -77)
			if !slices.Equal(f.Order, order) {
				t.Fatal("Order", i, from, to, j, f)
			}
			f, _ = Run(g, from, to, h, of(2, 1))
			spoil(f.Order, -77)
			if !slices.Equal(f.Way.Path, path) {
				t.Fatal("Path", i, from, to, j, f)
			}
			// Nor does one answer with another.
			if !slices.Equal(want.Way.Path, path) || !slices.Equal(want.Order, order) {
				t.Fatal("another answer", i, from, to, j, want)
			}
		}
	}
}

func TestWhatIsAnsweredStays(t *testing.T) {
	g, h := netOf(3, edge(0, 1, 2), edge(1, 2, 3), edge(0, 2, 9)), []int{0, 1, 0}
	f, e := Run(g, 0, 2, h, of(2, 1))
	spoil(g.Edges, edge(0, 2, 4))
	spoil(h, 0)
	if want := found(5, []int{0, 1, 2}, []int{0, 1, 2}); !same(f, want) || e != api.OK {
		t.Error(f, e)
	}
	if f, e := Run(g, 0, 2, h, of(2, 1)); !same(f, found(4, []int{0, 2}, []int{0, 2})) || e != api.OK {
		t.Error("the net of now", f, e)
	}
}
