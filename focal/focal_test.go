package focal

import (
	"math"
	"math/bits"
	"slices"
	"testing"

	"fellwalker/api"
	"fellwalker/dijk"
	"fellwalker/heur"
	"fellwalker/net"
	"fellwalker/star"
	"fellwalker/walk"
	"fellwalker/weigh"
)

const (
	far   = api.Far
	top   = api.MaxPart
	steps = api.MaxSteps
	least = math.MinInt
	most  = math.MaxInt
)

func netOf(n int, edges ...api.Edge) api.Net { return api.Net{N: n, Edges: edges} }

// edge leads from a to b.
func edge(a, b, cost int) api.Edge { return api.Edge{From: a, To: b, Cost: cost} }

func of(num, den int) api.Ratio { return api.Ratio{Num: num, Den: den} }

// chain is a net of n places in which each leads to the next.
func chain(n, cost int) api.Net {
	g := api.Net{N: n}
	for v := range n - 1 {
		g.Edges = append(g.Edges, edge(v, v+1, cost))
	}
	return g
}

// rising are n numbers from first on, each by that step.
func rising(n, first, step int) []int {
	l := make([]int, n)
	for i := range l {
		l[i] = first + i*step
	}
	return l
}

// with answers l with x in the place of what stands at i.
func with(l []int, i, x int) []int {
	l = slices.Clone(l)
	l[i] = x
	return l
}

func found(cost int, path, order []int) api.Found {
	return api.Found{Way: api.Way{Path: path, Cost: cost}, Order: order}
}

func isZero(f api.Found) bool { return f.Way.Path == nil && f.Way.Cost == 0 && f.Order == nil }

func same(a, b api.Found) bool {
	return slices.Equal(a.Way.Path, b.Way.Path) && a.Way.Cost == b.Way.Cost && slices.Equal(a.Order, b.Order)
}

// scatter makes a net whose edges hang on seed, with costs from 1 to most.
func scatter(n, edges, most, seed int) api.Net {
	g := api.Net{N: n}
	x := uint32(seed*2654435761 + 12345)
	next := func(below int) int {
		x = x*1664525 + 1013904223
		return int(x>>8) % below
	}
	for range edges {
		g.Edges = append(g.Edges, edge(next(n), next(n), 1+next(most)))
	}
	return g
}

// leaps is a round of n places from which edges lead on over few places and over many, those over many dearer than as many over few.
func leaps(n, far, seed int) api.Net {
	g := api.Net{N: n}
	for v := range n {
		for d := 1; d <= far; d++ {
			g.Edges = append(g.Edges, edge(v, (v+d)%n, d*d+(v*seed+d*3)%5+1))
		}
	}
	return g
}

// many are nets of all sizes, with few edges and with many, with costs that are often the same and with others, leaps, and ground.
func many() []api.Net {
	var l []api.Net
	for _, n := range []int{1, 2, 3, 5, 8, 20, 64} {
		for _, edges := range []int{0, n, 3 * n / 2, 3 * n, 600} {
			for seed := range 2 {
				for _, most := range []int{1, 3, 9, api.MaxCost} {
					l = append(l, scatter(n, edges, most, seed+n+most))
				}
			}
		}
	}
	for seed := range 20 {
		l = append(l, leaps(6+seed*3, 2+seed%5, seed))
	}
	for w := 1; w <= api.MaxSide; w++ {
		ground := api.Grid{W: w, H: 9 - w}
		for i := range w * (9 - w) {
			ground.Cells = append(ground.Cells, (i*i+3*i+w)%4)
		}
		g, _ := net.Of(ground)
		l = append(l, g)
	}
	return l
}

// leasts answers what it costs least from each place to to.
func leasts(g api.Net, to int) []int {
	back, _ := net.Turn(g)
	l, _ := dijk.Dist(back, to)
	return l
}

// guesses are of 0, just what it costs least, and between.
func guesses(g api.Net, to int) [][]int {
	costs := leasts(g, to)
	half := slices.Clone(costs)
	for v, c := range costs {
		half[v] = c / 2
	}
	marked, _ := heur.Of(g, []int{0, g.N / 2, g.N - 1}, to)
	return [][]int{make([]int, g.N), costs, half, marked}
}

// weights are 1, just above it, and up to the greatest.
func weights() []api.Ratio {
	return []api.Ratio{of(1, 1), of(top, top-1), of(3, 2), of(2, 1), of(19, 7), of(10, 1), of(top, 1)}
}

// tastes are all the same, below 0 and above, by numbers, by guesses, for the end, and the greatest that there are.
func tastes(h []int, to, seed int) [][]int {
	n := len(h)
	mixed, ends, near := make([]int, n), make([]int, n), slices.Clone(h)
	for v := range n {
		mixed[v] = (v*v*7+v*seed+3)%5 - 2
		ends[v] = []int{most, least, 0, least + 1, most - 1}[(v*3+seed)%5]
	}
	return [][]int{make([]int, n), rising(n, n/2, -1), mixed, ends, near, with(mixed, to, -3), with(rising(n, n/2, -1), to, -n)}
}

// waits is a place that waits, with its cost so far and what that and its guess are together.
type waits struct{ place, cost, sum int }

// model is what byWords tells beside what is answered: what to's cost so far was, and how often a place was looked from.
type model struct {
	found  api.Found
	wrong  api.Errno
	cost   int
	looked int
}

// byWords does what P45 says, word by word: what waits stands in a list, and what counts in another.
func byWords(g api.Net, from, to int, h []int, w api.Ratio, taste []int, steps int) model {
	cost, got := map[int]int{}, map[int]int{}
	var waiting []waits
	if h[from] != far {
		cost[from] = 0
		waiting = []waits{{from, 0, h[from]}}
	}
	var order []int
	for len(waiting) > 0 {
		count := thatCount(waiting, w)
		slices.SortFunc(count, func(a, b waits) int {
			if taste[a.place] < taste[b.place] {
				return -1
			}
			if taste[a.place] > taste[b.place] {
				return 1
			}
			return slices.Compare([]int{a.sum, a.place}, []int{b.sum, b.place})
		})
		at := count[0].place
		if len(order) >= steps {
			return model{wrong: api.ErrSteps, looked: len(order)}
		}
		order = append(order, at)
		if at == to {
			path := []int{to}
			for path[0] != from {
				path = slices.Insert(path, 0, got[path[0]])
			}
			return model{found(walked(g, path), path, order), api.OK, cost[to], len(order)}
		}
		waiting = without(waiting, at)
		for _, d := range g.Edges {
			has, ok := cost[d.To]
			sum := cost[at] + d.Cost
			if d.From == at && h[d.To] != far && (!ok || has > sum) {
				cost[d.To], got[d.To] = sum, at
				waiting = append(without(waiting, d.To), waits{d.To, sum, sum + h[d.To]})
			}
		}
	}
	return model{wrong: api.ErrNone, looked: len(order)}
}

func without(l []waits, place int) []waits {
	return slices.DeleteFunc(l, func(w waits) bool { return w.place == place })
}

// thatCount answers those whose sum is at most w times the least, by products that no bound of int cuts.
func thatCount(l []waits, w api.Ratio) []waits {
	low := l[0].sum
	for _, x := range l {
		low = min(low, x.sum)
	}
	var count []waits
	for _, x := range l {
		aHigh, aLow := bits.Mul64(uint64(w.Den), uint64(x.sum))
		bHigh, bLow := bits.Mul64(uint64(w.Num), uint64(low))
		if aHigh < bHigh || aHigh == bHigh && aLow <= bLow {
			count = append(count, x)
		}
	}
	return count
}

// walked is what a walk costs, of several edges by the one that costs least.
func walked(g api.Net, path []int) int {
	sum := 0
	for i := range len(path) - 1 {
		low := far
		for _, d := range g.Edges {
			if d.From == path[i] && d.To == path[i+1] {
				low = min(low, d.Cost)
			}
		}
		sum += low
	}
	return sum
}

// round is a net where 2 is reached for 5, and over 1 for 2; behind it lie 3 and the end.
func round() api.Net {
	return netOf(5, edge(0, 1, 1), edge(1, 2, 1), edge(0, 2, 5), edge(2, 3, 2), edge(3, 4, 6))
}

type run struct {
	name     string
	g        api.Net
	from, to int
	h        []int
	w        api.Ratio
	taste    []int
	want     api.Found
}

func check(t *testing.T, runs []run) {
	t.Helper()
	for _, x := range runs {
		if f, e := Run(x.g, x.from, x.to, x.h, x.w, x.taste, steps); !same(f, x.want) || e != api.OK {
			t.Error(x.name, f, e)
		}
		// Just as many steps as it takes are enough, and one less is not.
		looked := len(x.want.Order)
		if f, e := Run(x.g, x.from, x.to, x.h, x.w, x.taste, looked); !same(f, x.want) || e != api.OK {
			t.Error(x.name, "with just enough steps", f, e)
		}
		if f, e := Run(x.g, x.from, x.to, x.h, x.w, x.taste, looked-1); !isZero(f) || e != api.ErrSteps {
			t.Error(x.name, "with one step less", f, e)
		}
	}
}

func TestWhatCounts(t *testing.T) {
	none := make([]int, 4)
	// The end is reached over 1, for a, or over 2, for b, which is to taste.
	pair := func(a, b int) api.Net {
		return netOf(4, edge(0, 1, a), edge(0, 2, b), edge(1, 3, 5), edge(2, 3, 5))
	}
	taste := []int{0, 1, 0, 2}
	// The end is reached for 10000; 1 leads nowhere, and is to taste.
	side := netOf(3, edge(0, 2, 10000), edge(0, 1, 1))
	leaf := func(guess int) []int { return []int{0, guess, 0} }
	all, straight := found(10000, []int{0, 2}, []int{0, 1, 2}), found(10000, []int{0, 2}, []int{0, 2})
	check(t, []run{
		{"just at 3/2 of 6", pair(6, 9), 0, 3, none, of(3, 2), taste, found(11, []int{0, 1, 3}, []int{0, 2, 1, 3})},
		{"just above 3/2 of 6", pair(6, 10), 0, 3, none, of(3, 2), taste, found(11, []int{0, 1, 3}, []int{0, 1, 2, 3})},
		{"just below 3/2 of 7", pair(7, 10), 0, 3, none, of(3, 2), taste, found(12, []int{0, 1, 3}, []int{0, 2, 1, 3})},
		{"just above 3/2 of 7", pair(7, 11), 0, 3, none, of(3, 2), taste, found(12, []int{0, 1, 3}, []int{0, 1, 2, 3})},
		{"at 4/3 of 9", pair(9, 12), 0, 3, none, of(4, 3), taste, found(14, []int{0, 1, 3}, []int{0, 2, 1, 3})},
		{"above 4/3 of 9", pair(9, 13), 0, 3, none, of(4, 3), taste, found(14, []int{0, 1, 3}, []int{0, 1, 2, 3})},
		{"below 4/3 of 10", pair(10, 13), 0, 3, none, of(4, 3), taste, found(15, []int{0, 1, 3}, []int{0, 2, 1, 3})},
		{"above 4/3 of 10", pair(10, 14), 0, 3, none, of(4, 3), taste, found(15, []int{0, 1, 3}, []int{0, 1, 2, 3})},
		{"at 2 times 5", pair(5, 10), 0, 3, none, of(2, 1), taste, found(10, []int{0, 1, 3}, []int{0, 2, 1, 3})},
		{"above 2 times 5", pair(5, 11), 0, 3, none, of(2, 1), taste, found(10, []int{0, 1, 3}, []int{0, 1, 2, 3})},
		{"at 1 times 5", pair(5, 5), 0, 3, none, of(1, 1), taste, found(10, []int{0, 2, 3}, []int{0, 2, 1, 3})},
		{"above 1 times 5", pair(5, 6), 0, 3, none, of(1, 1), taste, found(10, []int{0, 1, 3}, []int{0, 1, 2, 3})},
		{"guesses count: at 3/2 of 6", pair(2, 7), 0, 3, []int{0, 4, 2, 0}, of(3, 2), taste, found(7, []int{0, 1, 3}, []int{0, 2, 1, 3})},
		{"guesses count: above 3/2 of 6", pair(2, 7), 0, 3, []int{0, 4, 3, 0}, of(3, 2), taste, found(7, []int{0, 1, 3}, []int{0, 1, 2, 3})},

		{"10001 of 10000", side, 0, 2, leaf(10000), of(10001, 10000), []int{0, -1, 0}, all},
		{"10002 of 10000", side, 0, 2, leaf(10001), of(10001, 10000), []int{0, -1, 0}, straight},
		{"10000 of 10000, by the least weight above 1", side, 0, 2, leaf(9999), of(top, top-1), []int{0, -1, 0}, all},
		{"10001 of 10000, by the least weight above 1", side, 0, 2, leaf(10000), of(top, top-1), []int{0, -1, 0}, straight},
		{"10^10 of 10000, by the greatest weight", side, 0, 2, leaf(10000*top - 1), of(top, 1), []int{0, -1, 0}, all},
		{"10^10 and 1 of 10000, by the greatest weight", side, 0, 2, leaf(10000 * top), of(top, 1), []int{0, -1, 0}, straight},
		{"almost Far, by the greatest weight", side, 0, 2, leaf(far - 1), of(top, 1), []int{0, -1, 0}, straight},
		{"almost Far, by the least weight above 1", side, 0, 2, leaf(far - 1), of(top, top-1), []int{0, -1, 0}, straight},

		// 2 is a third as dear again as 1, and counts once 1 does not wait any longer; 3 is dearer still.
		{"of all that wait, whatever its taste", netOf(5, edge(0, 1, 6), edge(0, 2, 8), edge(0, 3, 10), edge(1, 4, 9), edge(2, 4, 9), edge(3, 4, 9)), 0, 4, make([]int, 5), of(5, 4), []int{0, 9, 2, 1, 10}, found(15, []int{0, 1, 4}, []int{0, 1, 3, 2, 4})},
		// From has a sum of 0, of which 1 is no part that counts; from alone waits, and is looked from.
		{"the least is 0", netOf(2, edge(0, 1, 1), edge(0, 0, 1)), 0, 1, []int{0, 0}, of(1, 1), []int{9, 0}, found(1, []int{0, 1}, []int{0, 1})},
	})
}

func TestTheLeastTasteThenSumThenNumber(t *testing.T) {
	none := make([]int, 5)
	// 1, 2 and 3 are reached for 3, 2 and 2, and cost 7, 8 and 8 to the end, so 1 and 2 and 3 are one as good as the other.
	trio := netOf(5, edge(0, 3, 2), edge(0, 2, 2), edge(0, 1, 3), edge(1, 4, 7), edge(2, 4, 8), edge(3, 4, 8))
	for _, w := range []api.Ratio{of(2, 1), of(3, 2), of(10, 1), of(top, 1)} {
		check(t, []run{
			{"the least taste", trio, 0, 4, none, w, []int{0, 1, 3, 2, 9}, found(10, []int{0, 1, 4}, []int{0, 1, 3, 2, 4})},
			{"the least taste, below 0", trio, 0, 4, none, w, []int{0, -1, -2, -3, 9}, found(10, []int{0, 3, 4}, []int{0, 3, 2, 1, 4})},
			{"below 0, 0 and above", trio, 0, 4, none, w, []int{0, 0, 1, -1, 9}, found(10, []int{0, 3, 4}, []int{0, 3, 1, 2, 4})},
			{"the greatest tastes", trio, 0, 4, none, w, []int{most, least, most - 1, 0, most}, found(10, []int{0, 1, 4}, []int{0, 1, 3, 2, 4})},
			{"the greatest tastes, the other way", trio, 0, 4, none, w, []int{least, most - 1, least + 1, 0, most}, found(10, []int{0, 2, 4}, []int{0, 2, 3, 1, 4})},
			{"one just above another", trio, 0, 4, none, w, []int{0, most - 2, most - 1, most - 3, most}, found(10, []int{0, 3, 4}, []int{0, 3, 1, 2, 4})},
			{"one taste: the least sum, then number", trio, 0, 4, none, w, []int{7, 7, 7, 7, 8}, found(10, []int{0, 2, 4}, []int{0, 2, 3, 1, 4})},
			{"all of one taste", trio, 0, 4, none, w, none, found(10, []int{0, 2, 4}, []int{0, 2, 3, 1, 4})},
			{"all of the greatest taste", trio, 0, 4, none, w, slices.Repeat([]int{most}, 5), found(10, []int{0, 2, 4}, []int{0, 2, 3, 1, 4})},
			{"all of the least taste", trio, 0, 4, none, w, slices.Repeat([]int{least}, 5), found(10, []int{0, 2, 4}, []int{0, 2, 3, 1, 4})},
			{"the taste of two, then the least sum of them", trio, 0, 4, none, w, []int{0, 5, 6, 5, 9}, found(10, []int{0, 3, 4}, []int{0, 3, 1, 2, 4})},
			// Guesses make 1's sum 8, 2's 10 and 3's 8: the guess does not count by itself.
			{"one taste: the sum with the guess", trio, 0, 4, []int{8, 5, 8, 6, 0}, w, none, found(10, []int{0, 1, 4}, []int{0, 1, 3, 2, 4})},
		})
	}
}

func TestTheWeight1LeavesTheLeastSums(t *testing.T) {
	// Over 1 and over 2 it costs 9; 3 is dearer by 1, and most to taste.
	g := netOf(5, edge(0, 1, 1), edge(1, 4, 8), edge(0, 2, 5), edge(2, 4, 4), edge(0, 3, 2), edge(3, 4, 8))
	h := []int{9, 8, 4, 8, 0}
	check(t, []run{
		{"by taste", g, 0, 4, h, of(1, 1), []int{0, 2, 1, -9, 3}, found(9, []int{0, 2, 4}, []int{0, 2, 1, 4})},
		{"by taste, the other way", g, 0, 4, h, of(1, 1), []int{0, 1, 2, -9, 3}, found(9, []int{0, 1, 4}, []int{0, 1, 2, 4})},
		{"the end is to taste", g, 0, 4, h, of(1, 1), []int{0, 2, 1, -9, 0}, found(9, []int{0, 2, 4}, []int{0, 2, 4})},
		{"all of one taste: the least number, whatever its guess", g, 0, 4, h, of(1, 1), make([]int, 5), found(9, []int{0, 1, 4}, []int{0, 1, 2, 4})},
		{"the least weight above 1", g, 0, 4, h, of(top, top-1), []int{0, 2, 1, -9, 3}, found(9, []int{0, 2, 4}, []int{0, 2, 1, 4})},
		{"10 is above 10/9 less a little", g, 0, 4, h, of(111111, 100000), []int{0, 2, 1, -9, 3}, found(9, []int{0, 2, 4}, []int{0, 2, 1, 4})},
		{"10 is just at 10/9", g, 0, 4, h, of(10, 9), []int{0, 2, 1, -9, 0}, found(10, []int{0, 3, 4}, []int{0, 3, 4})},
	})
}

func TestWhatWasLookedFromWaitsAgain(t *testing.T) {
	none := make([]int, 5)
	// 2 is reached for 2 both from 0 and over 1.
	level := netOf(4, edge(0, 2, 2), edge(0, 1, 1), edge(1, 2, 1), edge(2, 3, 10))
	// 3 is reached for 9, then over 2 for 6, then over 1 for 3.
	thrice := netOf(5, edge(0, 3, 9), edge(0, 2, 5), edge(0, 1, 1), edge(2, 3, 1), edge(1, 3, 2), edge(3, 4, 20))
	check(t, []run{
		{"and is told again", round(), 0, 4, none, of(10, 1), []int{0, 9, 1, 2, 10}, found(10, []int{0, 1, 2, 3, 4}, []int{0, 2, 3, 1, 2, 3, 4})},
		{"but not what waits still", round(), 0, 4, none, of(10, 1), []int{0, 2, 1, 9, 10}, found(10, []int{0, 1, 2, 3, 4}, []int{0, 2, 1, 2, 3, 4})},
		{"twice", thrice, 0, 4, none, of(10, 1), []int{0, 3, 2, 1, 9}, found(23, []int{0, 1, 3, 4}, []int{0, 3, 2, 3, 1, 3, 4})},
		{"once only", thrice, 0, 4, none, of(10, 1), []int{0, 2, 3, 1, 9}, found(23, []int{0, 1, 3, 4}, []int{0, 3, 1, 3, 2, 4})},
		{"not for the same cost", level, 0, 3, none[:4], of(10, 1), []int{0, 2, 1, 3}, found(12, []int{0, 2, 3}, []int{0, 2, 1, 3})},
		{"not for the same cost, the other way", level, 0, 3, none[:4], of(10, 1), []int{0, 1, 2, 3}, found(12, []int{0, 2, 3}, []int{0, 1, 2, 3})},
		{"not for more", netOf(4, edge(0, 2, 2), edge(0, 1, 1), edge(1, 2, 2), edge(2, 3, 10)), 0, 3, none[:4], of(10, 1), []int{0, 2, 1, 3}, found(12, []int{0, 2, 3}, []int{0, 2, 1, 3})},
		{"for less by 1", netOf(4, edge(0, 2, 3), edge(0, 1, 1), edge(1, 2, 1), edge(2, 3, 10)), 0, 3, none[:4], of(10, 1), []int{0, 2, 1, 3}, found(12, []int{0, 1, 2, 3}, []int{0, 2, 1, 2, 3})},
		{"not back to where it was looked from", netOf(3, edge(0, 1, 1), edge(1, 0, 1), edge(1, 2, 3), edge(2, 1, 1)), 0, 2, none[:3], of(10, 1), []int{0, 1, 2}, found(4, []int{0, 1, 2}, []int{0, 1, 2})},
	})
}

func TestTheWalkMayCostLessThanWasKnown(t *testing.T) {
	// 4 has 13 as its cost so far as 2 gets 2 for 5 over 1; then 4 counts, and is more to taste than 2.
	check(t, []run{
		{"one step back", round(), 0, 4, make([]int, 5), of(10, 1), []int{0, 9, 1, 2, 0}, found(10, []int{0, 1, 2, 3, 4}, []int{0, 2, 3, 1, 4})},
		{"where it counts at once", round(), 0, 4, make([]int, 5), of(13, 1), []int{0, 9, 1, 2, 0}, found(13, []int{0, 2, 3, 4}, []int{0, 2, 3, 4})},
		{"all the way", round(), 0, 4, make([]int, 5), of(10, 1), []int{0, 9, 1, 2, 9}, found(10, []int{0, 1, 2, 3, 4}, []int{0, 2, 3, 1, 2, 3, 4})},
	})
}

func TestRun(t *testing.T) {
	fork := netOf(4, edge(0, 1, 1), edge(1, 3, 8), edge(0, 2, 5), edge(2, 3, 5))
	near := []int{9, 8, 5, 0}
	several := netOf(3, edge(0, 1, 8), edge(0, 1, 2), edge(0, 0, 1), edge(0, 1, 3), edge(1, 2, 7), edge(1, 1, 1), edge(1, 2, 5), edge(1, 2, 6), edge(2, 2, 1))
	check(t, []run{
		{"by taste", fork, 0, 3, near, of(3, 2), []int{0, 2, 1, 0}, found(10, []int{0, 2, 3}, []int{0, 2, 3})},
		{"by taste, all the same in the end", fork, 0, 3, near, of(3, 2), []int{0, 1, 2, 0}, found(9, []int{0, 1, 3}, []int{0, 1, 3})},
		{"the end is last to taste", fork, 0, 3, near, of(3, 2), []int{0, 2, 1, 3}, found(9, []int{0, 1, 3}, []int{0, 2, 1, 3})},
		{"the end is told last, and nothing is looked from behind it", netOf(4, edge(0, 1, 1), edge(1, 2, 1), edge(0, 3, 1)), 0, 1, make([]int, 4), of(9, 1), []int{0, 0, -9, 1}, found(1, []int{0, 1}, []int{0, 1})},
		{"the end is not over as it is reached", netOf(3, edge(0, 2, 9), edge(0, 1, 2), edge(1, 2, 3)), 0, 2, make([]int, 3), of(9, 1), []int{0, 0, 1}, found(5, []int{0, 1, 2}, []int{0, 1, 2})},

		{"several edges, and to itself", several, 0, 2, make([]int, 3), of(3, 1), []int{0, 0, 0}, found(7, []int{0, 1, 2}, []int{0, 1, 2})},
		{"several edges, the end to taste", several, 0, 2, []int{7, 5, 0}, of(3, 1), []int{2, 1, 0}, found(7, []int{0, 1, 2}, []int{0, 1, 2})},
		{"600 edges, the last the least", netOf(2, append(slices.Repeat([]api.Edge{edge(0, 1, 9)}, 599), edge(0, 1, 8))...), 0, 1, []int{8, 0}, of(2, 1), []int{0, 1}, found(8, []int{0, 1}, []int{0, 1})},
		{"600 edges, the first the least", netOf(2, append([]api.Edge{edge(0, 1, 8)}, slices.Repeat([]api.Edge{edge(0, 1, 9)}, 599)...)...), 0, 1, []int{8, 0}, of(2, 1), []int{0, 1}, found(8, []int{0, 1}, []int{0, 1})},

		{"one whose guess is Far never waits", netOf(4, edge(0, 1, 1), edge(0, 2, 5), edge(2, 3, 5)), 0, 3, []int{10, far, 5, 0}, of(top, 1), []int{0, least, 0, 0}, found(10, []int{0, 2, 3}, []int{0, 2, 3})},
		{"one whose guess is almost Far waits", netOf(4, edge(0, 1, 1), edge(0, 2, 5), edge(2, 3, 5)), 0, 3, []int{10, far - 1, 5, 0}, of(top, 1), []int{0, least, 0, 0}, found(10, []int{0, 2, 3}, []int{0, 2, 3})},
		{"one with a great guess that counts", netOf(4, edge(0, 1, 1), edge(0, 2, 5), edge(2, 3, 5)), 0, 3, []int{10, 10*top - 1, 5, 0}, of(top, 1), []int{0, least, 0, 0}, found(10, []int{0, 2, 3}, []int{0, 1, 2, 3})},

		{"the same place", fork, 0, 0, make([]int, 4), of(3, 2), []int{9, 0, 0, 0}, found(0, []int{0}, []int{0})},
		{"the same place, the last", fork, 3, 3, near, of(3, 2), []int{0, 2, 1, 0}, found(0, []int{3}, []int{3})},
		{"the same place with an edge to itself", netOf(2, edge(1, 1, 1)), 1, 1, []int{far, 0}, of(3, 2), []int{0, 0}, found(0, []int{1}, []int{1})},
		{"one place", netOf(1), 0, 0, []int{0}, of(top, 1), []int{least}, found(0, []int{0}, []int{0})},
		{"one place, 600 edges", netOf(1, slices.Repeat([]api.Edge{edge(0, 0, 1)}, 600)...), 0, 0, []int{0}, of(1, 1), []int{most}, found(0, []int{0}, []int{0})},
		{"64 places, no edge", netOf(64), 63, 63, make([]int, 64), of(7, 2), make([]int, 64), found(0, []int{63}, []int{63})},
		{"64 places in a chain, as dear as may be", chain(64, api.MaxCost), 0, 63, rising(64, 630000, -10000), of(top, top-1), rising(64, 0, 1), found(630000, rising(64, 0, 1), rising(64, 0, 1))},
		{"64 places in a chain, to taste from its end on", chain(64, api.MaxCost), 0, 63, make([]int, 64), of(top, 1), rising(64, 0, -1), found(630000, rising(64, 0, 1), rising(64, 0, 1))},
	})
}

func TestRunTellsThatThereIsNone(t *testing.T) {
	// No walk leads to 3; from 0 three places are looked from, and 2 again once it costs less.
	g := netOf(4, edge(0, 1, 3), edge(1, 2, 4), edge(0, 2, 9), edge(2, 0, 1), edge(3, 0, 1), edge(3, 3, 1))
	for _, x := range []struct {
		name     string
		g        api.Net
		from, to int
		h, taste []int
		looked   int
	}{
		{"guesses of 0", g, 0, 3, make([]int, 4), make([]int, 4), 3},
		{"one looked from twice", g, 0, 3, make([]int, 4), []int{0, 2, 1, 0}, 4},
		{"guesses between", g, 1, 3, []int{5, 6, 2, 0}, make([]int, 4), 3},
		{"all Far", g, 0, 3, []int{far, far, far, 0}, make([]int, 4), 0},
		{"from itself is Far", netOf(3, edge(0, 1, 5)), 0, 2, []int{far, far - 5, 0}, make([]int, 3), 0},
		{"one behind it is Far", netOf(3, edge(0, 1, 5)), 0, 2, []int{7, far, 0}, make([]int, 3), 1},
		{"the greatest guesses", netOf(3, edge(0, 1, 5)), 0, 2, []int{far - 1, far - 1, 0}, make([]int, 3), 2},
		{"the greatest costs and guesses", netOf(64, chain(63, api.MaxCost).Edges...), 0, 63, append(rising(63, far-630000, 10000), 0), rising(64, 0, -1), 63},
		{"64 places, no edge", netOf(64), 0, 63, make([]int, 64), make([]int, 64), 1},
		{"64 places in a chain, back", chain(64, 1), 63, 0, make([]int, 64), make([]int, 64), 1},
		{"600 edges the other way", netOf(2, slices.Repeat([]api.Edge{edge(1, 0, 1)}, 600)...), 0, 1, []int{7, 0}, []int{0, 0}, 1},
	} {
		for _, w := range []api.Ratio{of(10, 1), of(top, 1), of(top, 99999)} {
			for _, n := range []int{x.looked, x.looked + 1, steps} {
				if f, e := Run(x.g, x.from, x.to, x.h, w, x.taste, n); !isZero(f) || e != api.ErrNone {
					t.Error(x.name, w, n, f, e)
				}
			}
			if x.looked == 0 {
				continue
			}
			if f, e := Run(x.g, x.from, x.to, x.h, w, x.taste, x.looked-1); !isZero(f) || e != api.ErrSteps {
				t.Error(x.name, w, "with one step less", f, e)
			}
		}
	}
}

func TestStepsOf0(t *testing.T) {
	for _, g := range []api.Net{netOf(1), netOf(2), chain(2, 1), chain(64, 1)} {
		for v := range g.N {
			// From waits, and can't be looked from.
			if f, e := Run(g, v, g.N-1, make([]int, g.N), of(2, 1), make([]int, g.N), 0); !isZero(f) || e != api.ErrSteps {
				t.Error(g.N, v, f, e)
			}
		}
	}
}

// doubling is a net in which k times a place is reached for more, all behind it is looked from, and then it is reached for less, with what makes as many looks more as leaves tell: at leaves[i] a place is looked from that many times 2.
// The end, its last place, is looked from last of all.
func doubling(k int, leaves ...int) (g api.Net, taste []int) {
	add := func(x int) int {
		taste = append(taste, x)
		g.N++
		return g.N - 1
	}
	at := add(0)
	var joints []int
	for i := range k {
		joints = append(joints, at)
		next, over := add(-2*i-1), add(-2*i-1)
		less := 1 << (k - 1 - i)
		g.Edges = append(g.Edges, edge(at, over, 1), edge(over, next, 1))
		// What an edge alone may not cost two do, over a place more.
		if less+2 > api.MaxCost {
			half := add(-2 * k)
			g.Edges = append(g.Edges, edge(at, half, api.MaxCost), edge(half, next, less+2-api.MaxCost))
		} else {
			g.Edges = append(g.Edges, edge(at, next, less+2))
		}
		taste[next] = -2*i - 2
		at = next
	}
	joints = append(joints, at)
	for _, i := range leaves {
		g.Edges = append(g.Edges, edge(joints[i], add(-3*k), 1))
	}
	g.Edges = append(g.Edges, edge(at, add(1), 1))
	return g, taste
}

func TestJustAsManyStepsAsThereMayBe(t *testing.T) {
	// 15 times doubled, 98304 places are looked from, and 1696 more.
	g, taste := doubling(15, 10, 9, 7, 5)
	none := make([]int, g.N)
	f, e := Run(g, 0, g.N-1, none, of(top, 1), taste, steps)
	if e != api.OK || len(f.Order) != steps || f.Way.Cost != 31 || len(f.Way.Path) != 32 {
		t.Error(len(f.Order), f.Way, e)
	}
	if f, e := Run(g, 0, g.N-1, none, of(top, 1), taste, steps-1); !isZero(f) || e != api.ErrSteps {
		t.Error("one step less", len(f.Order), f.Way, e)
	}
	g, taste = doubling(15, 10, 9, 7, 5, 0)
	none = make([]int, g.N)
	if f, e := Run(g, 0, g.N-1, none, of(top, 1), taste, steps); !isZero(f) || e != api.ErrSteps {
		t.Error("one place more", len(f.Order), f.Way, e)
	}
	if f, e := Run(g, 0, g.N-1, none, of(top, 1), none, steps); e != api.OK || f.Way.Cost != 31 {
		t.Error("all of one taste", len(f.Order), f.Way, e)
	}
}

// refuses tells a fault if Run answers anything but that error.
func refuses(t *testing.T, name string, g api.Net, from, to int, h []int, w api.Ratio, taste []int, steps int, want api.Errno) {
	t.Helper()
	if f, e := Run(g, from, to, h, w, taste, steps); !isZero(f) || e != want {
		t.Error(name, from, to, h, w, taste, steps, f, e, want)
	}
}

// wrongWeights are some that weigh.Weight refuses.
func wrongWeights() []api.Ratio {
	return []api.Ratio{{}, of(1, 0), of(2, 2), of(6, 4), of(3, -1), of(-3, -1), of(top+1, 1), of(most, least), of(0, 2), of(0, 1), of(-1, 1), of(1, 2), of(top-1, top), of(-top, 1)}
}

func TestLooksErrorIsToldFirst(t *testing.T) {
	good, wrong := netOf(3, edge(0, 1, 3), edge(1, 0, 3)), netOf(2, edge(0, 1, 0))
	for _, x := range []struct {
		name     string
		g        api.Net
		from, to int
		h        []int
		want     api.Errno
	}{
		{"no place", netOf(0), 0, 0, nil, api.ErrArg},
		{"less than none", netOf(-1), 0, 0, nil, api.ErrArg},
		{"65 places", netOf(65), 0, 0, make([]int, 65), api.ErrArg},
		{"as many as may be told", netOf(most), 0, 0, nil, api.ErrArg},
		{"601 edges", netOf(2, slices.Repeat([]api.Edge{edge(0, 1, 1)}, 601)...), 0, 1, []int{0, 0}, api.ErrLarge},
		{"an edge to no place", netOf(2, edge(0, 2, 1)), 0, 1, []int{0, 0}, api.ErrArg},
		{"an edge of 0", wrong, 0, 1, []int{0, 0}, api.ErrCost},
		{"an edge below 0", netOf(2, edge(0, 1, -1)), 0, 1, []int{0, 0}, api.ErrCost},
		{"an edge of 0, from no place", wrong, 2, 1, []int{0, 0}, api.ErrCost},
		{"an edge of 0, wrong guesses", wrong, 0, 1, []int{9, 9}, api.ErrCost},
		{"too dear", netOf(2, edge(0, 1, api.MaxCost+1)), 0, 1, []int{0, 0}, api.ErrCost},
		{"from no place", good, 3, 0, []int{0, 0, 0}, api.ErrArg},
		{"to no place, wrong guesses", good, 0, -1, []int{9, 9, 9}, api.ErrArg},
		{"from far off", good, most, 1, []int{0, 0, 0}, api.ErrArg},
		{"no guesses", good, 0, 1, nil, api.ErrArg},
		{"too few guesses", good, 0, 1, []int{0, 0}, api.ErrArg},
		{"too many guesses", good, 0, 1, []int{0, 0, 0, 0}, api.ErrArg},
		{"guesses beyond Far", good, 0, 1, []int{far + 1, 0, 0}, api.ErrArg},
		{"guesses below 0", good, 0, 1, []int{0, 0, -1}, api.ErrArg},
		{"guesses that do not agree", good, 0, 1, []int{4, 0, 0}, api.ErrHeur},
		{"the end's is not 0", good, 0, 1, []int{0, 1, 0}, api.ErrHeur},
		{"guesses that do not agree, and no walk", good, 0, 2, []int{4, 0, 0}, api.ErrHeur},
	} {
		if e := star.Look(x.g, x.from, x.to, x.h); e != x.want {
			t.Error("Look", x.name, e)
		}
		for _, w := range append(weights(), wrongWeights()...) {
			for _, taste := range [][]int{nil, {0}, {0, 0}, {0, 0, 0}} {
				for _, n := range []int{-1, 0, 9, steps, steps + 1} {
					refuses(t, x.name, x.g, x.from, x.to, x.h, w, taste, n, x.want)
				}
			}
		}
	}
}

func TestWeightsErrorIsToldNext(t *testing.T) {
	for _, w := range wrongWeights() {
		want := weigh.Weight(w)
		if want == api.OK {
			t.Error(w, "is not wrong")
		}
		// In some of these no walk leads to the end, or it can't be reached with so few steps.
		for _, g := range []api.Net{netOf(1), netOf(2, edge(0, 1, 3)), netOf(2), chain(64, 3)} {
			for _, taste := range [][]int{nil, make([]int, g.N-1), make([]int, g.N), make([]int, g.N+1)} {
				for _, n := range []int{least, -1, 0, 1, steps, steps + 1, most} {
					refuses(t, "wrong weight", g, 0, g.N-1, make([]int, g.N), w, taste, n, want)
					refuses(t, "wrong weight", g, g.N-1, 0, make([]int, g.N), w, taste, n, want)
				}
			}
		}
	}
}

func TestWrongTastesAndStepsAreRefused(t *testing.T) {
	// In some of these no walk leads to the end, or it can't be reached with so few steps.
	for _, g := range []api.Net{netOf(1), netOf(2, edge(0, 1, 3)), netOf(2), chain(64, 3)} {
		h := make([]int, g.N)
		for _, w := range weights() {
			for _, n := range []int{least, -1, 0, 1, g.N, steps, steps + 1, most} {
				for _, many := range []int{0, g.N - 1, g.N + 1, 2 * g.N, 1000} {
					refuses(t, "tastes", g, 0, g.N-1, h, w, make([]int, many), n, api.ErrArg)
					refuses(t, "tastes, back", g, g.N-1, 0, h, w, make([]int, many), n, api.ErrArg)
				}
				refuses(t, "no tastes", g, 0, g.N-1, h, w, nil, n, api.ErrArg)
			}
			for _, n := range []int{least, -steps, -1, steps + 1, 2 * steps, most} {
				refuses(t, "steps", g, 0, g.N-1, h, w, make([]int, g.N), n, api.ErrArg)
				refuses(t, "steps, back", g, g.N-1, 0, h, w, make([]int, g.N), n, api.ErrArg)
			}
		}
	}
	if f, e := Run(netOf(1), 0, 0, []int{0}, of(1, 1), []int{0}, steps); !same(f, found(0, []int{0}, []int{0})) || e != api.OK {
		t.Error("MaxSteps", f, e)
	}
}

func TestManyRuns(t *testing.T) {
	const granted = 100
	told := map[string]int{}
	for i, g := range many() {
		from, to := (i*i+1)%g.N, (3*i)%g.N
		costs := leasts(g, to)
		for j, h := range guesses(g, to) {
			for k, w := range weights() {
				for l, taste := range tastes(h, to, i) {
					want := byWords(g, from, to, h, w, taste, granted)
					f, e := Run(g, from, to, h, w, taste, granted)
					if e != want.wrong || !same(f, want.found) {
						t.Fatal(i, from, to, j, k, l, f, e, want)
					}
					stepsCount(t, g, from, to, h, w, taste, want)
					switch e {
					case api.ErrNone:
						told["none"]++
						if costs[from] < far {
							t.Fatal("a walk leads there", i, from, to, j, k, l)
						}
					case api.ErrSteps:
						told["too many steps"]++
					default:
						notTooDear(t, g, costs[from], w, f, want, told)
					}
				}
			}
		}
	}
	for _, x := range []string{"none", "too many steps", "more than the least", "again", "less than was known"} {
		if told[x] < 30 {
			t.Error("the searches are too much the same:", told)
		}
	}
}

// stepsCount tells a fault if just as many steps as the model took change what is answered, or one less is enough.
func stepsCount(t *testing.T, g api.Net, from, to int, h []int, w api.Ratio, taste []int, want model) {
	t.Helper()
	if want.wrong == api.ErrSteps {
		return
	}
	if f, e := Run(g, from, to, h, w, taste, want.looked); e != want.wrong || !same(f, want.found) {
		t.Fatal("just enough steps", want.looked, f, e)
	}
	if want.looked > 0 {
		refuses(t, "one step less", g, from, to, h, w, taste, want.looked-1, api.ErrSteps)
	}
}

// notTooDear tells a fault if the walk costs more than w times the least, or not what it says, and counts what is out of the common.
func notTooDear(t *testing.T, g api.Net, low int, w api.Ratio, f api.Found, want model, told map[string]int) {
	t.Helper()
	cost, wrong := walk.Cost(g, f.Way.Path)
	if cost != f.Way.Cost || wrong != api.OK || w.Den*cost > w.Num*low || cost < low {
		t.Fatal("costs", w, f, cost, wrong, low)
	}
	if cost > low {
		told["more than the least"]++
	}
	if cost < want.cost {
		told["less than was known"]++
	}
	once := slices.Clone(f.Order)
	slices.Sort(once)
	if len(slices.Compact(once)) < len(f.Order) {
		told["again"]++
	}
}

func TestTheWeight1CostsTheLeast(t *testing.T) {
	for i, g := range many() {
		from, to := (i*i+1)%g.N, (3*i)%g.N
		costs := leasts(g, to)
		for j, h := range guesses(g, to) {
			for l, taste := range tastes(h, to, i) {
				f, e := Run(g, from, to, h, of(1, 1), taste, g.N)
				if (e == api.OK) != (costs[from] < far) || e == api.OK && f.Way.Cost != costs[from] {
					t.Fatal(i, from, to, j, l, f, e, costs[from])
				}
			}
		}
	}
}

// spoil writes x over l and the room behind it.
func spoil[T any](l []T, x T) {
	l = l[:cap(l)]
	for i := range l {
		l[i] = x
	}
}

func TestWhatIsHandedInStays(t *testing.T) {
	edges := []api.Edge{edge(0, 1, 2), edge(1, 2, 3), edge(2, 0, 1), edge(0, 0, 1), edge(0, 2, 9), edge(9, 9, 9), edge(0, 3, 1)}
	room := []int{5, 3, 0, far, -5, 7, far + 1}
	tasteRoom := []int{4, 3, 2, 1, 0, -1, -2}
	wasEdges, was, wasTaste := slices.Clone(edges), slices.Clone(room), slices.Clone(tasteRoom)
	for n := range len(edges) + 1 {
		g := netOf(4, edges[:n]...)
		for m := range len(room) + 1 {
			for _, k := range []int{m, 4} {
				for v := range 4 {
					f, _ := Run(g, v, 2, room[:m], of(3, 2), tasteRoom[:k], 50)
					spoil(f.Way.Path, -77)
					spoil(f.Order, -77)
				}
			}
		}
		if g.N != 4 || !slices.Equal(edges, wasEdges) || !slices.Equal(room, was) || !slices.Equal(tasteRoom, wasTaste) {
			t.Error(n, edges, room, tasteRoom)
		}
	}
}

func TestPathAndOrderShareNothing(t *testing.T) {
	for i, g := range many() {
		from, to := (i*i+1)%g.N, (3*i)%g.N
		for j, h := range guesses(g, to) {
			taste := rising(g.N, 0, -1)
			want, e := Run(g, from, to, h, of(2, 1), taste, 500)
			if e != api.OK {
				continue
			}
			path, order := slices.Clone(want.Way.Path), slices.Clone(want.Order)
			f, _ := Run(g, from, to, h, of(2, 1), taste, 500)
			spoil(f.Way.Path, -77)
			if !slices.Equal(f.Order, order) {
				t.Fatal("Order", i, from, to, j, f)
			}
			f, _ = Run(g, from, to, h, of(2, 1), taste, 500)
			spoil(f.Order, -77)
			if !slices.Equal(f.Way.Path, path) {
				t.Fatal("Path", i, from, to, j, f)
			}
			// Nor does one answer with another.
			if !slices.Equal(want.Way.Path, path) || !slices.Equal(want.Order, order) {
				t.Fatal("another answer", i, from, to, j, want)
			}
		}
	}
}

func TestWhatIsAnsweredStays(t *testing.T) {
	g, h, taste := netOf(3, edge(0, 1, 2), edge(1, 2, 3), edge(0, 2, 9)), []int{0, 1, 0}, []int{0, 1, 2}
	f, e := Run(g, 0, 2, h, of(5, 1), taste, 9)
	spoil(g.Edges, edge(0, 2, 4))
	spoil(h, 0)
	spoil(taste, 7)
	if want := found(5, []int{0, 1, 2}, []int{0, 1, 2}); !same(f, want) || e != api.OK {
		t.Error(f, e)
	}
	if f, e := Run(g, 0, 2, h, of(5, 1), taste, 9); !same(f, found(4, []int{0, 2}, []int{0, 2})) || e != api.OK {
		t.Error("the net of now", f, e)
	}
}
