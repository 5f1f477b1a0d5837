package walk

import (
	"math"
	"slices"
	"testing"

	"fellwalker/api"
	"fellwalker/net"
)

func netOf(n int, edges ...api.Edge) api.Net { return api.Net{N: n, Edges: edges} }

// round is a net of n places in which each leads to the next, and the last to the first.
func round(n, cost int) api.Net {
	g := api.Net{N: n}
	for v := range n {
		g.Edges = append(g.Edges, api.Edge{From: v, To: (v + 1) % n, Cost: cost})
	}
	return g
}

// steps is a walk of so many places through round(n).
func steps(n, places int) []int {
	var path []int
	for i := range places {
		path = append(path, i%n)
	}
	return path
}

// some has several edges between two places, loops of one place, and costs below 0.
func some() api.Net {
	return netOf(5,
		api.Edge{From: 0, To: 1, Cost: 7}, api.Edge{From: 0, To: 1, Cost: 3}, api.Edge{From: 0, To: 1, Cost: 5},
		api.Edge{From: 1, To: 0, Cost: 2},
		api.Edge{From: 1, To: 2, Cost: 0}, api.Edge{From: 1, To: 2, Cost: -4}, api.Edge{From: 1, To: 2, Cost: -1},
		api.Edge{From: 2, To: 2, Cost: 6}, api.Edge{From: 2, To: 2, Cost: 9},
		api.Edge{From: 2, To: 3, Cost: -api.MaxCost}, api.Edge{From: 3, To: 2, Cost: api.MaxCost},
		api.Edge{From: 3, To: 3, Cost: -1})
}

func TestCost(t *testing.T) {
	for _, x := range []struct {
		name string
		g    api.Net
		path []int
		want int
	}{
		{"one place", some(), []int{0}, 0},
		{"one place with a loop of its own", some(), []int{2}, 0},
		{"one place apart", some(), []int{4}, 0},
		{"the only place", netOf(1), []int{0}, 0},
		{"the last of 64", netOf(64), []int{63}, 0},
		{"of several edges the least, in the middle", some(), []int{0, 1}, 3},
		{"the other way", some(), []int{1, 0}, 2},
		{"of several edges the least, below 0", some(), []int{1, 2}, -4},
		{"to itself", some(), []int{2, 2}, 6},
		{"to itself again and again", some(), []int{2, 2, 2, 2}, 18},
		{"to itself below 0", some(), []int{3, 3, 3}, -2},
		{"there and back", some(), []int{0, 1, 0, 1, 0}, 10},
		{"all edges", some(), []int{0, 1, 2, 2, 3, 3, 2}, 3 - 4 + 6 - api.MaxCost - 1 + api.MaxCost},
		{"the least edge first", netOf(2, api.Edge{From: 0, To: 1, Cost: 1}, api.Edge{From: 0, To: 1, Cost: 2}), []int{0, 1}, 1},
		{"the least edge last", netOf(2, api.Edge{From: 0, To: 1, Cost: 2}, api.Edge{From: 0, To: 1, Cost: 1}), []int{0, 1}, 1},
		{"an edge of 0", netOf(2, api.Edge{From: 0, To: 1, Cost: 4}, api.Edge{From: 0, To: 1}), []int{0, 1}, 0},
		{"100 places", round(64, api.MaxCost), steps(64, 100), 99 * api.MaxCost},
		{"100 places below 0", round(64, -api.MaxCost), steps(64, 100), -99 * api.MaxCost},
		{"100 times one place", round(1, 3), steps(1, 100), 297},
	} {
		if n, e := Cost(x.g, x.path); n != x.want || e != api.OK {
			t.Error(x.name, n, e)
		}
	}
}

func TestCostRefuses(t *testing.T) {
	apart := append(steps(5, 100), 0)
	for _, x := range []struct {
		name string
		g    api.Net
		path []int
		want api.Errno
	}{
		{"no place, nil", some(), nil, api.ErrArg},
		{"no place, empty", some(), []int{}, api.ErrArg},
		{"101 places", round(64, 1), steps(64, 101), api.ErrLarge},
		{"many places", round(1, 1), steps(1, 5000), api.ErrLarge},
		{"101 places ahead of one that is none", round(5, 1), append(slices.Repeat([]int{-1}, 100), 0), api.ErrLarge},
		{"101 places ahead of no edge", netOf(5), apart, api.ErrLarge},
		{"alone, and no place", some(), []int{5}, api.ErrArg},
		{"below 0", some(), []int{-1}, api.ErrArg},
		{"far below", some(), []int{0, 1, math.MinInt}, api.ErrArg},
		{"far beyond", some(), []int{0, 1, math.MaxInt}, api.ErrArg},
		{"the first no place", some(), []int{5, 0}, api.ErrArg},
		{"the last no place", some(), []int{0, 1, 5}, api.ErrArg},
		{"64 of 64", netOf(64), []int{64}, api.ErrArg},
		{"1 of 1", netOf(1), []int{1}, api.ErrArg},
		{"no place behind no edge", some(), []int{0, 4, 5}, api.ErrArg},
		{"no place ahead of no edge", some(), []int{-1, 0, 4}, api.ErrArg},
		{"no edge", some(), []int{0, 4}, api.ErrNone},
		{"no edge back", some(), []int{0, 1, 2, 1}, api.ErrNone},
		{"no edge at first", some(), []int{4, 0, 1}, api.ErrNone},
		{"no edge in the middle", some(), []int{0, 1, 3, 3}, api.ErrNone},
		{"no edge over a place", some(), []int{0, 2}, api.ErrNone},
		{"no edge to itself", some(), []int{0, 0}, api.ErrNone},
		{"no edge at all", netOf(64), []int{63, 0}, api.ErrNone},
		{"no edge as the hundredth", round(64, 1), append(steps(64, 99), 98%64), api.ErrNone},
	} {
		if n, e := Cost(x.g, x.path); n != 0 || e != x.want {
			t.Error(x.name, n, e)
		}
	}
}

func TestCostTellsTheNetsErrorFirst(t *testing.T) {
	for _, g := range []api.Net{
		{}, netOf(-1), netOf(65), netOf(math.MaxInt),
		netOf(1, slices.Repeat([]api.Edge{{}}, 601)...),
		netOf(2, api.Edge{From: 2}), netOf(2, api.Edge{To: -1}),
		netOf(2, api.Edge{Cost: api.MaxCost + 1}), netOf(2, api.Edge{Cost: -api.MaxCost - 1}),
		netOf(2, api.Edge{Cost: api.MaxCost + 1}, api.Edge{From: 9}),
	} {
		for _, path := range [][]int{nil, {0}, {0, 1}, {-1}, {70}, make([]int, 101)} {
			if n, e := Cost(g, path); n != 0 || e != net.Check(g) || e == api.OK {
				t.Error(g.N, len(g.Edges), path, n, e)
			}
		}
	}
}

func TestCut(t *testing.T) {
	rising := steps(100, 100)
	for _, x := range []struct {
		name       string
		path, want []int
	}{
		{"one", []int{7}, []int{7}},
		{"no loop", []int{3, 1, 2}, []int{3, 1, 2}},
		{"a loop", []int{1, 2, 3, 2, 4}, []int{1, 2, 4}},
		{"a loop back to the first", []int{1, 2, 3, 1, 4}, []int{1, 4}},
		{"nothing but a loop", []int{1, 2, 3, 1}, []int{1}},
		{"a loop that ends at the last", []int{1, 2, 3, 4, 2}, []int{1, 2}},
		{"loops within a loop", []int{1, 2, 3, 4, 3, 5, 5, 2, 6}, []int{1, 2, 6}},
		{"loops one after the other", []int{1, 2, 1, 3, 4, 3, 5}, []int{1, 3, 5}},
		{"loops that cross", []int{1, 2, 3, 2, 4, 3, 5}, []int{1, 2, 4, 3, 5}},
		{"twice round", []int{1, 2, 3, 1, 2, 3}, []int{1, 2, 3}},
		{"the last round counts", []int{1, 2, 3, 1, 3, 2}, []int{1, 3, 2}},
		{"all the same", []int{4, 4, 4, 4}, []int{4}},
		{"one twice at the end", []int{1, 2, 2}, []int{1, 2}},
		{"one twice at first", []int{1, 1, 2}, []int{1, 2}},
		{"from 0", []int{0, 5, 0, 6}, []int{0, 6}},
		{"any numbers", []int{-1, math.MinInt, math.MaxInt, math.MinInt, 1 << 40}, []int{-1, math.MinInt, 1 << 40}},
		{"100 without a loop", rising, rising},
		{"100 with one", append(steps(100, 99), 0), []int{0}},
		{"100 of one", slices.Repeat([]int{9}, 100), []int{9}},
	} {
		if l, e := Cut(x.path); !slices.Equal(l, x.want) || e != api.OK {
			t.Error(x.name, l, e)
		}
	}
}

func TestCutRefuses(t *testing.T) {
	for _, path := range [][]int{nil, {}} {
		if l, e := Cut(path); l != nil || e != api.ErrArg {
			t.Error(l, e)
		}
	}
	for _, n := range []int{101, 102, 5000} {
		for _, path := range [][]int{make([]int, n), steps(n, n)} {
			if l, e := Cut(path); l != nil || e != api.ErrLarge {
				t.Error(n, l, e)
			}
		}
	}
}

// cutByTheWords goes by the chapter's words, number by number.
func cutByTheWords(path []int) []int {
	out := []int{path[0]}
	for {
		told := out[len(out)-1]
		behind := -1
		for i, v := range path {
			if v == told {
				behind = i + 1
			}
		}
		if behind == len(path) {
			return out
		}
		out = append(out, path[behind])
	}
}

func TestCutOfAllShortLists(t *testing.T) {
	for length := 1; length <= 6; length++ {
		for code := range int(math.Pow(5, float64(length))) {
			path, rest := make([]int, length), code
			for i := range path {
				path[i], rest = rest%5, rest/5
			}
			l, e := Cut(path)
			if !slices.Equal(l, cutByTheWords(path)) || e != api.OK {
				t.Fatal(path, l, e)
			}
			again, _ := Cut(l)
			if !slices.Equal(l, again) || l[0] != path[0] || l[len(l)-1] != path[length-1] {
				t.Fatal(path, l, again)
			}
		}
	}
}

func TestJoin(t *testing.T) {
	for _, x := range []struct {
		name       string
		a, b, want []int
	}{
		{"two and two", []int{1, 2}, []int{2, 3}, []int{1, 2, 3}},
		{"b alone", []int{1, 2}, []int{2}, []int{1, 2}},
		{"a alone", []int{2}, []int{2, 3, 4}, []int{2, 3, 4}},
		{"both alone", []int{2}, []int{2}, []int{2}},
		{"the same twice stays", []int{1, 2}, []int{2, 2, 3}, []int{1, 2, 2, 3}},
		{"loops stay", []int{1, 2, 1}, []int{1, 2, 1}, []int{1, 2, 1, 2, 1}},
		{"any numbers", []int{math.MaxInt, -5}, []int{-5, math.MinInt}, []int{math.MaxInt, -5, math.MinInt}},
		{"more than 100", steps(1, 101), steps(1, 101), steps(1, 201)},
	} {
		if l, e := Join(x.a, x.b); !slices.Equal(l, x.want) || e != api.OK {
			t.Error(x.name, l, e)
		}
	}
}

func TestJoinRefuses(t *testing.T) {
	for _, x := range []struct{ a, b []int }{
		{nil, nil}, {[]int{}, []int{}}, {[]int{1}, nil}, {nil, []int{1}}, {[]int{0}, []int{}}, {[]int{}, []int{0}},
		{[]int{1, 2}, []int{3}}, {[]int{1, 2}, []int{1, 2}}, {[]int{1, 2}, []int{1}}, {[]int{1, 2}, []int{3, 2}}, {[]int{0}, []int{-1}},
	} {
		if l, e := Join(x.a, x.b); l != nil || e != api.ErrArg {
			t.Error(x.a, x.b, l, e)
		}
	}
}

func TestAWalkInPartsCostsTheSame(t *testing.T) {
	g, path := some(), []int{0, 1, 0, 1, 2, 2, 3, 3, 2, 3}
	whole, _ := Cost(g, path)
	for i := range path {
		a, b := path[:i+1], path[i:]
		joined, e := Join(a, b)
		first, _ := Cost(g, a)
		second, _ := Cost(g, b)
		if !slices.Equal(joined, path) || e != api.OK || first+second != whole {
			t.Error(i, joined, e, first, second)
		}
	}
}

// spoil writes over l and the room behind it.
func spoil(l []int) {
	l = l[:cap(l)]
	for i := range l {
		l[i] = -77
	}
}

func TestWhatIsHandedInStays(t *testing.T) {
	edges := append(some().Edges, api.Edge{From: 0, To: 4, Cost: 8}, api.Edge{From: 9})
	room := []int{0, 1, 2, 2, 3, 3, 4, 8}
	wasEdges, was := slices.Clone(edges), slices.Clone(room)
	for from := range room {
		for to := from; to <= len(room); to++ {
			Cost(netOf(5, edges[:len(edges)-2]...), room[from:to])
			l, _ := Cut(room[from:to])
			spoil(l)
			for _, b := range [][]int{room[from:to], room[to:], room[max(to-1, 0):], room[max(to-1, 0):to], {}} {
				l, _ := Join(room[from:to], b)
				spoil(l)
			}
			if !slices.Equal(room, was) || !slices.Equal(edges, wasEdges) {
				t.Fatal(from, to, room, edges)
			}
		}
	}
}

func TestWhatIsAnsweredStays(t *testing.T) {
	path, a, b := []int{1, 2, 3, 2, 4}, []int{1, 2}, []int{2, 3}
	cut, _ := Cut(path)
	joined, _ := Join(a, b)
	otherCut, _ := Cut(path)
	otherJoined, _ := Join(a, b)
	spoil(otherCut)
	spoil(otherJoined)
	spoil(path)
	spoil(a)
	spoil(b)
	if !slices.Equal(cut, []int{1, 2, 4}) || !slices.Equal(joined, []int{1, 2, 3}) {
		t.Error(cut, joined)
	}
	if l, e := Cut([]int{3, 4}); !slices.Equal(l, []int{3, 4}) || e != api.OK {
		t.Error("what was cut ahead must not count", l, e)
	}
}
