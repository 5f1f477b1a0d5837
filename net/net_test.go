package net

import (
	"math"
	"slices"
	"testing"

	"fellwalker/api"
	"fellwalker/grid"
)

var (
	good     = api.Edge{From: 0, To: 1, Cost: 1}
	free     = api.Edge{From: 1, To: 0, Cost: 0}
	gain     = api.Edge{From: 1, To: 1, Cost: -api.MaxCost}
	dear     = api.Edge{From: 0, To: 0, Cost: api.MaxCost + 1}
	noFrom   = api.Edge{From: 2, To: 0, Cost: 1}
	noTo     = api.Edge{From: 0, To: -1, Cost: 1}
	allWrong = api.Edge{From: -1, To: 2, Cost: api.MaxCost + 1}
)

func netOf(n int, edges ...api.Edge) api.Net { return api.Net{N: n, Edges: edges} }

func many(n, edges int) api.Net { return netOf(n, slices.Repeat([]api.Edge{{Cost: 1}}, edges)...) }

func same(a, b api.Net) bool { return a.N == b.N && slices.Equal(a.Edges, b.Edges) }

func isZero(g api.Net) bool { return g.N == 0 && g.Edges == nil }

// wrong are nets, and what Check and Pos must answer of each.
var wrong = []struct {
	name       string
	g          api.Net
	check, pos api.Errno
}{
	{"nothing", api.Net{}, api.ErrArg, api.ErrArg},
	{"one place", netOf(1), api.OK, api.OK},
	{"64 places", netOf(64), api.OK, api.OK},
	{"65 places", netOf(65), api.ErrArg, api.ErrArg},
	{"places below 0", netOf(-1), api.ErrArg, api.ErrArg},
	{"far below 0", netOf(math.MinInt), api.ErrArg, api.ErrArg},
	{"far beyond", netOf(math.MaxInt), api.ErrArg, api.ErrArg},
	{"an edge of no place", netOf(0, good), api.ErrArg, api.ErrArg},
	{"600 edges", many(1, 600), api.OK, api.OK},
	{"600 edges of 64 places", many(64, 600), api.OK, api.OK},
	{"601 edges", many(1, 601), api.ErrLarge, api.ErrLarge},
	{"601 edges of 65 places", many(65, 601), api.ErrArg, api.ErrArg},
	{"601 edges of 0 places", many(0, 601), api.ErrArg, api.ErrArg},
	{"601 edges, all wrong", netOf(2, slices.Repeat([]api.Edge{allWrong}, 601)...), api.ErrLarge, api.ErrLarge},
	{"600 edges, the last wrong", netOf(2, append(slices.Repeat([]api.Edge{good}, 599), noTo)...), api.ErrArg, api.ErrArg},
	{"600 edges, the last too dear", netOf(2, append(slices.Repeat([]api.Edge{good}, 599), dear)...), api.ErrCost, api.ErrCost},
	{"600 edges, the last of 0", netOf(2, append(slices.Repeat([]api.Edge{good}, 599), free)...), api.OK, api.ErrCost},

	{"an edge to itself", netOf(1, api.Edge{Cost: 1}), api.OK, api.OK},
	{"two of the same", netOf(2, good, good), api.OK, api.OK},
	{"the last place", netOf(64, api.Edge{From: 63, To: 63, Cost: 1}), api.OK, api.OK},
	{"from beyond the last", netOf(64, api.Edge{From: 64, To: 0, Cost: 1}), api.ErrArg, api.ErrArg},
	{"to beyond the last", netOf(64, api.Edge{From: 0, To: 64, Cost: 1}), api.ErrArg, api.ErrArg},
	{"from below 0", netOf(1, api.Edge{From: -1, To: 0, Cost: 1}), api.ErrArg, api.ErrArg},
	{"to below 0", netOf(1, api.Edge{From: 0, To: -1, Cost: 1}), api.ErrArg, api.ErrArg},
	{"from far below", netOf(2, api.Edge{From: math.MinInt, To: 0, Cost: 1}), api.ErrArg, api.ErrArg},
	{"to far beyond", netOf(2, api.Edge{From: 0, To: math.MaxInt, Cost: 1}), api.ErrArg, api.ErrArg},

	{"costs of 10000", netOf(1, api.Edge{Cost: 10000}), api.OK, api.OK},
	{"costs of 10001", netOf(1, api.Edge{Cost: 10001}), api.ErrCost, api.ErrCost},
	{"costs of 1", netOf(1, api.Edge{Cost: 1}), api.OK, api.OK},
	{"costs of 0", netOf(1, api.Edge{Cost: 0}), api.OK, api.ErrCost},
	{"costs of -1", netOf(1, api.Edge{Cost: -1}), api.OK, api.ErrCost},
	{"costs of -10000", netOf(1, api.Edge{Cost: -10000}), api.OK, api.ErrCost},
	{"costs of -10001", netOf(1, api.Edge{Cost: -10001}), api.ErrCost, api.ErrCost},
	{"the least cost of all", netOf(1, api.Edge{Cost: math.MinInt}), api.ErrCost, api.ErrCost},
	{"the greatest cost of all", netOf(1, api.Edge{Cost: math.MaxInt}), api.ErrCost, api.ErrCost},

	{"of one edge the place ahead of the cost", netOf(2, allWrong), api.ErrArg, api.ErrArg},
	{"the cost of the first ahead of the place of the second", netOf(2, dear, noFrom), api.ErrCost, api.ErrCost},
	{"the place of the first ahead of the cost of the second", netOf(2, noTo, dear), api.ErrArg, api.ErrArg},
	{"the second wrong", netOf(2, good, noFrom, good), api.ErrArg, api.ErrArg},
	{"the third too dear", netOf(2, good, gain, dear), api.ErrCost, api.ErrCost},
	{"Check's error ahead of a cost of 0", netOf(2, free, noTo), api.ErrArg, api.ErrArg},
	{"Check's error ahead of a cost below 0", netOf(2, gain, free, noFrom), api.ErrArg, api.ErrArg},
	{"of one edge Check's error ahead of a cost of 0", netOf(2, api.Edge{From: 0, To: 2}), api.ErrArg, api.ErrArg},
	{"the second of 0", netOf(2, good, free, good), api.OK, api.ErrCost},
}

func TestCheckAndPos(t *testing.T) {
	for _, x := range wrong {
		if e := Check(x.g); e != x.check {
			t.Error("Check", x.name, e)
		}
		if e := Pos(x.g); e != x.pos {
			t.Error("Pos", x.name, e)
		}
	}
}

func TestCheckOfAllN(t *testing.T) {
	for n := -3; n <= 70; n++ {
		want := api.ErrArg
		if n >= 1 && n <= 64 {
			want = api.OK
		}
		if e := Check(netOf(n)); e != want {
			t.Error(n, e)
		}
		for v := -3; v <= 70; v++ {
			want := want
			if v < 0 || v >= n {
				want = api.ErrArg
			}
			if IsPlace(netOf(n), v) != (v >= 0 && v < n) {
				t.Error(n, v)
			}
			for _, d := range []api.Edge{{From: v, To: 0, Cost: 5}, {From: 0, To: v, Cost: 5}, {From: v, To: v, Cost: 5}} {
				if e := Check(netOf(n, d)); e != want {
					t.Error(n, d, e)
				}
			}
		}
	}
}

// ground makes a grid whose cells go from 0 to 9, in an order that hangs on seed.
func ground(w, h, seed int) api.Grid {
	g := api.Grid{W: w, H: h}
	for i := range w * h {
		g.Cells = append(g.Cells, (i*i+i*seed+seed/3)%(api.MaxCell+1))
	}
	return g
}

func TestOf(t *testing.T) {
	for _, x := range []struct {
		name string
		g    api.Grid
		want api.Net
	}{
		{"one cell", api.Grid{W: 1, H: 1, Cells: []int{9}}, netOf(1)},
		{"one rock", api.Grid{W: 1, H: 1, Cells: []int{0}}, netOf(1)},
		{"two cells", api.Grid{W: 2, H: 1, Cells: []int{1, 2}}, netOf(2, api.Edge{From: 0, To: 1, Cost: 15}, api.Edge{From: 1, To: 0, Cost: 15})},
		{"one row", api.Grid{W: 3, H: 1, Cells: []int{1, 2, 9}}, netOf(3, api.Edge{From: 0, To: 1, Cost: 15}, api.Edge{From: 1, To: 2, Cost: 55}, api.Edge{From: 1, To: 0, Cost: 15}, api.Edge{From: 2, To: 1, Cost: 55})},
		{"one column", api.Grid{W: 1, H: 3, Cells: []int{1, 2, 9}}, netOf(3, api.Edge{From: 0, To: 1, Cost: 15}, api.Edge{From: 1, To: 0, Cost: 15}, api.Edge{From: 1, To: 2, Cost: 55}, api.Edge{From: 2, To: 1, Cost: 55})},
		{"a place for rock too", api.Grid{W: 3, H: 1, Cells: []int{1, 0, 9}}, netOf(3)},
		{"rock first", api.Grid{W: 3, H: 1, Cells: []int{0, 1, 2}}, netOf(3, api.Edge{From: 1, To: 2, Cost: 15}, api.Edge{From: 2, To: 1, Cost: 15})},
		{"four cells", api.Grid{W: 2, H: 2, Cells: []int{1, 2, 3, 4}}, netOf(4,
			api.Edge{From: 0, To: 1, Cost: 15}, api.Edge{From: 0, To: 3, Cost: 35}, api.Edge{From: 0, To: 2, Cost: 20},
			api.Edge{From: 1, To: 3, Cost: 30}, api.Edge{From: 1, To: 2, Cost: 35}, api.Edge{From: 1, To: 0, Cost: 15},
			api.Edge{From: 2, To: 0, Cost: 20}, api.Edge{From: 2, To: 1, Cost: 35}, api.Edge{From: 2, To: 3, Cost: 35},
			api.Edge{From: 3, To: 1, Cost: 30}, api.Edge{From: 3, To: 2, Cost: 35}, api.Edge{From: 3, To: 0, Cost: 35})},
	} {
		if n, e := Of(x.g); !same(n, x.want) || e != api.OK {
			t.Error(x.name, n, e)
		}
	}
}

// taken tells whether all moves of g, cell by cell, are the edges of n, one after the other, and no edge is left.
func taken(g api.Grid, n api.Net) bool {
	rest := n.Edges
	for at := range g.W * g.H {
		moves, _ := grid.Moves(g, at)
		if len(moves) > len(rest) || !slices.Equal(moves, rest[:len(moves)]) {
			return false
		}
		rest = rest[len(moves):]
	}
	return len(rest) == 0 && n.N == g.W*g.H
}

func TestOfOnAllSides(t *testing.T) {
	for w := 1; w <= api.MaxSide; w++ {
		for h := 1; h <= api.MaxSide; h++ {
			full := api.Grid{W: w, H: h, Cells: slices.Repeat([]int{api.MaxCell}, w*h)}
			grounds := []api.Grid{full, {W: w, H: h, Cells: make([]int, w*h)}}
			for seed := range 12 {
				grounds = append(grounds, ground(w, h, seed))
			}
			for _, g := range grounds {
				if n, e := Of(g); e != api.OK || !taken(g, n) || Pos(n) != api.OK {
					t.Error(g, n, e)
				}
			}
			n, _ := Of(full)
			if straight, aslant := 2*(w*(h-1)+h*(w-1)), 4*(w-1)*(h-1); len(n.Edges) != straight+aslant {
				t.Error(w, h, len(n.Edges))
			}
		}
	}
}

func TestOfRefuses(t *testing.T) {
	for _, x := range []struct {
		name string
		g    api.Grid
		want api.Errno
	}{
		{"nothing", api.Grid{}, api.ErrArg},
		{"rows of nine", api.Grid{W: 9, H: 1, Cells: make([]int, 9)}, api.ErrArg},
		{"nine rows", api.Grid{W: 1, H: 9, Cells: make([]int, 9)}, api.ErrArg},
		{"sides below 0", api.Grid{W: -1, H: -1, Cells: []int{1}}, api.ErrArg},
		{"a side ahead of the form and the cells", api.Grid{W: 9, H: 2, Cells: []int{10}}, api.ErrArg},
		{"no cell", api.Grid{W: 1, H: 1}, api.ErrForm},
		{"a cell too many", api.Grid{W: 2, H: 2, Cells: make([]int, 5)}, api.ErrForm},
		{"the form ahead of the cells", api.Grid{W: 2, H: 2, Cells: []int{10}}, api.ErrForm},
		{"a cell of 10", api.Grid{W: 2, H: 1, Cells: []int{1, 10}}, api.ErrCost},
		{"a cell below 0", api.Grid{W: 2, H: 1, Cells: []int{-1, 1}}, api.ErrCost},
	} {
		if n, e := Of(x.g); !isZero(n) || e != x.want {
			t.Error(x.name, n, e)
		}
	}
}

func TestTurn(t *testing.T) {
	g := netOf(4, api.Edge{From: 0, To: 3, Cost: 7}, api.Edge{From: 2, To: 2, Cost: -api.MaxCost}, api.Edge{From: 3, To: 1, Cost: 0}, api.Edge{From: 0, To: 3, Cost: api.MaxCost})
	want := netOf(4, api.Edge{From: 3, To: 0, Cost: 7}, api.Edge{From: 2, To: 2, Cost: -api.MaxCost}, api.Edge{From: 1, To: 3, Cost: 0}, api.Edge{From: 3, To: 0, Cost: api.MaxCost})
	if h, e := Turn(g); !same(h, want) || e != api.OK {
		t.Error(h, e)
	}
	for _, n := range []int{1, 64} {
		if h, e := Turn(netOf(n)); h.N != n || len(h.Edges) != 0 || e != api.OK {
			t.Error(n, h, e)
		}
	}
}

func TestTurnRefusesWhatCheckDoes(t *testing.T) {
	for _, x := range wrong {
		h, e := Turn(x.g)
		if e != x.check || e != api.OK && !isZero(h) {
			t.Error(x.name, h, e)
		}
		if e != api.OK {
			continue
		}
		if back, e := Turn(h); !same(back, x.g) || e != api.OK {
			t.Error(x.name, "turned twice", back, e)
		}
	}
}

func TestOut(t *testing.T) {
	g := netOf(5, api.Edge{From: 3, To: 0, Cost: 1}, api.Edge{From: 0, To: 3, Cost: -1}, api.Edge{From: 3, To: 3, Cost: 0}, api.Edge{From: 4, To: 3, Cost: 9}, api.Edge{From: 3, To: 0, Cost: 1}, api.Edge{From: 0, To: 1, Cost: 1})
	for v, want := range [][]int{{1, 5}, nil, nil, {0, 2, 4}, {3}} {
		if l, e := Out(g, v); !slices.Equal(l, want) || e != api.OK {
			t.Error(v, l, e)
		}
	}
	full := many(64, 600)
	full.Edges[599].From = 63
	if l, e := Out(full, 63); !slices.Equal(l, []int{599}) || e != api.OK {
		t.Error(l, e)
	}
	if l, e := Out(full, 0); len(l) != 599 || !slices.IsSorted(l) || l[0] != 0 || l[598] != 598 || e != api.OK {
		t.Error(l, e)
	}
	if l, e := Out(netOf(1), 0); len(l) != 0 || e != api.OK {
		t.Error(l, e)
	}
}

func TestOutRefuses(t *testing.T) {
	for _, n := range []int{1, 2, 64} {
		for _, v := range []int{-1, n, math.MinInt, math.MaxInt} {
			if l, e := Out(netOf(n, api.Edge{Cost: 1}), v); l != nil || e != api.ErrArg {
				t.Error(n, v, l, e)
			}
		}
	}
	for _, x := range wrong {
		if x.check == api.OK {
			continue
		}
		for _, v := range []int{-1, 0, 1, 64} {
			if l, e := Out(x.g, v); l != nil || e != x.check {
				t.Error(x.name, v, l, e)
			}
		}
	}
}

func TestOutOnGround(t *testing.T) {
	g := ground(8, 8, 3)
	n, _ := Of(g)
	next := 0
	for v := range n.N {
		l, e := Out(n, v)
		moves, _ := grid.Moves(g, v)
		if e != api.OK || len(l) != len(moves) {
			t.Error(v, l, e)
		}
		for _, i := range l {
			if i != next {
				t.Error(v, l, "are not the next")
			}
			next++
		}
	}
	if next != len(n.Edges) {
		t.Error(next)
	}
}

func TestWhatIsHandedInStays(t *testing.T) {
	room := []api.Edge{noFrom, good, free, {From: 1, To: 1, Cost: 3}, allWrong, dear}
	was := slices.Clone(room)
	for _, g := range []api.Net{netOf(2, room[1:4]...), netOf(2, room[1:5]...), netOf(9, room[:0]...)} {
		g0 := api.Net{N: g.N, Edges: slices.Clone(g.Edges)}
		Check(g)
		Pos(g)
		h, _ := Turn(g)
		spoil(h.Edges)
		for v := -1; v <= 2; v++ {
			l, _ := Out(g, v)
			spoilNumbers(l)
		}
		if !slices.Equal(room, was) || !same(g, g0) {
			t.Error(g, room)
		}
	}
	cells := []int{7, 1, 2, 0, 4, 8, 9}
	wasCells := slices.Clone(cells)
	n, _ := Of(api.Grid{W: 2, H: 2, Cells: cells[1:5]})
	spoil(n.Edges)
	if !slices.Equal(cells, wasCells) {
		t.Error(cells)
	}
}

func TestWhatIsAnsweredStays(t *testing.T) {
	g := netOf(2, api.Edge{From: 0, To: 1, Cost: 3}, api.Edge{From: 0, To: 0, Cost: 4})
	ground := api.Grid{W: 2, H: 1, Cells: []int{1, 2}}
	h, _ := Turn(g)
	l, _ := Out(g, 0)
	n, _ := Of(ground)
	otherH, _ := Turn(g)
	otherL, _ := Out(g, 0)
	otherN, _ := Of(ground)
	spoil(otherH.Edges)
	spoilNumbers(otherL)
	spoil(otherN.Edges)
	clear(g.Edges)
	clear(ground.Cells)
	if !same(h, netOf(2, api.Edge{From: 1, To: 0, Cost: 3}, api.Edge{From: 0, To: 0, Cost: 4})) {
		t.Error(h)
	}
	if !slices.Equal(l, []int{0, 1}) {
		t.Error(l)
	}
	if !same(n, netOf(2, api.Edge{From: 0, To: 1, Cost: 15}, api.Edge{From: 1, To: 0, Cost: 15})) {
		t.Error(n)
	}
	if n, e := Of(ground); n.N != 2 || len(n.Edges) != 0 || e != api.OK {
		t.Error("the ground of now is rock", n, e)
	}
}

func spoil(l []api.Edge) {
	l = l[:cap(l)]
	for i := range l {
		l[i] = api.Edge{From: -77, To: -77, Cost: -77}
	}
}

func spoilNumbers(l []int) {
	l = l[:cap(l)]
	for i := range l {
		l[i] = -77
	}
}
