package grid

import (
	"math"
	"slices"
	"testing"

	"fellwalker/api"
)

// around says what Moves must answer, on ground with a border of rock laid round it.
func around(g api.Grid, at int) []api.Edge {
	wide := g.W + 2
	cells := make([]int, wide*(g.H+2))
	number := func(i int) int { return (i/g.W+1)*wide + i%g.W + 1 }
	back := make([]int, len(cells))
	for i, c := range g.Cells {
		cells[number(i)], back[number(i)] = c, i
	}
	a := number(at)
	if cells[a] == 0 {
		return nil
	}
	up, right, down, left := a-wide, a+1, a+wide, a-1
	var l []api.Edge
	add := func(times int, to int, free ...int) {
		for _, f := range append(free, to) {
			if cells[f] == 0 {
				return
			}
		}
		l = append(l, api.Edge{From: at, To: back[to], Cost: times * (cells[a] + cells[to])})
	}
	add(5, up)
	add(7, up+1, up, right)
	add(5, right)
	add(7, down+1, down, right)
	add(5, down)
	add(7, down-1, down, left)
	add(5, left)
	add(7, up-1, up, left)
	return l
}

func expect(t *testing.T, g api.Grid) {
	t.Helper()
	if e := Check(g); e != api.OK {
		t.Error(g, e)
	}
	for at := range g.Cells {
		if l, e := Moves(g, at); !slices.Equal(l, around(g, at)) || e != api.OK {
			t.Error(g, at, l, e)
		}
	}
}

// ground makes a grid whose cells go from 0 or 1 to 9, in an order that hangs on seed.
func ground(w, h, seed int) api.Grid {
	g := api.Grid{W: w, H: h}
	for i := range w * h {
		g.Cells = append(g.Cells, (i*i+i*seed+seed/3)%(api.MaxCell+1))
	}
	return g
}

func TestCheck(t *testing.T) {
	for w := 1; w <= api.MaxSide; w++ {
		for h := 1; h <= api.MaxSide; h++ {
			if e := Check(ground(w, h, 3)); e != api.OK {
				t.Error(w, h, e)
			}
			for _, n := range []int{0, w*h - 1, w*h + 1, 2 * w * h} {
				if e := Check(api.Grid{W: w, H: h, Cells: make([]int, n)}); e != api.ErrForm {
					t.Error(w, h, n, e)
				}
			}
		}
	}
}

func TestCheckOfCells(t *testing.T) {
	for c := 0; c <= api.MaxCell; c++ {
		if e := Check(api.Grid{W: 1, H: 1, Cells: []int{c}}); e != api.OK {
			t.Error(c, e)
		}
	}
	for at := range 6 {
		for _, c := range []int{-1, api.MaxCell + 1, math.MinInt, math.MaxInt} {
			g := api.Grid{W: 3, H: 2, Cells: []int{0, 1, 9, 9, 1, 0}}
			g.Cells[at] = c
			if e := Check(g); e != api.ErrCost {
				t.Error(g, e)
			}
		}
	}
}

func TestCheckTellsSidesFirst(t *testing.T) {
	for _, side := range []int{0, -1, api.MaxSide + 1, math.MinInt, math.MaxInt, 1 << 32, -8} {
		for _, other := range []int{1, api.MaxSide, side} {
			for _, cells := range [][]int{nil, {1}, {10}, make([]int, 8), make([]int, 9), make([]int, 64), make([]int, 72)} {
				if e := Check(api.Grid{W: side, H: other, Cells: cells}); e != api.ErrArg {
					t.Error("W", side, other, len(cells), e)
				}
				if e := Check(api.Grid{W: other, H: side, Cells: cells}); e != api.ErrArg {
					t.Error("H", side, other, len(cells), e)
				}
			}
		}
	}
	for _, cells := range [][]int{{10}, {-1}, {1, 10, 1}} {
		if e := Check(api.Grid{W: 2, H: 1, Cells: cells}); e != api.ErrForm {
			t.Error("the form is told ahead of the cost", cells, e)
		}
	}
}

func TestMovesFromTheMiddle(t *testing.T) {
	g := api.Grid{W: 3, H: 3, Cells: []int{1, 2, 3, 4, 5, 6, 7, 8, 9}}
	want := []api.Edge{{From: 4, To: 1, Cost: 35}, {From: 4, To: 2, Cost: 56}, {From: 4, To: 5, Cost: 55}, {From: 4, To: 8, Cost: 98}, {From: 4, To: 7, Cost: 65}, {From: 4, To: 6, Cost: 84}, {From: 4, To: 3, Cost: 45}, {From: 4, To: 0, Cost: 42}}
	if l, e := Moves(g, 4); !slices.Equal(l, want) || e != api.OK {
		t.Error(l, e)
	}
}

func TestMovesPastRock(t *testing.T) {
	for _, x := range []struct {
		name  string
		cells []int
		at    int
		want  []int
	}{
		{"open", []int{1, 1, 1, 1}, 0, []int{1, 3, 2}},
		{"rock beside", []int{1, 0, 1, 1}, 0, []int{2}},
		{"rock below", []int{1, 1, 0, 1}, 0, []int{1}},
		{"two rocks", []int{1, 0, 0, 1}, 0, nil},
		{"rock aslant", []int{1, 1, 1, 0}, 0, []int{1, 2}},
		{"rock all round", []int{1, 0, 0, 0}, 0, nil},
		{"from rock", []int{0, 1, 1, 1}, 0, nil},
		{"from rock to rock", []int{0, 0, 0, 0}, 3, nil},
		{"from the last", []int{1, 1, 1, 1}, 3, []int{1, 2, 0}},
	} {
		l, e := Moves(api.Grid{W: 2, H: 2, Cells: x.cells}, x.at)
		var to []int
		for _, m := range l {
			to = append(to, m.To)
		}
		if !slices.Equal(to, x.want) || e != api.OK {
			t.Error(x.name, l, e)
		}
	}
}

func TestMovesDoNotLeaveTheirRow(t *testing.T) {
	g := api.Grid{W: 2, H: 3, Cells: []int{1, 1, 1, 1, 1, 1}}
	if l, e := Moves(g, 1); !slices.Equal(l, []api.Edge{{From: 1, To: 3, Cost: 10}, {From: 1, To: 2, Cost: 14}, {From: 1, To: 0, Cost: 10}}) || e != api.OK {
		t.Error(l, e)
	}
	if l, e := Moves(api.Grid{W: 1, H: 1, Cells: []int{9}}, 0); len(l) != 0 || e != api.OK {
		t.Error(l, e)
	}
}

func TestMovesOnAllSides(t *testing.T) {
	for w := 1; w <= api.MaxSide; w++ {
		for h := 1; h <= api.MaxSide; h++ {
			for seed := range 12 {
				expect(t, ground(w, h, seed))
			}
			expect(t, api.Grid{W: w, H: h, Cells: slices.Repeat([]int{api.MaxCell}, w*h)})
			expect(t, api.Grid{W: w, H: h, Cells: make([]int, w*h)})
		}
	}
}

func TestMovesPastAllSetsOfRocks(t *testing.T) {
	for set := range 1 << 9 {
		g := api.Grid{W: 3, H: 3}
		for i := range 9 {
			g.Cells = append(g.Cells, set>>i&1*(i+1))
		}
		expect(t, g)
	}
}

func TestMovesRefuses(t *testing.T) {
	good := api.Grid{W: 3, H: 2, Cells: []int{1, 2, 0, 3, 4, 5}}
	for _, x := range []struct {
		name string
		g    api.Grid
		at   int
		want api.Errno
	}{
		{"below the first", good, -1, api.ErrArg},
		{"beyond the last", good, 6, api.ErrArg},
		{"far below", good, math.MinInt, api.ErrArg},
		{"far beyond", good, math.MaxInt, api.ErrArg},
		{"beyond the greatest", ground(8, 8, 1), 64, api.ErrArg},
		{"no side", api.Grid{}, 0, api.ErrArg},
		{"a side too long", api.Grid{W: 9, H: 1, Cells: make([]int, 9)}, 0, api.ErrArg},
		{"too few cells", api.Grid{W: 3, H: 2, Cells: []int{1}}, 0, api.ErrForm},
		{"too few cells, and no cell at", api.Grid{W: 3, H: 2, Cells: []int{1}}, 6, api.ErrForm},
		{"too many cells, and no cell at", api.Grid{W: 1, H: 1, Cells: []int{1, 1}}, 2, api.ErrForm},
		{"too dear", api.Grid{W: 2, H: 1, Cells: []int{1, 10}}, 0, api.ErrCost},
		{"below 0, and no cell at", api.Grid{W: 2, H: 1, Cells: []int{1, -1}}, -1, api.ErrCost},
	} {
		if l, e := Moves(x.g, x.at); l != nil || e != x.want {
			t.Error(x.name, l, e)
		}
	}
}

func TestWhatIsHandedInStays(t *testing.T) {
	for at := -1; at <= 4; at++ {
		room := []int{7, 1, 2, 0, 4, 8, 9}
		was := slices.Clone(room)
		g := api.Grid{W: 2, H: 2, Cells: room[1:5]}
		Check(g)
		l, _ := Moves(g, at)
		spoil(l)
		if !slices.Equal(room, was) || g.W != 2 || g.H != 2 {
			t.Error(at, room)
		}
	}
}

func TestWhatIsAnsweredStays(t *testing.T) {
	g := api.Grid{W: 2, H: 2, Cells: []int{1, 2, 3, 4}}
	l, _ := Moves(g, 0)
	other, _ := Moves(g, 0)
	want := []api.Edge{{From: 0, To: 1, Cost: 15}, {From: 0, To: 3, Cost: 35}, {From: 0, To: 2, Cost: 20}}
	spoil(other)
	clear(g.Cells)
	if !slices.Equal(l, want) {
		t.Error(l)
	}
	if l, e := Moves(g, 0); len(l) != 0 || e != api.OK {
		t.Error("the ground of now is rock", l, e)
	}
}

func spoil(l []api.Edge) {
	l = l[:cap(l)]
	for i := range l {
		l[i] = api.Edge{From: -77, To: -77, Cost: -77}
	}
}
