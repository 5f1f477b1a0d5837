package union

import (
	"math"
	"slices"
	"testing"

	"fellwalker/api"
)

// leasts says what Of must answer, without groups: lesser numbers are handed over pairs until nothing changes.
func leasts(n int, l []api.Pair) []int {
	m := make([]int, n)
	for x := range m {
		m[x] = x
	}
	for again := true; again; {
		again = false
		for _, p := range l {
			if m[p.A] != m[p.B] {
				m[p.A], m[p.B] = min(m[p.A], m[p.B]), min(m[p.A], m[p.B])
				again = true
			}
		}
	}
	return m
}

// many says what Many must answer, from the leasts.
func many(m []int) int {
	m = slices.Clone(m)
	slices.Sort(m)
	return len(slices.Compact(m))
}

func expect(t *testing.T, n int, l []api.Pair) {
	t.Helper()
	want := leasts(n, l)
	if m, e := Of(n, l); !slices.Equal(m, want) || e != api.OK {
		t.Error("Of", n, l, m, e)
	}
	if k, e := Many(n, l); k != many(want) || e != api.OK {
		t.Error("Many", n, l, k, e)
	}
}

func TestGroups(t *testing.T) {
	for _, x := range []struct {
		name string
		n    int
		l    []api.Pair
		want []int
		many int
	}{
		{"nothing at all", 0, nil, nil, 0},
		{"nothing, with a list of none", 0, []api.Pair{}, nil, 0},
		{"one alone", 1, nil, []int{0}, 1},
		{"one with itself", 1, []api.Pair{{A: 0, B: 0}}, []int{0}, 1},
		{"no pair", 3, nil, []int{0, 1, 2}, 3},
		{"a chain and one with itself", 6, []api.Pair{{A: 4, B: 2}, {A: 2, B: 1}, {A: 5, B: 5}}, []int{0, 1, 1, 3, 1, 5}, 4},
		{"turned round", 3, []api.Pair{{A: 1, B: 2}, {A: 2, B: 1}}, []int{0, 1, 1}, 2},
		{"twice", 3, []api.Pair{{A: 2, B: 0}, {A: 2, B: 0}}, []int{0, 1, 0}, 2},
		{"groups joined by their greatest", 6, []api.Pair{{A: 1, B: 5}, {A: 2, B: 4}, {A: 5, B: 4}}, []int{0, 1, 1, 3, 1, 1}, 3},
		{"the least comes last", 5, []api.Pair{{A: 3, B: 4}, {A: 2, B: 3}, {A: 4, B: 0}}, []int{0, 1, 0, 0, 0}, 2},
		{"a ring", 4, []api.Pair{{A: 3, B: 2}, {A: 2, B: 1}, {A: 1, B: 0}, {A: 0, B: 3}}, []int{0, 0, 0, 0}, 1},
	} {
		if m, e := Of(x.n, x.l); !slices.Equal(m, x.want) || e != api.OK {
			t.Error(x.name, m, e)
		}
		if k, e := Many(x.n, x.l); k != x.many || e != api.OK {
			t.Error(x.name, k, e)
		}
	}
}

func TestAllSetsOfPairs(t *testing.T) {
	for n := 0; n <= 5; n++ {
		var all []api.Pair
		for a := range n {
			for b := range a {
				all = append(all, api.Pair{A: a, B: b})
			}
		}
		for set := range 1 << len(all) {
			var there, turned []api.Pair
			for i, p := range all {
				if set>>i&1 == 1 {
					there = append(there, p)
					turned = append(turned, api.Pair{A: p.B, B: p.A})
				}
			}
			expect(t, n, there)
			expect(t, n, turned)
			slices.Reverse(there)
			expect(t, n, there)
			expect(t, n, append(turned, there...))
		}
	}
}

func TestManyNumbers(t *testing.T) {
	for _, n := range []int{63, 64} {
		expect(t, n, nil)
		var up, down, halves []api.Pair
		for x := range n - 1 {
			up = append(up, api.Pair{A: x, B: x + 1})
			down = append(down, api.Pair{A: n - 1 - x, B: n - 2 - x})
			halves = append(halves, api.Pair{A: x, B: x / 2 * 2}, api.Pair{A: n - 1, B: n - 2})
		}
		expect(t, n, up)
		expect(t, n, down)
		expect(t, n, halves)
		for step := 1; step < n; step++ {
			var l []api.Pair
			for x := n - 1; x >= step; x-- {
				l = append(l, api.Pair{A: x, B: x - step})
			}
			expect(t, n, l)
		}
		for seed := range 200 {
			var l []api.Pair
			for i := range seed {
				l = append(l, api.Pair{A: (i*i*7 + seed*13) % n, B: (i*11 + seed*seed) % n})
			}
			expect(t, n, l)
		}
	}
}

func TestManyPairs(t *testing.T) {
	l := slices.Repeat([]api.Pair{{A: 3, B: 1}}, api.MaxEdges)
	l[api.MaxEdges-1] = api.Pair{A: 2, B: 0}
	if m, e := Of(4, l); !slices.Equal(m, []int{0, 1, 0, 1}) || e != api.OK {
		t.Error(m, e)
	}
	if k, e := Many(4, l); k != 2 || e != api.OK {
		t.Error(k, e)
	}
}

func TestRefuses(t *testing.T) {
	full, over := make([]api.Pair, api.MaxEdges), make([]api.Pair, api.MaxEdges+1)
	wrongInside := slices.Clone(full)
	wrongInside[api.MaxEdges-1].B = 5
	wrongOver := slices.Clone(over)
	wrongOver[0].A = -1
	for _, x := range []struct {
		name string
		n    int
		l    []api.Pair
		want api.Errno
	}{
		{"n below 0", -1, nil, api.ErrArg},
		{"n above the bound", api.MaxN + 1, nil, api.ErrArg},
		{"n far below", math.MinInt, nil, api.ErrArg},
		{"n far above", math.MaxInt, nil, api.ErrArg},
		{"n ahead of too many pairs", -1, over, api.ErrArg},
		{"n above ahead of too many pairs", api.MaxN + 1, over, api.ErrArg},
		{"too many pairs", 1, over, api.ErrLarge},
		{"too many pairs at the greatest n", api.MaxN, over, api.ErrLarge},
		{"too many pairs ahead of a wrong one", 1, wrongOver, api.ErrLarge},
		{"too many pairs ahead of there being no number", 0, over, api.ErrLarge},
		{"the last of many pairs", 5, wrongInside, api.ErrArg},
		{"no number for a pair", 0, []api.Pair{{}}, api.ErrArg},
		{"A below 0", 5, []api.Pair{{A: -1, B: 0}}, api.ErrArg},
		{"B below 0", 5, []api.Pair{{A: 0, B: -1}}, api.ErrArg},
		{"A of n", 5, []api.Pair{{A: 5, B: 0}}, api.ErrArg},
		{"B of n", 5, []api.Pair{{A: 0, B: 5}}, api.ErrArg},
		{"both of n", 5, []api.Pair{{A: 5, B: 5}}, api.ErrArg},
		{"A of 64", api.MaxN, []api.Pair{{A: api.MaxN, B: 0}}, api.ErrArg},
		{"far below", 5, []api.Pair{{A: math.MinInt, B: math.MinInt}}, api.ErrArg},
		{"far above", 5, []api.Pair{{A: math.MaxInt, B: 1}}, api.ErrArg},
		{"a right one ahead", 5, []api.Pair{{A: 4, B: 0}, {A: 1, B: 7}}, api.ErrArg},
		{"a right one behind", 5, []api.Pair{{A: 1, B: 7}, {A: 4, B: 0}}, api.ErrArg},
	} {
		if m, e := Of(x.n, x.l); m != nil || e != x.want {
			t.Error("Of", x.name, m, e)
		}
		if k, e := Many(x.n, x.l); k != 0 || e != x.want {
			t.Error("Many", x.name, k, e)
		}
	}
	if m, e := Of(1, full); !slices.Equal(m, []int{0}) || e != api.OK {
		t.Error("as many pairs as there may be", m, e)
	}
}

func TestWhatIsHandedInStays(t *testing.T) {
	for _, n := range []int{6, 5, -1} {
		for to := 1; to <= 4; to++ {
			room := []api.Pair{{A: 3, B: 0}, {A: 5, B: 2}, {A: 2, B: 1}, {A: 4, B: 4}, {A: 9, B: 9}}
			was := slices.Clone(room)
			Of(n, room[1:to])
			Many(n, room[1:to])
			if !slices.Equal(room, was) {
				t.Error(n, to, room)
			}
		}
	}
}

func TestWhatIsAnsweredStays(t *testing.T) {
	l := []api.Pair{{A: 4, B: 2}, {A: 2, B: 1}}
	m, _ := Of(5, l)
	other, _ := Of(5, l)
	l[0], l[1] = api.Pair{A: 3, B: 0}, api.Pair{A: 3, B: 0}
	for i := range other[:cap(other)] {
		other[:cap(other)][i] = -77
	}
	if !slices.Equal(m, []int{0, 1, 1, 3, 1}) {
		t.Error(m)
	}
	if m, e := Of(5, l); !slices.Equal(m, []int{0, 1, 2, 0, 4}) || e != api.OK {
		t.Error(m, e)
	}
}

// inOneGroup answers, by the leasts of two numbers, whether they are in one group.
func inOneGroup(m []int, p api.Pair) bool { return m[p.A] == m[p.B] }

func TestJoin(t *testing.T) {
	for _, n := range []int{1, 2, 5, 20, 64} {
		for seed := range 50 {
			groups := Alone(n)
			var l []api.Pair
			for i := range 3 * n {
				p := api.Pair{A: (i*i*7 + seed*13) % n, B: (i*11 + seed*seed) % n}
				apart := !inOneGroup(leasts(n, l), p)
				if new := groups.Join(p.A, p.B); new != apart {
					t.Fatal(n, seed, l, p, new)
				}
				l = append(l, p)
				x := (i*5 + seed) % n
				if least := groups.Least(x); least != leasts(n, l)[x] {
					t.Fatal(n, seed, l, x, least)
				}
			}
		}
	}
}

func TestAlone(t *testing.T) {
	one, other := Alone(3), Alone(3)
	if !one.Join(2, 0) || one.Join(0, 2) || one.Join(1, 1) {
		t.Error("Join tells something else than whether it joined")
	}
	for x, want := range []int{0, 1, 0} {
		if one.Least(x) != want || other.Least(x) != x {
			t.Error(x, one.Least(x), other.Least(x))
		}
	}
}
