package heap

import (
	"math"
	"slices"
	"sort"
	"testing"

	"fellwalker/api"
)

// sorted says by the library what Sort must answer.
func sorted(l []api.Pop) []api.Pop {
	m := slices.Clone(l)
	sort.Slice(m, func(i, j int) bool {
		if m[i].Key == m[j].Key {
			return m[i].Id < m[j].Id
		}
		return m[i].Key < m[j].Key
	})
	return m
}

// lists holds lists of all lengths up to 40, with few keys so that many are equal, and every list of three out of few.
func lists() [][]api.Pop {
	out := [][]api.Pop{nil, {}}
	for n := 1; n <= 40; n++ {
		for _, step := range []int{1, 7, 11, 37} {
			var l []api.Pop
			for i := range n {
				l = append(l, api.Pop{Key: i*step%5 - 2, Id: i*i*step%9 - 4})
			}
			out = append(out, l)
		}
	}
	few := []api.Pop{{Key: 0, Id: 0}, {Key: 0, Id: 1}, {Key: 1, Id: 0}, {Key: 1, Id: -1}, {Key: math.MinInt, Id: math.MaxInt}, {Key: math.MaxInt, Id: math.MinInt}}
	for _, a := range few {
		for _, b := range few {
			for _, c := range few {
				out = append(out, []api.Pop{a, b, c})
			}
		}
	}
	return out
}

func TestSort(t *testing.T) {
	l := []api.Pop{{Key: 2, Id: 0}, {Key: 1, Id: 9}, {Key: 1, Id: 3}}
	if m := Sort(l); !slices.Equal(m, []api.Pop{{Key: 1, Id: 3}, {Key: 1, Id: 9}, {Key: 2, Id: 0}}) {
		t.Error(m)
	}
	for _, l := range lists() {
		if m := Sort(l); !slices.Equal(m, sorted(l)) {
			t.Error(l, m)
		}
	}
}

func TestSortOfNothing(t *testing.T) {
	for _, l := range [][]api.Pop{nil, {}, make([]api.Pop, 0, 4)} {
		if m := Sort(l); len(m) != 0 {
			t.Error(m)
		}
	}
}

func TestSortKeepsWhatIsTwice(t *testing.T) {
	p := api.Pop{Key: 4, Id: 4}
	if m := Sort([]api.Pop{p, p, p}); !slices.Equal(m, []api.Pop{p, p, p}) {
		t.Error(m)
	}
}

func TestLeast(t *testing.T) {
	for _, l := range lists() {
		want := sorted(l)
		for _, n := range []int{0, 1, 2, len(l) - 1, len(l), len(l) + 1, 1000, math.MaxInt} {
			if n < 0 {
				continue
			}
			m, e := Least(l, n)
			if !slices.Equal(m, want[:min(n, len(l))]) || e != api.OK {
				t.Error(l, n, m, e)
			}
		}
	}
}

func TestLeastRefuses(t *testing.T) {
	for _, l := range [][]api.Pop{nil, {}, {{Key: 1, Id: 1}}} {
		for _, n := range []int{-1, -2, math.MinInt} {
			if m, e := Least(l, n); len(m) != 0 || e != api.ErrArg {
				t.Error(l, n, m, e)
			}
		}
	}
}

// calls are the ways to ask for a list, for what must hold of each of them.
var calls = []func(l []api.Pop) []api.Pop{
	Sort,
	func(l []api.Pop) []api.Pop { m, _ := Least(l, 0); return m },
	func(l []api.Pop) []api.Pop { m, _ := Least(l, 2); return m },
	func(l []api.Pop) []api.Pop { m, _ := Least(l, len(l)); return m },
	func(l []api.Pop) []api.Pop { m, _ := Least(l, len(l)+3); return m },
	func(l []api.Pop) []api.Pop { m, _ := Least(l, -1); return m },
}

func spoil(l []api.Pop) {
	l = l[:cap(l)]
	for i := range l {
		l[i] = api.Pop{Key: -77, Id: -77}
	}
}

func TestWhatIsHandedInStays(t *testing.T) {
	for i, call := range calls {
		for to := 1; to <= 6; to++ {
			room := []api.Pop{{Key: 9, Id: 9}, {Key: 5, Id: 1}, {Key: 3, Id: 2}, {Key: 4, Id: 3}, {Key: 1, Id: 8}, {Key: 0, Id: 7}}
			was := slices.Clone(room)
			m := call(room[1:to])
			if !slices.Equal(room, was) {
				t.Error("changed", i, to, room)
			}
			spoil(m)
			if !slices.Equal(room, was) {
				t.Error("shared", i, to, room)
			}
		}
	}
}

func TestWhatIsAnsweredStays(t *testing.T) {
	for i, call := range calls {
		room := []api.Pop{{Key: 1, Id: 1}, {Key: 2, Id: 2}, {Key: 3, Id: 3}, {Key: 4, Id: 4}}
		m, other := call(room[:3]), call(room[:3])
		was := slices.Clone(m)
		spoil(room)
		spoil(other)
		if !slices.Equal(m, was) {
			t.Error(i, m)
		}
	}
}

func TestHeapOfAnyTypeByAnyOrder(t *testing.T) {
	h := New(func(a, b string) bool { return len(a) > len(b) })
	for _, s := range []string{"a", "ccc", "", "bb", "dddd"} {
		h.Push(s)
	}
	for left, want := range []string{"dddd", "ccc", "bb", "a", ""} {
		if n := h.Len(); n != 5-left {
			t.Error(n)
		}
		if s, ok := h.Pop(); s != want || !ok {
			t.Error(s, ok)
		}
	}
	if s, ok := h.Pop(); s != "" || ok || h.Len() != 0 {
		t.Error(s, ok, h.Len())
	}
}

func TestHeapGoesOnAfterPops(t *testing.T) {
	h := New(func(a, b int) bool { return a < b })
	var held []int
	for i := range 300 {
		x := i * 37 % 101
		h.Push(x)
		held = append(held, x)
		if i%3 == 0 {
			continue
		}
		slices.Sort(held)
		if y, ok := h.Pop(); y != held[0] || !ok {
			t.Fatal(i, y, ok, held[0])
		}
		held = held[1:]
	}
	if h.Len() != len(held) {
		t.Error(h.Len(), len(held))
	}
}

func TestHeapLetsGoOfWhatLeft(t *testing.T) {
	h := New(func(a, b *int) bool { return *a < *b })
	for i := range 4 {
		h.Push(&i)
	}
	for h.Len() > 0 {
		h.Pop()
	}
	for _, p := range h.items[:cap(h.items)] {
		if p != nil {
			t.Error(*p)
		}
	}
}
