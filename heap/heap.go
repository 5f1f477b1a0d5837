// Package heap: what is least comes first: see doc/02-heap.md.
package heap

import "fellwalker/api"

// Heap holds items of any type and gives them back by the order that it was made with.
type Heap[T any] struct {
	before func(a, b T) bool
	items  []T
}

// New makes an empty heap; before tells whether a comes ahead of b.
func New[T any](before func(a, b T) bool) *Heap[T] {
	return &Heap[T]{before: before}
}

// Len answers how many items the heap holds.
func (h *Heap[T]) Len() int { return len(h.items) }

// Push lays x into the heap.
func (h *Heap[T]) Push(x T) {
	h.items = append(h.items, x)
	h.rise(len(h.items) - 1)
}

// Pop takes the first item out of the heap; false, if there is none.
func (h *Heap[T]) Pop() (T, bool) {
	var none T
	if len(h.items) == 0 {
		return none, false
	}
	first, last := h.items[0], len(h.items)-1
	h.items[0] = h.items[last]
	// The room behind the list must not hold on to what has left.
	h.items[last] = none
	h.items = h.items[:last]
	h.sink(0)
	return first, true
}

func (h *Heap[T]) rise(i int) {
	for i > 0 {
		parent := (i - 1) / 2
		if !h.before(h.items[i], h.items[parent]) {
			return
		}
		h.swap(i, parent)
		i = parent
	}
}

func (h *Heap[T]) sink(i int) {
	for {
		child := 2*i + 1
		if child >= len(h.items) {
			return
		}
		if child+1 < len(h.items) && h.before(h.items[child+1], h.items[child]) {
			child++
		}
		if !h.before(h.items[child], h.items[i]) {
			return
		}
		h.swap(i, child)
		i = child
	}
}

func (h *Heap[T]) swap(i, j int) {
	h.items[i], h.items[j] = h.items[j], h.items[i]
}

// Sort answers all of l, those of lesser Key ahead, of one Key those of lesser Id.
func Sort(l []api.Pop) []api.Pop {
	return first(l, len(l))
}

// Least answers the first n of Sort, or all if there are fewer.
func Least(l []api.Pop, n int) ([]api.Pop, api.Errno) {
	if n < 0 {
		return nil, api.ErrArg
	}
	return first(l, min(n, len(l))), api.OK
}

// first wants an n of at most the length of l: an n from outside may be too great to make room for.
func first(l []api.Pop, n int) []api.Pop {
	h := New(lesser)
	for _, p := range l {
		h.Push(p)
	}
	out := make([]api.Pop, 0, n)
	for range n {
		p, _ := h.Pop()
		out = append(out, p)
	}
	return out
}

func lesser(a, b api.Pop) bool {
	if a.Key != b.Key {
		return a.Key < b.Key
	}
	return a.Id < b.Id
}
