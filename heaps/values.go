package heaps

import (
	"cmp"

	"spillway/api"
)

// values is what a queue has, with the methods that container/heap calls. Items are a heap; places are where they are, by their handles.
type values[T any] struct {
	less   func(a, b T) bool
	next   int64
	items  []api.HpItem[T]
	places map[int64]int
}

// Len returns how many items there are.
func (v *values[T]) Len() int {
	return len(v.items)
}

// Less reports whether the item at i comes before that at j.
func (v *values[T]) Less(i, j int) bool {
	return v.compare(v.items[i], v.items[j]) < 0
}

// Swap exchanges the items at i and j.
func (v *values[T]) Swap(i, j int) {
	v.items[i], v.items[j] = v.items[j], v.items[i]
	v.places[v.items[i].Handle] = i
	v.places[v.items[j].Handle] = j
}

// Push puts an item at the end.
func (v *values[T]) Push(x any) {
	item := x.(api.HpItem[T])
	v.places[item.Handle] = len(v.items)
	v.items = append(v.items, item)
}

// Pop takes the item at the end out.
func (v *values[T]) Pop() any {
	last := len(v.items) - 1
	item := v.items[last]
	// What is out of the queue must not be kept behind its end.
	clear(v.items[last:])
	v.items = v.items[:last]
	delete(v.places, item.Handle)
	return item
}

// compare returns a negative number if a comes before b in the order of the queue, and a positive one if b comes before a.
func (v *values[T]) compare(a, b api.HpItem[T]) int {
	before, after := v.says(a.Value, b.Value), v.says(b.Value, a.Value)
	if before != after {
		if before {
			return -1
		}
		return 1
	}
	return cmp.Compare(a.Handle, b.Handle)
}

// says reports whether less says that a is less than b. A less that panics, which is no order, says of no value that it is less, so that every call returns.
func (v *values[T]) says(a, b T) (yes bool) {
	defer func() {
		_ = recover()
	}()
	return v.less(a, b)
}
