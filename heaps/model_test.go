package heaps_test

import (
	"slices"
	"testing"

	"spillway/api"
	"spillway/heaps"
)

// halves is an order with different values that are alike.
func halves(a, b int) bool { return a>>1 < b>>1 }

// inOrder returns items in the order of a queue: each time the one that no other one comes before.
func inOrder(items []api.HpItem[int], less func(a, b int) bool) []api.HpItem[int] {
	left := slices.Clone(items)
	var l []api.HpItem[int]
	for len(left) > 0 {
		first := 0
		for i, item := range left {
			same := !less(left[first].Value, item.Value) && !less(item.Value, left[first].Value)
			if less(item.Value, left[first].Value) || same && item.Handle < left[first].Handle {
				first = i
			}
		}
		l = append(l, left[first])
		left = slices.Delete(left, first, first+1)
	}
	return l
}

// list is what a queue should be, done in the simplest way.
type list struct {
	api.HpState[int]
	less func(a, b int) bool
}

func (l *list) find(handle int64) int {
	return slices.IndexFunc(l.Items, func(item api.HpItem[int]) bool { return item.Handle == handle })
}

// step is a call of a queue.
type step struct {
	method string
	handle int64
	value  int
}

// result is what a call returned.
type result struct {
	handle int64
	value  int
	e      api.Errno
}

// do does a step of the list.
func (l *list) do(s step) result {
	at := l.find(s.handle)
	if s.method == "pop" || s.method == "peek" {
		at = -1
		if len(l.Items) > 0 {
			at = 0
		}
	}
	if s.method == "push" {
		l.Next++
		l.Items = inOrder(append(l.Items, api.HpItem[int]{Handle: l.Next - 1, Value: s.value}), l.less)
		return result{handle: l.Next - 1}
	}
	if at < 0 {
		return result{e: api.ErrNone}
	}
	item := l.Items[at]
	switch s.method {
	case "set":
		l.Items[at].Value = s.value
		l.Items = inOrder(l.Items, l.less)
		return result{}
	case "pop", "remove":
		l.Items = slices.Delete(l.Items, at, at+1)
	}
	if s.method == "pop" || s.method == "peek" {
		return result{item.Handle, item.Value, api.OK}
	}
	return result{value: item.Value}
}

// do does a step of the queue.
func do(q *heaps.Queue[int], s step) (r result) {
	switch s.method {
	case "push":
		r.handle, r.e = q.Push(s.value)
	case "peek":
		r.handle, r.value, r.e = q.Peek()
	case "pop":
		r.handle, r.value, r.e = q.Pop()
	case "get":
		r.value, r.e = q.Get(s.handle)
	case "set":
		r.e = q.Set(s.handle, s.value)
	case "remove":
		r.value, r.e = q.Remove(s.handle)
	}
	return r
}

// eachRun calls f with all runs of n of the steps.
func eachRun(steps []step, n int, f func(run []step)) {
	if n == 0 {
		f(nil)
		return
	}
	eachRun(steps, n-1, func(run []step) {
		for _, s := range steps {
			f(append(slices.Clip(run), s))
		}
	})
}

func TestAllShortRuns(t *testing.T) { // P2.2, P2.3, P2.4, P2.5
	steps := []step{
		{"push", 0, 0}, {"push", 0, 1}, {"push", 0, 2}, {"pop", 0, 0},
		{"set", 1, 0}, {"set", 1, 1}, {"set", 1, 2}, {"set", 2, 0}, {"set", 2, 2}, {"set", 3, 1},
		{"remove", 1, 0}, {"remove", 2, 0},
	}
	for n := range 6 {
		eachRun(steps, n, func(run []step) {
			q := heaps.New(halves)
			l := &list{state(1), halves}
			for _, s := range run {
				if got, want := do(q, s), l.do(s); got != want {
					t.Fatalf("%v: %v: %v, want %v", run, s, got, want)
				}
			}
			if s := q.Save(); !same(s, l.HpState) || q.Len() != len(l.Items) {
				t.Fatalf("%v: %v, %d, want %v", run, s, q.Len(), l.HpState)
			}
		})
	}
}

// numbers returns a function that returns numbers below n that look like random ones, the same ones each time.
func numbers(seed uint64) func(n int) int {
	return func(n int) int {
		seed = seed*6364136223846793005 + 1442695040888963407
		return int(seed>>33) % n
	}
}

// anyStep is a step with a queue of some handles and about size values.
func anyStep(next func(n int) int, l *list, size int) step {
	methods := []string{"push", "pop", "peek", "get", "set", "set", "remove"}
	m := methods[next(len(methods))]
	if len(l.Items) < size && next(2) == 0 {
		m = "push"
	}
	s := step{m, int64(next(int(l.Next)+2)) - 1, next(2*size) - size}
	if len(l.Items) > 0 && next(4) > 0 {
		s.handle = l.Items[next(len(l.Items))].Handle
	}
	return s
}

func TestLongRuns(t *testing.T) { // P2.2, P2.3, P2.5, P2.7
	for seed, size := range []int{2, 5, 17, 64, 100} {
		next := numbers(uint64(seed))
		q := heaps.New(halves)
		l := &list{state(1), halves}
		for i := range 3000 {
			s := anyStep(next, l, size)
			if got, want := do(q, s), l.do(s); got != want {
				t.Fatalf("size %d, %d: %v: %v, want %v", size, i, s, got, want)
			}
			if i%50 > 0 {
				continue
			}
			checkState(t, q, l.HpState)
			if i%500 == 0 {
				q, _ = heaps.Load(halves, q.Save())
			}
		}
		for len(l.Items) > 0 {
			want := l.do(step{method: "pop"})
			checkFirst(t, q, want.handle, want.value, api.OK)
		}
		checkFirst(t, q, 0, 0, api.ErrNone)
	}
}

func TestPopsAreInOrder(t *testing.T) { // P2.5
	next := numbers(7)
	q := heaps.New(halves)
	want := map[int64]int{}
	for range 5000 {
		v := next(1000)
		h, _ := q.Push(v)
		want[h] = v
	}
	last, before := -1, int64(0)
	for range 5000 {
		h, v, e := q.Pop()
		if w, ok := want[h]; e != api.OK || !ok || w != v {
			t.Fatalf("Pop: %d, %d, %d, want %d", h, v, e, w)
		}
		if halves(v, last) || !halves(last, v) && h < before {
			t.Fatalf("Pop: %d with %d after %d with %d", h, v, before, last)
		}
		delete(want, h)
		last, before = v, h
	}
	checkFirst(t, q, 0, 0, api.ErrNone)
}

func TestHandlesAreGivenOnce(t *testing.T) { // P2.6
	q := heaps.New(ascending)
	for h := int64(1); h < 500; h += 2 {
		checkPush(t, q, int(h%7), h, api.OK)
		checkPush(t, q, int(h%5), h+1, api.OK)
		switch h % 3 {
		case 0:
			q.Remove(h + 1)
		case 1:
			q.Pop()
		default:
			q = loaded(t, q.Save())
		}
	}
	q = heaps.New(ascending)
	for h := int64(1); h < 100; h++ {
		checkPush(t, q, 0, h, api.OK)
		checkFirst(t, q, h, 0, api.OK)
		q = loaded(t, q.Save())
	}
}

func TestRemoveOfPushedAndSetToSame(t *testing.T) { // P2.6
	next := numbers(3)
	q := heaps.New(halves)
	for range 60 {
		q.Push(next(40))
		s := q.Save()
		for v := -1; v <= 40; v++ {
			h, _ := q.Push(v)
			checkRemove(t, q, h, v, api.OK)
			if got := q.Save(); got.Next != h+1 || !slices.Equal(got.Items, s.Items) {
				t.Fatalf("%v after Push(%d) and Remove, before %v", got, v, s)
			}
		}
		s = q.Save()
		for _, item := range s.Items {
			checkSet(t, q, item.Handle, item.Value, api.OK)
			if got := q.Save(); !same(got, s) {
				t.Fatalf("%v after Set(%d, %d), before %v", got, item.Handle, item.Value, s)
			}
		}
	}
}

// eachOrder calls f with all orders of l.
func eachOrder(l []int, f func(l []int)) {
	if len(l) == 0 {
		f(nil)
		return
	}
	for i, v := range l {
		rest := append(slices.Clone(l[:i]), l[i+1:]...)
		eachOrder(rest, func(l []int) { f(append([]int{v}, l...)) })
	}
}

func TestOrderOfPushesIsOfNoConsequence(t *testing.T) { // P2.7
	values := []int{0, 1, 2, 3, 4, 5, 6}
	eachOrder(values, func(l []int) {
		q := heaps.New(ascending)
		for _, v := range l {
			q.Push(v)
		}
		for _, want := range values {
			if _, v, e := q.Pop(); v != want || e != api.OK {
				t.Fatalf("%v: Pop: %d, %d, want %d", l, v, e, want)
			}
		}
	})
}

func TestLoadOfSaveGoesOnAlike(t *testing.T) { // P2.7
	next := numbers(11)
	q := heaps.New(halves)
	l := &list{state(1), halves}
	for range 40 {
		s := step{"push", 0, next(20)}
		do(q, s)
		l.do(s)
	}
	again, e := heaps.Load(halves, q.Save())
	if e != api.OK {
		t.Fatalf("Load: %d", e)
	}
	for range 500 {
		s := anyStep(next, l, 30)
		l.do(s)
		if a, b := do(q, s), do(again, s); a != b {
			t.Fatalf("%v: %v, and %v of the one that was loaded", s, a, b)
		}
		if a, b := q.Save(), again.Save(); !same(a, b) {
			t.Fatalf("%v: %v, and %v of the one that was loaded", s, a, b)
		}
	}
}
