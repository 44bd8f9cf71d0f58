package heaps_test

import (
	"slices"
	"testing"

	"spillway/api"
	"spillway/heaps"
)

func ascending(a, b int) bool { return a < b }

// state is a state with the values of pairs, each after its handle.
func state(next int64, pairs ...int) api.HpState[int] {
	s := api.HpState[int]{Next: next}
	for i := 0; i < len(pairs); i += 2 {
		s.Items = append(s.Items, api.HpItem[int]{Handle: int64(pairs[i]), Value: pairs[i+1]})
	}
	return s
}

// alike are the handles and values from one to n, with the same value.
func alike(n, v int) api.HpState[int] {
	s := state(int64(n) + 1)
	for i := range n {
		s.Items = append(s.Items, api.HpItem[int]{Handle: int64(i) + 1, Value: v})
	}
	return s
}

// pushed is a queue of ints that were pushed in this order.
func pushed(t *testing.T, l ...int) *heaps.Queue[int] {
	t.Helper()
	q := heaps.New(ascending)
	for i, v := range l {
		checkPush(t, q, v, int64(i)+1, api.OK)
	}
	return q
}

// loaded is the queue of ints with a state.
func loaded(t *testing.T, s api.HpState[int]) *heaps.Queue[int] {
	t.Helper()
	q, e := heaps.Load(ascending, s)
	if q == nil || e != api.OK {
		t.Fatalf("Load(%.80v): %d", s, e)
	}
	return q
}

// same reports whether two states are the same.
func same(a, b api.HpState[int]) bool {
	return a.Next == b.Next && slices.Equal(a.Items, b.Items)
}

// checkState fails if the queue has not the state want.
func checkState(t *testing.T, q *heaps.Queue[int], want api.HpState[int]) {
	t.Helper()
	if s := q.Save(); !same(s, want) {
		t.Errorf("Save: %.200v, want %.200v", s, want)
	}
	if n := q.Len(); n != len(want.Items) {
		t.Errorf("Len: %d, want %d", n, len(want.Items))
	}
	var l []api.HpItem[int]
	for h, v := range q.All() {
		l = append(l, api.HpItem[int]{Handle: h, Value: v})
	}
	if !slices.Equal(l, want.Items) {
		t.Errorf("All: %.200v, want %.200v", l, want.Items)
	}
}

func checkPush(t *testing.T, q *heaps.Queue[int], v int, want int64, e api.Errno) {
	t.Helper()
	if h, got := q.Push(v); h != want || got != e {
		t.Errorf("Push(%d): %d, %d, want %d, %d", v, h, got, want, e)
	}
}

// checkFirst fails if Peek or Pop do not return the handle, the value and the error.
func checkFirst(t *testing.T, q *heaps.Queue[int], handle int64, v int, e api.Errno) {
	t.Helper()
	if h, got, err := q.Peek(); h != handle || got != v || err != e {
		t.Errorf("Peek: %d, %d, %d, want %d, %d, %d", h, got, err, handle, v, e)
	}
	if h, got, err := q.Pop(); h != handle || got != v || err != e {
		t.Errorf("Pop: %d, %d, %d, want %d, %d, %d", h, got, err, handle, v, e)
	}
}

func checkGet(t *testing.T, q *heaps.Queue[int], handle int64, v int, e api.Errno) {
	t.Helper()
	if got, err := q.Get(handle); got != v || err != e {
		t.Errorf("Get(%d): %d, %d, want %d, %d", handle, got, err, v, e)
	}
}

func checkSet(t *testing.T, q *heaps.Queue[int], handle int64, v int, e api.Errno) {
	t.Helper()
	if err := q.Set(handle, v); err != e {
		t.Errorf("Set(%d, %d): %d, want %d", handle, v, err, e)
	}
}

func checkRemove(t *testing.T, q *heaps.Queue[int], handle int64, v int, e api.Errno) {
	t.Helper()
	if got, err := q.Remove(handle); got != v || err != e {
		t.Errorf("Remove(%d): %d, %d, want %d, %d", handle, got, err, v, e)
	}
}

func TestExamples(t *testing.T) { // P2.2, P2.3, P2.4
	q := pushed(t, 5, 3, 3)
	if h, v, e := q.Peek(); h != 2 || v != 3 || e != api.OK {
		t.Errorf("Peek: %d, %d, %d", h, v, e)
	}
	checkSet(t, q, 1, 3, api.OK)
	checkState(t, q, state(4, 1, 3, 2, 3, 3, 3))
	checkRemove(t, q, 2, 3, api.OK)
	checkFirst(t, q, 1, 3, api.OK)
	checkFirst(t, q, 3, 3, api.OK)
	checkFirst(t, q, 0, 0, api.ErrNone)
	checkPush(t, q, 9, 4, api.OK)
	checkGet(t, q, 1, 0, api.ErrNone)
}

func TestNewQueueIsEmpty(t *testing.T) { // P2.1
	q := heaps.New(ascending)
	checkState(t, q, state(1))
	checkFirst(t, q, 0, 0, api.ErrNone)
	checkPush(t, q, 7, 1, api.OK)
	checkState(t, q, state(2, 1, 7))
	if heaps.New[int](nil) != nil {
		t.Error("New of nil: a queue")
	}
}

func TestLoadAndSave(t *testing.T) { // P2.1, P2.7
	for _, s := range []api.HpState[int]{
		state(1), state(2), state(5), state(1e15), state(1e15 - 1),
		{Next: 3, Items: []api.HpItem[int]{}},
		state(2, 1, 0), state(3, 2, -5), state(1e15, 1e15-1, 3),
		state(3, 1, 4, 2, 4), state(3, 2, 3, 1, 4),
		state(9, 5, 1, 2, 4, 7, 4, 8, 4, 1, 5),
		alike(5000, 3),
	} {
		q := loaded(t, s)
		checkState(t, q, s)
		again := loaded(t, q.Save())
		checkState(t, again, s)
		for _, item := range s.Items {
			checkGet(t, q, item.Handle, item.Value, api.OK)
		}
		for _, item := range s.Items {
			checkFirst(t, q, item.Handle, item.Value, api.OK)
			checkFirst(t, again, item.Handle, item.Value, api.OK)
		}
		checkState(t, q, state(s.Next))
		checkState(t, again, state(s.Next))
	}
}

// long is a state with more values than a queue may have.
func long(next int64) api.HpState[int] {
	s := alike(5001, 0)
	s.Next = next
	return s
}

func TestLoadOfWrongStates(t *testing.T) { // P2.1
	for i, c := range []struct {
		s api.HpState[int]
		e api.Errno
	}{
		{long(5002), api.ErrLong},
		{long(0), api.ErrLong},
		{long(5001), api.ErrLong},
		{api.HpState[int]{Next: 1, Items: make([]api.HpItem[int], 5001)}, api.ErrLong},
		{api.HpState[int]{}, api.ErrRange},
		{state(-1), api.ErrRange},
		{state(-1 << 63), api.ErrRange},
		{state(1<<63 - 1), api.ErrRange},
		{state(1e15 + 1), api.ErrRange},
		{state(1, 1, 0), api.ErrRange},
		{state(3, 3, 0), api.ErrRange},
		{state(3, 0, 0), api.ErrRange},
		{state(3, -1, 0), api.ErrRange},
		{state(3, 1, 0, 2, 1, 4, 2), api.ErrRange},
		{state(3, 1, 0, 1, 0, 3, 0), api.ErrRange},
		{state(3, 2, 0, 1, 0, 0, 0), api.ErrRange},
		{state(1e15, 1e15, 0), api.ErrRange},
		{state(3, 1, 0, 1, 0), api.ErrTwice},
		{state(3, 1, 0, 1, 5), api.ErrTwice},
		{state(4, 1, 5, 3, 2, 1, 0), api.ErrTwice},
		{state(4, 3, 0, 2, 0, 1, 0, 3, 9), api.ErrTwice},
		{state(3, 2, 0, 1, 0), api.ErrForm},
		{state(3, 1, 1, 2, 0), api.ErrForm},
		{state(9, 1, 0, 2, 1, 3, 2, 5, 3, 4, 3), api.ErrForm},
		{state(9, 1, 0, 2, 2, 3, 1, 4, 3), api.ErrForm},
		// A heap need not be in order.
		{state(4, 1, 0, 2, 5, 3, 4), api.ErrForm},
	} {
		if q, e := heaps.Load(ascending, c.s); q != nil || e != c.e {
			t.Errorf("%d: Load(%.80v): %v, %d, want %d", i, c.s, q, e, c.e)
		}
		if q, e := heaps.Load(nil, c.s); q != nil || e != api.ErrNil {
			t.Errorf("%d: Load(nil, %.80v): %v, %d", i, c.s, q, e)
		}
	}
}

func TestPushOfTooMany(t *testing.T) { // P2.2
	q := heaps.New(ascending)
	for i := range 5000 {
		checkPush(t, q, -i, int64(i)+1, api.OK)
	}
	before := q.Save()
	checkPush(t, q, 1, 0, api.ErrFull)
	checkState(t, q, before)
	checkFirst(t, q, 5000, -4999, api.OK)
	checkPush(t, q, 1, 5001, api.OK)
	checkPush(t, q, 1, 0, api.ErrFull)
	checkRemove(t, q, 1, 0, api.OK)
	checkPush(t, q, 2, 5002, api.OK)
	checkPush(t, loaded(t, alike(5000, 0)), 1, 0, api.ErrFull)
	checkPush(t, loaded(t, alike(4999, 0)), 1, 5000, api.OK)
}

func TestPushOfLastHandle(t *testing.T) { // P2.2
	q := loaded(t, state(1e15-2, 4, 0))
	checkPush(t, q, 2, 1e15-2, api.OK)
	checkPush(t, q, 1, 1e15-1, api.OK)
	checkPush(t, q, 3, 0, api.ErrFull)
	checkState(t, q, state(1e15, 4, 0, 1e15-1, 1, 1e15-2, 2))
	checkFirst(t, q, 4, 0, api.OK)
	checkPush(t, q, 3, 0, api.ErrFull)
	checkGet(t, q, 1e15-1, 1, api.OK)
	checkRemove(t, q, 1e15-1, 1, api.OK)
	checkState(t, q, state(1e15, 1e15-2, 2))
}

func TestHandlesOfNoValue(t *testing.T) { // P2.3
	q := pushed(t, 4, 0, 2, 0)
	checkFirst(t, q, 2, 0, api.OK)
	checkRemove(t, q, 3, 2, api.OK)
	before := q.Save()
	for _, h := range []int64{0, -1, 2, 3, 5, 1e15, -1 << 63, 1<<63 - 1} {
		checkGet(t, q, h, 0, api.ErrNone)
		checkSet(t, q, h, 7, api.ErrNone)
		checkRemove(t, q, h, 0, api.ErrNone)
	}
	checkState(t, q, before)
}

func TestSetMovesValues(t *testing.T) { // P2.3
	for h := int64(1); h <= 7; h++ {
		for v := -1; v <= 13; v++ {
			q := pushed(t, 0, 2, 4, 6, 8, 10, 12)
			checkSet(t, q, h, v, api.OK)
			checkGet(t, q, h, v, api.OK)
			want := state(8, 1, 0, 2, 2, 3, 4, 4, 6, 5, 8, 6, 10, 7, 12)
			want.Items[h-1].Value = v
			want.Items = inOrder(want.Items, ascending)
			checkState(t, q, want)
			for _, item := range want.Items {
				checkFirst(t, q, item.Handle, item.Value, api.OK)
			}
		}
	}
}

func TestRemoveFromEachPlace(t *testing.T) { // P2.3
	for h := int64(1); h <= 9; h++ {
		q := pushed(t, 0, 10, 1, 11, 12, 2, 3, 13, 4)
		before := q.Save()
		at := slices.IndexFunc(before.Items, func(item api.HpItem[int]) bool { return item.Handle == h })
		checkRemove(t, q, h, before.Items[at].Value, api.OK)
		checkRemove(t, q, h, 0, api.ErrNone)
		checkState(t, q, api.HpState[int]{Next: 10, Items: slices.Delete(before.Items, at, at+1)})
	}
}

func TestAllWhileTheQueueChanges(t *testing.T) { // P2.4
	q := pushed(t, 5, 3, 4)
	all := q.All()
	checkPush(t, q, 1, 4, api.OK)
	var handles []int64
	for h, v := range all {
		if len(handles) == 0 {
			checkRemove(t, q, 3, 4, api.OK)
			checkSet(t, q, 2, 9, api.OK)
			checkPush(t, q, 2, 5, api.OK)
			checkFirst(t, q, 4, 1, api.OK)
		}
		if want := []int{0, 5, 3, 4, 1}[h]; v != want {
			t.Errorf("All: %d with %d, want %d", h, v, want)
		}
		handles = append(handles, h)
	}
	if !slices.Equal(handles, []int64{4, 2, 3, 1}) {
		t.Errorf("All: %v", handles)
	}
	checkState(t, q, state(6, 5, 2, 1, 5, 2, 9))
	handles = nil
	for h := range all {
		handles = append(handles, h)
	}
	if !slices.Equal(handles, []int64{5, 1, 2}) {
		t.Errorf("All once more: %v", handles)
	}
}

func TestAllThatEndsEarly(t *testing.T) { // P2.4
	q := pushed(t, 5, 3, 4)
	for n := 1; n <= 3; n++ {
		calls := 0
		q.All()(func(h int64, v int) bool {
			calls++
			return calls < n
		})
		if calls != n {
			t.Errorf("All: %d calls, want %d", calls, n)
		}
	}
	for range q.All() {
		for h := range q.All() {
			q.Remove(h)
		}
	}
	checkState(t, q, state(4))
}
