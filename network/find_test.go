package network_test

import (
	"testing"

	"spillway/api"
)

func TestFind(t *testing.T) { // P12.6
	s := state(9, 20, conns()...)
	for _, c := range conns() {
		checkConn(t, s, c)
		check(t, s, find(c.Id))
	}
	for _, id := range []int64{-1 << 62, -1, 0, 15, 16, 19, 20, maxHandle} {
		checkError(t, s, find(id), api.ErrNone)
	}
	s.Conns = s.Conns[3:5]
	for id := range int64(20) {
		want := api.ErrNone
		if id == 4 || id == 5 {
			want = api.OK
		}
		checkError(t, s, find(id), want)
	}
	all := crowd(500)
	for i, c := range all.Conns {
		for id := c.Id - 1; id <= c.Id; id++ {
			r := do(all, find(id))
			if r.e == api.OK != (id == c.Id) || r.e == api.OK && !sameConn(r.conn, c) {
				t.Errorf("Find(%d) of connection %d: %s", id, i, short(r))
			}
		}
	}
}

func TestCount(t *testing.T) { // P12.6
	for i, want := range []api.NwCount{
		{Dialling: 1, Up: 5, Failed: 1, Closed: 3},
		{Dialling: 1},
		{Dialling: 1},
		{Up: 1},
		{Up: 1},
	} {
		r := check(t, state(9, 15, conns()...), count(int64(i)))
		if r.count != want || r.e != api.OK {
			t.Errorf("Count(%d): %v, %d, want %v", i, r.count, r.e, want)
		}
		if r := check(t, state(9, 15), count(int64(i))); r.count != (api.NwCount{}) || r.e != api.OK {
			t.Errorf("Count(%d) without connections: %v, %d", i, r.count, r.e)
		}
	}
	for _, backend := range []int64{-1 << 62, -1, 5, 6, 1 << 62} {
		checkError(t, state(9, 15, conns()...), count(backend), api.ErrNone)
	}
	checkError(t, api.NwState{Next: 1}, count(0), api.ErrNone)
	for _, n := range []int64{0, 1, 13, 14, 15, 499, 500} {
		sum := 0
		for backend := range int64(5) {
			c := check(t, crowd(n), count(backend)).count
			sum += c.Dialling + c.Up + c.Failed + c.Closed
		}
		if sum != int(n) {
			t.Errorf("%d connections of %d are counted", sum, n)
		}
	}
}
