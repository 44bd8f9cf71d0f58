package message_test

import (
	"math"
	"slices"
	"testing"

	"spillway/api"
	"spillway/message"
)

// checkNext fails if Next does not return these results.
func checkNext(t *testing.T, x api.MsState, n int, want string, e api.Errno) {
	t.Helper()
	if s, got := message.Next(x, n); s != want || got != e {
		t.Errorf("Next(%s, %d): %q, %d, want %q, %d", short(x), n, s, got, want, e)
	}
}

// checkStep fails if Step does not return these results.
func checkStep(t *testing.T, x api.MsState, v api.MsEvent, want api.MsState, e api.Errno) {
	t.Helper()
	y, got := message.Step(x, v)
	if !same(y, want) || got != e {
		t.Errorf("Step(%s, %s): %s, %d, want %s, %d", short(x), short(v), short(y), got, short(want), e)
	}
}

// compareStep fails if Step does not return what the model does.
func compareStep(t *testing.T, x api.MsState, v api.MsEvent) {
	t.Helper()
	want, e := step(x, v)
	checkStep(t, x, v, want, e)
}

// checkPlay fails if Play does not return these results.
func checkPlay(t *testing.T, x api.MsState, l []api.MsEvent, all []api.Errno, want api.MsState, e api.Errno) {
	t.Helper()
	list, y, got := message.Play(x, l)
	if !slices.Equal(list, all) || !same(y, want) || got != e {
		t.Errorf("Play(%s, %s): %v, %s, %d, want %v, %s, %d", short(x), short(l), list, short(y), got, all, short(want), e)
	}
}

// comparePlay fails if Play does not return what the model does.
func comparePlay(t *testing.T, x api.MsState, l []api.MsEvent) {
	t.Helper()
	all, want, e := play(x, l)
	checkPlay(t, x, l, all, want, e)
}

func TestNext(t *testing.T) { // P10.2
	x := begun("GET", 100, 10)
	checkNext(t, x, 4, "GET ", api.OK)
	for _, sent := range []int{0, 1, 40, 43, 44} {
		x.Sent = sent
		for n := range 50 {
			checkNext(t, x, n, out[sent:min(sent+n, 44)], api.OK)
		}
		checkNext(t, x, math.MaxInt, out[sent:], api.OK)
		for _, n := range []int{-1, -44, math.MinInt} {
			checkNext(t, x, n, "", api.ErrRange)
		}
	}
}

func TestNextOfEachPhase(t *testing.T) { // P10.2
	for _, x := range exchanges() {
		for _, n := range []int{-1, 0, 1, 5, 100} {
			want, e := next(x, n)
			checkNext(t, x, n, want, e)
		}
	}
	whole := after(begun("GET", 100, 10), sent(40), got(answer))
	checkNext(t, whole, 9, "\r\n\r\n", api.OK)
	checkNext(t, after(whole, closed), 3, "\r\n\r", api.OK)
	checkNext(t, after(whole, got("x")), 3, "", api.ErrDown)
	checkNext(t, after(whole, got("x")), -1, "", api.ErrRange)
	checkNext(t, after(begun("GET", 100, 10), reset), 0, "", api.ErrDown)
}

func TestEventsThatAreNone(t *testing.T) { // P10.3
	for _, x := range []api.MsState{begun("GET", 100, 10), after(begun("GET", 100, 10), sent(44), got(answer)), after(begun("GET", 100, 10), closed)} {
		for _, v := range []api.MsEvent{
			{}, {Kind: -1}, {Kind: 6}, {Kind: math.MaxInt}, {Kind: math.MinInt}, {N: 1}, {Kind: 6, N: 99}, {Bytes: "x"}, {Why: api.FaDeadline},
			{Kind: api.MsSent, Bytes: "x"}, {Kind: api.MsSent, N: 1, Bytes: "x"}, {Kind: api.MsSent, N: -1, Bytes: "x"}, {Kind: api.MsSent, Why: 4}, {Kind: api.MsSent, N: 99, Why: -1},
			{Kind: api.MsGot, N: 1}, {Kind: api.MsGot, N: -1, Bytes: "x"}, {Kind: api.MsGot, Why: 4}, {Kind: api.MsGot, Bytes: "x", Why: -4},
			{Kind: api.MsClosed, N: 1}, {Kind: api.MsClosed, N: -1}, {Kind: api.MsClosed, Bytes: "x"}, {Kind: api.MsClosed, Why: 4},
			{Kind: api.MsReset, N: 1}, {Kind: api.MsReset, N: -1}, {Kind: api.MsReset, Bytes: "x"}, {Kind: api.MsReset, Why: 8},
			{Kind: api.MsAbort}, {Kind: api.MsAbort, N: 1, Why: 4}, {Kind: api.MsAbort, N: -1, Why: 4}, {Kind: api.MsAbort, Bytes: "x", Why: 4},
		} {
			checkStep(t, x, v, api.MsState{}, api.ErrArg)
		}
		for why := api.FaKind(-20); why <= 20; why++ {
			if !slices.Contains(aborts, why) {
				checkStep(t, x, abort(why), api.MsState{}, api.ErrArg)
			}
		}
	}
}

func TestSent(t *testing.T) { // P10.3
	x := begun("GET", 100, 10)
	for _, n := range []int{0, 1, 43, 44} {
		y := x
		y.Sent = n
		checkStep(t, x, sent(n), y, api.OK)
		for _, m := range []int{0, 44 - n} {
			checkStep(t, y, sent(m), changed(y, func(z *api.MsState) { z.Sent += m }), api.OK)
		}
		for _, m := range []int{-1, 45 - n, math.MaxInt, math.MinInt} {
			checkStep(t, y, sent(m), api.MsState{}, api.ErrRange)
		}
	}
	// After the response, too; but what does not fit comes before what is not possible.
	whole := after(x, sent(40), got(answer))
	checkStep(t, whole, sent(4), changed(whole, func(z *api.MsState) { z.Sent = 44 }), api.OK)
	checkStep(t, whole, sent(5), api.MsState{}, api.ErrRange)
	for _, y := range []api.MsState{after(whole, closed), after(whole, reset), after(whole, got("x")), after(x, sent(40), closed), after(x, sent(40), abort(api.FaCanceled))} {
		for _, n := range []int{0, 1, 4} {
			checkStep(t, y, sent(n), api.MsState{}, api.ErrDown)
		}
		checkStep(t, y, sent(5), api.MsState{}, api.ErrRange)
		checkStep(t, y, sent(-1), api.MsState{}, api.ErrRange)
	}
}

func TestClosed(t *testing.T) { // P10.3
	x := begun("GET", 100, 10)
	for _, c := range []struct {
		n    int
		s    string
		want api.FaKind
	}{
		{0, "", api.FaClosed}, {1, "", api.FaClosed}, {44, "", api.FaClosed},
		{44, "H", api.FaTruncated}, {1, "HTTP/1.1 100 \r\n", api.FaTruncated}, {44, info, api.FaTruncated}, {44, info + "HT", api.FaTruncated},
		{44, counted, api.FaTruncated}, {44, counted + "a", api.FaTruncated}, {44, coded, api.FaTruncated}, {44, coded + "0\r\n\r", api.FaTruncated},
		{44, ending, 0}, {44, ending + "a", 0}, {40, info + ending + "0123456789", 0},
		{44, answer, 0}, {44, empty, 0}, {1, coded + "0\r\n\r\n", 0},
	} {
		y := after(x, sent(c.n), got(c.s))
		z := y
		z.Ended, z.Phase, z.Why = true, api.MsBroken, c.want
		if c.want == 0 {
			z.Phase, z.In.Phase = api.MsDone, api.RsWhole
		}
		checkStep(t, y, closed, z, api.OK)
		for _, v := range []api.MsEvent{closed, reset, got(""), got("x"), sent(0), abort(api.FaShutdown)} {
			checkStep(t, z, v, api.MsState{}, api.ErrDown)
		}
	}
}

func TestReset(t *testing.T) { // P10.3
	x := begun("GET", 100, 10)
	for _, s := range []string{"", "H", info, counted, coded, ending, ending + "a"} {
		y := after(x, sent(44), got(s))
		z := y
		z.Ended, z.Phase, z.Why = true, api.MsBroken, api.FaReset
		checkStep(t, y, reset, z, api.OK)
		checkStep(t, z, reset, api.MsState{}, api.ErrDown)
	}
	checkStep(t, x, reset, changed(broken(x, api.FaReset), func(x *api.MsState) { x.Ended = true }), api.OK)
	for _, s := range []string{answer, empty, coded + "0\r\n\r\n"} {
		y := after(x, sent(40), got(s))
		z := changed(y, func(x *api.MsState) { x.Ended = true })
		checkStep(t, y, reset, z, api.OK)
		for _, v := range []api.MsEvent{closed, reset, got(""), got("x"), sent(4), abort(api.FaShutdown)} {
			checkStep(t, z, v, api.MsState{}, api.ErrDown)
		}
	}
}

func TestAbort(t *testing.T) { // P10.3
	x := begun("GET", 100, 10)
	for _, why := range aborts {
		checkStep(t, x, abort(why), broken(x, why), api.OK)
		for _, s := range []string{"", "H", info, counted, coded, ending + "a"} {
			y := after(x, sent(44), got(s))
			checkStep(t, y, abort(why), broken(y, why), api.OK)
			for _, v := range []api.MsEvent{closed, reset, got(""), got("x"), sent(0), abort(why), abort(api.FaShutdown)} {
				checkStep(t, broken(y, why), v, api.MsState{}, api.ErrDown)
			}
		}
		for _, y := range []api.MsState{after(x, sent(44), got(answer)), after(x, sent(44), got(answer), closed), after(x, sent(44), got(ending), closed)} {
			checkStep(t, y, abort(why), api.MsState{}, api.ErrDown)
			checkStep(t, y, abort(api.FaReset), api.MsState{}, api.ErrArg)
		}
	}
}

func TestStepOfEachPlace(t *testing.T) { // P10.3
	for _, x := range exchanges() {
		for _, v := range []api.MsEvent{sent(0), sent(4), sent(45), sent(-1), got(""), got("a"), got("\n"), got("\r\n\r\n"), got("bc0123456789"), closed, reset, abort(api.FaDeadline), abort(api.FaReset), {}, {Kind: api.MsReset, N: 1}} {
			compareStep(t, x, v)
		}
	}
}

func TestPlay(t *testing.T) { // P10.4
	x := begun("GET", 100, 10)
	checkPlay(t, x, nil, nil, x, api.OK)
	checkPlay(t, x, []api.MsEvent{}, nil, x, api.OK)
	whole := after(x, sent(44), got(answer))
	checkPlay(t, x, []api.MsEvent{sent(40), sent(5), {}, sent(4), got("HTTP"), got(answer[4:]), abort(api.FaCanceled), closed, reset},
		[]api.Errno{api.OK, api.ErrRange, api.ErrArg, api.OK, api.OK, api.OK, api.ErrDown, api.OK, api.ErrDown}, changed(whole, func(x *api.MsState) { x.Ended = true }), api.OK)
	y := broken(after(x, sent(44)), api.FaMalformed)
	checkPlay(t, x, []api.MsEvent{sent(44), got("\n"), got("x"), sent(1), sent(0), reset, abort(api.FaReset)},
		[]api.Errno{api.OK, api.OK, api.ErrDown, api.ErrRange, api.ErrDown, api.ErrDown, api.ErrArg}, y, api.OK)
}

func TestPlayOfManyEvents(t *testing.T) { // P10.4
	x := begun("GET", 100, 10)
	for _, n := range []int{499, 500, 501, 1000} {
		l := make([]api.MsEvent, n)
		l[n-1] = sent(3)
		all := slices.Repeat([]api.Errno{api.ErrArg}, n)
		all[n-1] = api.OK
		if n > 500 {
			checkPlay(t, x, l, nil, api.MsState{}, api.ErrLong)
		} else {
			checkPlay(t, x, l, all, after(x, sent(3)), api.OK)
		}
	}
}

// anyEvent is an event, more likely one that is possible.
func anyEvent(next func(n int) int) api.MsEvent {
	switch next(12) {
	case 0:
		return closed
	case 1:
		return reset
	case 2:
		return abort(api.FaKind(next(8)))
	case 3:
		return api.MsEvent{Kind: next(8) - 1, N: next(3) - 1, Bytes: []string{"", "x"}[next(2)], Why: api.FaKind(next(6))}
	case 4, 5:
		return sent(next(30) - 1)
	}
	s := texts[next(len(texts))]
	from := next(len(s))
	if next(2) == 0 {
		from = 0
	}
	return got(s[from : from+next(len(s)-from+1)])
}

func TestPlayOfAnyEvents(t *testing.T) { // P10.3, P10.4
	next := numbers(2)
	for range 5000 {
		x := begun([]string{"GET", "HEAD"}[next(2)], 64+next(60), next(12))
		var l []api.MsEvent
		if next(3) > 0 {
			l = append(l, sent(44))
		}
		for range next(12) {
			l = append(l, anyEvent(next))
		}
		comparePlay(t, x, l)
		y, _, _ := message.Play(x, l)
		// One after the other is the same as all at once.
		var all []api.Errno
		for _, v := range l {
			z, e := message.Step(x, v)
			if e == api.OK {
				x = z
			}
			all = append(all, e)
		}
		if !slices.Equal(y, all) {
			t.Errorf("Play(%s): %v, but by Step %v", short(l), y, all)
		}
	}
}
