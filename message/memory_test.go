package message_test

import (
	"math"
	"slices"
	"strings"
	"sync"
	"testing"
	"unsafe"

	"spillway/api"
	"spillway/message"
)

// shared reports whether two strings share memory. Strings of one byte are left out: the language keeps these.
func shared(a, b string) bool {
	if len(a) < 2 || len(b) < 2 {
		return false
	}
	from, to := uintptr(unsafe.Pointer(unsafe.StringData(a))), uintptr(unsafe.Pointer(unsafe.StringData(b)))
	return from < to+uintptr(len(b)) && to < from+uintptr(len(a))
}

// checkFresh fails if two of the strings share memory.
func checkFresh(t *testing.T, what string, l ...string) {
	t.Helper()
	for i, a := range l {
		for _, b := range l[:i] {
			if shared(a, b) {
				t.Errorf("%s: %.60q and %.60q share memory", what, a, b)
			}
		}
	}
}

// behind is fields behind the fields of arguments.
var behind = fields("behind", "it", "behind", "it")

// freshFields is fields in new memory, with room behind them.
func freshFields(l []api.HdField) []api.HdField {
	var all []api.HdField
	for _, f := range l {
		all = append(all, field(strings.Clone(f.Name), strings.Clone(f.Value)))
	}
	return append(all, behind...)[:len(l)]
}

// fresh is an exchange in new memory.
func fresh(x api.MsState) api.MsState {
	r, in := &x.Request, &x.In
	for _, s := range []*string{&r.Method, &r.Target, &r.Host, &r.Body, &x.Out, &in.Method, &in.Line, &in.Head.Reason, &in.Body, &in.Chunks.Line, &in.Chunks.Data} {
		*s = strings.Clone(*s)
	}
	for _, l := range lists(&x) {
		*l = freshFields(*l)
	}
	return x
}

// lists is the lists of fields of an exchange.
func lists(x *api.MsState) []*[]api.HdField {
	return []*[]api.HdField{&x.Request.Fields, &x.In.Head.Fields, &x.In.Chunks.Trailers}
}

// fieldStrs returns the strings of fields.
func fieldStrs(l []api.HdField) []string {
	var all []string
	for _, f := range l {
		all = append(all, f.Name, f.Value)
	}
	return all
}

// strs returns the strings of exchanges.
func strs(l ...api.MsState) []string {
	var all []string
	for _, x := range l {
		r, in := x.Request, x.In
		all = append(all, r.Method, r.Target, r.Host, r.Body, x.Out, in.Method, in.Line, in.Head.Reason, in.Body, in.Chunks.Line, in.Chunks.Data)
		for _, l := range lists(&x) {
			all = append(all, fieldStrs(*l)...)
		}
	}
	return all
}

// isKeptAsItWas reports whether an argument that fresh made of an exchange is still the same, with what is behind its fields.
func isKeptAsItWas(x, was api.MsState) bool {
	for _, l := range lists(&x) {
		if !slices.Equal((*l)[len(*l):][:len(behind)], behind) {
			return false
		}
	}
	return same(x, was)
}

// spoil overwrites the lists of fields of an exchange.
func spoil(x api.MsState) {
	for _, l := range lists(&x) {
		clear((*l)[:cap(*l)])
	}
}

// put is the exchange for a request with all parts.
func put() api.MsState {
	r := api.Request{Id: 12, Method: "PUT", Target: "/target", Host: "host", Fields: fields("name", "value", "other", "words"), Body: "body"}
	x, _ := message.Begin(r, 200, 20)
	return x
}

// manyExchanges is exchanges of all phases and framings.
func manyExchanges() []api.MsState {
	x := after(put(), sent(10))
	head := "HTTP/1.1 200 reason\r\nname: value\r\n"
	all := []api.MsState{put(), x}
	for _, s := range []string{"HTTP", info + "HTTP", head + "\r\nbody", head + "Content-Length: 6\r\n\r\nbody", head + "Content-Length: 4\r\n\r\nbody", head + "Transfer-Encoding: chunked\r\n\r\n4\r\nbody\r\n3;x", head + "Transfer-Encoding: chunked\r\n\r\n4\r\nbody\r\n0\r\nname: value\r\n\r\n", "\n"} {
		y := after(x, got(s))
		all = append(all, y, after(y, closed), after(y, reset), after(y, abort(api.FaCanceled)), after(y, got("\n\n")))
	}
	return all
}

func TestExchangesAreFresh(t *testing.T) { // R3, P10.8
	for _, was := range manyExchanges() {
		for _, v := range []api.MsEvent{sent(0), got(""), got("\r\nbody"), got("bo"), got("TP/1.1 200 reason\r\nname: value\r\n\r\nbody"), closed, reset, abort(api.FaDeadline), {}} {
			x, v := fresh(was), api.MsEvent{Kind: v.Kind, N: v.N, Bytes: strings.Clone(v.Bytes), Why: v.Why}
			y, _ := message.Step(x, v)
			_, z, _ := message.Play(x, []api.MsEvent{v})
			_, w, _ := message.Play(x, nil)
			checkFresh(t, "Step, Play", append(strs(x, y, z, w), v.Bytes)...)
			want := fresh(z)
			spoil(y)
			spoil(w)
			if !isKeptAsItWas(x, was) || !same(z, want) {
				t.Errorf("Step(%s, %s): %s, %s", short(was), short(v), short(x), short(z))
			}
		}
	}
}

func TestVerdictsAreFresh(t *testing.T) { // R3, P10.8
	for _, was := range manyExchanges() {
		x := fresh(was)
		v, _ := message.Verdict(x)
		u, _ := message.Verdict(x)
		a, _ := message.Next(x, 5)
		b, _ := message.Next(x, 1000)
		e := message.Check(x)
		all := append(strs(x), a, b, v.Response.Head.Reason, v.Response.Body, u.Response.Head.Reason, u.Response.Body)
		for _, l := range [][]api.HdField{v.Response.Head.Fields, v.Response.Trailers, u.Response.Head.Fields, u.Response.Trailers} {
			all = append(all, fieldStrs(l)...)
		}
		checkFresh(t, "Verdict, Next", all...)
		for _, l := range [][]api.HdField{v.Response.Head.Fields, v.Response.Trailers} {
			clear(l[:cap(l)])
		}
		if want, _ := verdict(was); !isKeptAsItWas(x, was) || !sameVerdict(u, want) || e != api.OK {
			t.Errorf("Verdict(%s): %s, %s", short(was), short(x), short(u))
		}
	}
}

func TestBegunExchangesAreFresh(t *testing.T) { // R3, P10.8
	x := fresh(put())
	r := x.Request
	y, _ := message.Begin(r, 200, 20)
	z, _ := message.Begin(r, 200, 20)
	checkFresh(t, "Begin", append(strs(y, z), strs(api.MsState{Request: r})...)...)
	spoil(y)
	if !sameRequest(r, put().Request) || !slices.Equal(r.Fields[2:4], behind) || !same(z, put()) {
		t.Errorf("Begin(%s): %s", short(r), short(z))
	}
	l := []api.MsEvent{sent(4), {}, got("x"), {}, closed}
	message.Play(x, l[:3])
	if !slices.Equal(l, []api.MsEvent{sent(4), {}, got("x"), {}, closed}) {
		t.Errorf("Play: its events are %s now", short(l))
	}
}

func TestAllArgumentsAreAccepted(t *testing.T) { // R1
	much := strings.Repeat("\x00\"\\\n ;,=a:\r\xff0\r\n", 1<<13)
	many := []string{"", "GET", much, strings.Repeat("\r\n", 1<<17), strings.Repeat(info, 1<<13), "HTTP/1.1 200 \r\n" + strings.Repeat("a:\r\n", 1<<16), ending + strings.Repeat("x", 1<<17)}
	numbers := []int{0, 1, 2, 3, 64, -1, math.MaxInt, math.MinInt}
	for i, s := range many {
		for j, n := range numbers {
			for k, m := range numbers {
				r := api.Request{Id: int64(n), Method: many[(i+j)%len(many)], Target: s, Host: s, Fields: fields(s, s), Body: s}
				message.Begin(r, n, m)
				message.Begin(asked("GET"), n, m)
				v := api.MsEvent{Kind: j, N: m, Bytes: s, Why: api.FaKind(n)}
				in := api.RsState{Method: s, Phase: m, Infos: n, Line: s, Head: api.RsHead{Minor: n, Status: m, Reason: s, Fields: r.Fields}, Framing: k, Body: s, Left: n, Chunks: api.ChState{Phase: n, Line: s, Data: s, Left: m, Trailers: r.Fields}}
				for _, x := range []api.MsState{{Request: r, Out: s, Sent: n, In: in, MaxHeader: n, MaxBody: m, Phase: n, Ended: true, Why: api.FaKind(m)}, begun("GET", 64, 65536)} {
					x.Sent, x.MaxHeader = max(x.Sent, n), max(x.MaxHeader, m)
					message.Check(x)
					message.Next(x, n)
					message.Step(x, v)
					message.Step(x, got(s))
					message.Play(x, []api.MsEvent{sent(m), v, sent(1), got(s), {Kind: m, N: n}, closed})
					message.Verdict(x)
				}
			}
		}
	}
}

func TestResultsOfManyThreads(t *testing.T) { // R6
	x := begun("GET", 100, 10)
	whole := after(x, sent(44), got(info+answer))
	var all sync.WaitGroup
	for range 8 {
		all.Go(func() {
			for range 100 {
				checkBegin(t, asked("GET"), 100, 10, x, api.OK)
				checkNext(t, x, 4, "GET ", api.OK)
				checkPlay(t, x, []api.MsEvent{sent(44), got(info + answer)}, []api.Errno{api.OK, api.OK}, whole, api.OK)
				checkStep(t, whole, got("x"), broken(whole, api.FaSurplus), api.OK)
				checkVerdict(t, whole, api.MsVerdict{Response: plain, Reuse: true}, api.OK)
			}
		})
	}
	all.Wait()
}
