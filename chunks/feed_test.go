package chunks_test

import (
	"slices"
	"strings"
	"testing"

	"spillway/api"
	"spillway/chunks"
)

// checkFeed fails if Feed does not return these results.
func checkFeed(t *testing.T, x api.ChState, b string, want api.ChState, used int, e api.Errno) {
	t.Helper()
	y, n, got := chunks.Feed(x, []byte(b))
	if !same(y, want) || n != used || got != e {
		t.Errorf("Feed(%s, %s): %s, %d, %d, want %s, %d, %d", short(x), short(b), short(y), n, got, short(want), used, e)
	}
}

// compareFeed fails if Feed does not return what the model does.
func compareFeed(t *testing.T, x api.ChState, b string) {
	t.Helper()
	want, used, e := feed(x, b)
	checkFeed(t, x, b, want, used, e)
}

func TestFeedOfEachPhase(t *testing.T) { // P8.2
	var x api.ChState
	for _, c := range []struct {
		b    string
		want api.ChState
	}{
		{"", api.ChState{}},
		{"0", api.ChState{Line: "0"}},
		{"2;a=", api.ChState{Line: "02;a="}},
		{"\"\t\"\r", api.ChState{Line: "02;a=\"\t\"\r"}},
		{"\n", api.ChState{Phase: api.ChData, Left: 2}},
		{"a", api.ChState{Phase: api.ChData, Left: 1, Data: "a"}},
		{"", api.ChState{Phase: api.ChData, Left: 1, Data: "a"}},
		{"\n", api.ChState{Phase: api.ChEnd, Data: "a\n"}},
		{"\r", api.ChState{Phase: api.ChEnd, Data: "a\n", Line: "\r"}},
		{"\n", api.ChState{Data: "a\n"}},
		{"C\r\n", api.ChState{Phase: api.ChData, Left: 12, Data: "a\n"}},
		{"\x00\xff\r\n0\r\n\r\n\r\n!\r", api.ChState{Phase: api.ChEnd, Data: "a\n\x00\xff\r\n0\r\n\r\n\r\n!", Line: "\r"}},
		{"\n00;\r", api.ChState{Data: "a\n\x00\xff\r\n0\r\n\r\n\r\n!", Line: "00;\r"}},
		{"\n", api.ChState{Phase: api.ChTrailer, Data: "a\n\x00\xff\r\n0\r\n\r\n\r\n!"}},
		{"B:\t1 \r\n", api.ChState{Phase: api.ChTrailer, Data: "a\n\x00\xff\r\n0\r\n\r\n\r\n!", Line: "B:\t1 \r\n"}},
		{"a: 2\r\n\r", api.ChState{Phase: api.ChTrailer, Data: "a\n\x00\xff\r\n0\r\n\r\n\r\n!", Line: "B:\t1 \r\na: 2\r\n\r"}},
		{"\n", api.ChState{Phase: api.ChDone, Data: "a\n\x00\xff\r\n0\r\n\r\n\r\n!", Trailers: fields("B", "1", "a", "2")}},
	} {
		checkFeed(t, x, c.b, c.want, len(c.b), api.OK)
		compareFeed(t, x, c.b)
		x = c.want
	}
	for _, b := range []string{"", "x", "\r\n", all65536} {
		checkFeed(t, x, b, x, 0, api.OK)
	}
}

func TestFeedUpToTheEnd(t *testing.T) { // P8.2
	want := api.ChState{Phase: api.ChDone, Data: "ab"}
	whole := "2\r\nab\r\n0\r\n\r\n"
	for _, more := range []string{"", "\r\n", "\xff", whole, all65536} {
		checkFeed(t, api.ChState{}, whole+more, want, len(whole), api.OK)
		checkFeed(t, api.ChState{Phase: api.ChData, Data: "a", Left: 1}, whole[4:]+more, want, len(whole)-4, api.OK)
		checkFeed(t, api.ChState{Phase: api.ChTrailer, Data: "ab", Line: "\r"}, "\n"+more, want, 1, api.OK)
	}
}

func TestFeedOfStatesThatAreNotReached(t *testing.T) { // P8.2
	for _, x := range []api.ChState{
		{Phase: -1, Line: "x", Data: "y", Left: -7, Trailers: fields("a b", "\r")},
		{Phase: 5},
		{Line: "\n"},
		{Left: 1},
		{Phase: api.ChData},
		{Phase: api.ChEnd},
		{Phase: api.ChTrailer, Line: "\r\n"},
		{Phase: api.ChDone, Trailers: fields("Host", "x", "a", "b")},
		{Data: all65536 + "x"},
	} {
		for _, b := range []string{"", "\xff", "1\r\na\r\n0\r\n\r\n"} {
			checkFeed(t, x, b, x, 0, api.ErrForm)
		}
	}
}

func TestFeedOfManyStates(t *testing.T) { // P8.2
	pieces := []string{"", "0", "1", "\r", "\n", "\r\n", "\n0\r\n\r\n", "\r\n0\r\n\r\nx", "1\r\na\r\n", "g", "b\r\n", ":\r\n\r\n", "\n1\r\n\n\r\n0\r\nb:\r\n\r\n"}
	eachState(func(x api.ChState) {
		for _, b := range pieces {
			compareFeed(t, x, b)
		}
	})
}

// places is a state for each place at which a byte may be read.
func places() []api.ChState {
	return []api.ChState{
		{Data: "y"},
		{Line: "1"},
		{Line: "0;"},
		{Line: "1;x"},
		{Line: "1\r"},
		{Line: "0;\r"},
		{Line: "12345678"},
		{Line: "1;" + strings.Repeat("x", 198)},
		{Line: "1;" + strings.Repeat("x", 198) + "\r"},
		{Line: "10000", Data: "z"},
		{Line: "10000\r", Data: "z"},
		{Phase: api.ChData, Left: 1},
		{Phase: api.ChData, Left: 2},
		{Phase: api.ChEnd, Data: "x"},
		{Phase: api.ChEnd, Data: "x", Line: "\r"},
		{Phase: api.ChTrailer},
		{Phase: api.ChTrailer, Line: "a"},
		{Phase: api.ChTrailer, Line: "a:"},
		{Phase: api.ChTrailer, Line: "a:\r"},
		{Phase: api.ChTrailer, Line: "host:\r\n\r"},
		{Phase: api.ChTrailer, Line: "a:\r\n\r"},
		{Phase: api.ChDone},
	}
}

func TestFeedOfEachByte(t *testing.T) { // P8.2
	for _, x := range places() {
		for c := range 256 {
			b := string([]byte{byte(c)})
			for _, s := range []string{b, b + "\n", b + "\r\n", b + "\r\n\r\n", b + b} {
				compareFeed(t, x, s)
			}
		}
	}
}

func TestFeedOfBytesThatAreErrors(t *testing.T) { // P8.2
	extended := "1;" + strings.Repeat("x", 198)
	for _, c := range []struct {
		x api.ChState
		b string
		e api.Errno
	}{
		{api.ChState{}, ";", api.ErrForm},
		{api.ChState{}, "\r", api.ErrForm},
		{api.ChState{}, " 1", api.ErrForm},
		{api.ChState{}, "x", api.ErrForm},
		{api.ChState{}, "-1", api.ErrForm},
		{api.ChState{}, "0x1", api.ErrForm},
		{api.ChState{Line: "1"}, "g", api.ErrForm},
		{api.ChState{Line: "1"}, "\n", api.ErrForm},
		{api.ChState{Line: "1;"}, "\n", api.ErrForm},
		{api.ChState{Line: "1;"}, "\x1f", api.ErrForm},
		{api.ChState{Line: "1;"}, "\x80", api.ErrForm},
		{api.ChState{Line: "1\r"}, "\r", api.ErrForm},
		{api.ChState{Line: "12345678"}, "g", api.ErrForm},
		{api.ChState{Line: "12345678"}, "9", api.ErrLong},
		{api.ChState{Line: "00000000"}, "0", api.ErrLong},
		{api.ChState{Line: "00000000"}, "f\n", api.ErrLong},
		{api.ChState{Line: extended}, "x", api.ErrLong},
		{api.ChState{Line: extended}, ";", api.ErrLong},
		{api.ChState{Line: extended}, "\x00", api.ErrForm},
		{api.ChState{Line: extended}, "\n", api.ErrForm},
		{api.ChState{Line: extended}, "\rx", api.ErrForm},
		{api.ChState{Line: "10001\r"}, "\n", api.ErrLong},
		{api.ChState{Line: "ffffffff\r"}, "\n", api.ErrLong},
		{api.ChState{Line: "10000\r", Data: "x"}, "\n", api.ErrLong},
		{api.ChState{Line: "1\r", Data: all65536}, "\n", api.ErrLong},
		{api.ChState{Line: "10001\r"}, "x", api.ErrForm},
		{api.ChState{Phase: api.ChData, Left: 1}, "xx", api.ErrForm},
		{api.ChState{Phase: api.ChData, Left: 1}, "x\r\n\r", api.ErrForm},
		{api.ChState{Phase: api.ChData, Left: 1}, "x\r\n123456789", api.ErrLong},
		{api.ChState{Phase: api.ChEnd, Data: "x"}, "\n", api.ErrForm},
		{api.ChState{Phase: api.ChEnd, Data: "x"}, "0", api.ErrForm},
		{api.ChState{Phase: api.ChEnd, Data: "x", Line: "\r"}, "\r", api.ErrForm},
		{api.ChState{Phase: api.ChTrailer}, "\n", api.ErrForm},
		{api.ChState{Phase: api.ChTrailer}, "x\r\n", api.ErrForm},
		{api.ChState{Phase: api.ChTrailer}, "a b: c\r\n", api.ErrForm},
		{api.ChState{Phase: api.ChTrailer, Line: "a: b\r\n"}, " c\r\n", api.ErrForm},
		{api.ChState{Phase: api.ChTrailer, Line: strings.Repeat("x", 8192)}, "x", api.ErrLong},
		{api.ChState{Phase: api.ChTrailer, Line: strings.Repeat("x", 8192)}, "\n", api.ErrLong},
		{api.ChState{Phase: api.ChTrailer, Line: strings.Repeat("x", 8191)}, "\n", api.ErrForm},
		{api.ChState{Phase: api.ChTrailer}, "a:" + strings.Repeat("v", 2001) + "\r\n", api.ErrLong},
		{api.ChState{Phase: api.ChTrailer}, strings.Repeat("a:\r\n", 101), api.ErrLong},
		{api.ChState{Phase: api.ChTrailer}, "Host:\r\n\r\n", api.ErrForm},
	} {
		checkFeed(t, c.x, c.b, c.x, 0, c.e)
		checkFeed(t, c.x, c.b+"\r\n\xff", c.x, 0, c.e)
	}
}

func TestFeedOfTrailersAtLimits(t *testing.T) { // P8.2
	x := api.ChState{Phase: api.ChTrailer, Data: "x"}
	done := func(l []api.HdField) api.ChState { return api.ChState{Phase: api.ChDone, Data: "x", Trailers: l} }
	for _, l := range [][]api.HdField{long(8192), slices.Repeat(fields("a", ""), 100), fields("a", strings.Repeat("v", 2000))} {
		checkFeed(t, x, lines(l)+"more", done(l), len(lines(l)), api.OK)
	}
	for _, l := range [][]api.HdField{long(8193), long(8194), slices.Repeat(fields("a", ""), 101), fields("a", strings.Repeat("v", 2001))} {
		checkFeed(t, x, lines(l), x, 0, api.ErrLong)
	}
	// Without a space behind each colon, lines may be read that are as long as allowed with it, but no longer ones.
	for n := 8180; n <= 8200; n++ {
		s := strings.ReplaceAll(lines(long(n)), ": ", ":")
		if n <= 8192 {
			checkFeed(t, x, s, done(long(n)), len(s), api.OK)
		} else {
			checkFeed(t, x, s, x, 0, api.ErrLong)
		}
	}
	packed := strings.Repeat("A:"+strings.Repeat("v", 1634)+"\r\n", 5)
	checkFeed(t, x, packed, api.ChState{Phase: api.ChTrailer, Data: "x", Line: packed}, len(packed), api.OK)
	checkFeed(t, x, packed+"\r\n", x, 0, api.ErrLong)
	// A name that none may have comes before that error, wherever it is.
	for i := range 5 {
		s := strings.Replace(strings.Repeat("Age:"+strings.Repeat("v", 1632)+"\r\n", 5), "Age", "Abc", i)
		s = strings.Replace(s, "Age:vv", "Host:v", 1)
		checkFeed(t, x, s+"\r\n", x, 0, api.ErrForm)
	}
}

func TestFeedOfNamesOfTrailers(t *testing.T) { // P8.2
	x := api.ChState{Phase: api.ChTrailer}
	for _, name := range []string{"connection", "content-length", "host", "trailer", "transfer-encoding", "CONNECTION", "Content-Length", "hOST", "Trailer", "Transfer-encodinG"} {
		for _, s := range []string{name + ":\r\n", "a:\r\n" + name + ": 1\r\n", name + ": 1\r\nb:\r\n"} {
			checkFeed(t, x, s+"\r", api.ChState{Phase: api.ChTrailer, Line: s + "\r"}, len(s)+1, api.OK)
			checkFeed(t, x, s+"\r\n", x, 0, api.ErrForm)
			checkFeed(t, api.ChState{Phase: api.ChTrailer, Line: s + "\r"}, "\n", api.ChState{Phase: api.ChTrailer, Line: s + "\r"}, 0, api.ErrForm)
		}
	}
	for _, name := range []string{"keep-alive", "TE", "Upgrade", "x-host", "hosts", "trailers", "Content-Type"} {
		s := name + ": connection, host\r\n\r\n"
		checkFeed(t, x, s, api.ChState{Phase: api.ChDone, Trailers: fields(name, "connection, host")}, len(s), api.OK)
	}
}
