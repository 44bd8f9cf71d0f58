package chunks_test

import (
	"math"
	"slices"
	"strings"
	"testing"

	"spillway/api"
	"spillway/chunks"
)

// checkCheck fails if Check does not return e.
func checkCheck(t *testing.T, x api.ChState, e api.Errno) {
	t.Helper()
	if got := chunks.Check(x); got != e {
		t.Errorf("Check(%s): %d, want %d", short(x), got, e)
	}
}

// all65536 is as much data as there may be.
var all65536 = strings.Repeat("x", 65536)

func TestStart(t *testing.T) { // P8.1
	x := chunks.Start()
	if !same(x, api.ChState{Phase: api.ChSize}) {
		t.Errorf("Start: %s", short(x))
	}
	checkCheck(t, x, api.OK)
}

func TestCheckOfStatesThatAreReached(t *testing.T) { // P8.1
	for _, x := range []api.ChState{
		{},
		{Data: "x"},
		{Data: all65536},
		{Data: all65536, Line: "ffffffff\r"},
		{Line: "0"},
		{Line: "aF09"},
		{Line: "00000000"},
		{Line: "1\r"},
		{Line: "1;"},
		{Line: "1;\r"},
		{Line: "1; \t~;;\"1"},
		{Line: "1;" + strings.Repeat("a", 198)},
		{Line: "12345678;" + strings.Repeat("a", 191) + "\r"},
		{Phase: api.ChData, Left: 1},
		{Phase: api.ChData, Left: 1, Data: all65536[1:]},
		{Phase: api.ChData, Left: 65536},
		{Phase: api.ChEnd, Data: "x"},
		{Phase: api.ChEnd, Data: all65536},
		{Phase: api.ChEnd, Data: "x", Line: "\r"},
		{Phase: api.ChTrailer},
		{Phase: api.ChTrailer, Line: "\r"},
		{Phase: api.ChTrailer, Line: "no field yet"},
		{Phase: api.ChTrailer, Line: "Host: 1\r\na:1\r\n\r", Data: all65536},
		{Phase: api.ChTrailer, Line: strings.Repeat("x", 8192)},
		{Phase: api.ChDone},
		{Phase: api.ChDone, Trailers: []api.HdField{}},
		{Phase: api.ChDone, Data: all65536, Trailers: fields("a", "", "A", "b", "te", "x")},
		{Phase: api.ChDone, Trailers: long(8192)},
		{Phase: api.ChDone, Trailers: slices.Repeat(fields("a", "b"), 100)},
		{Phase: api.ChDone, Trailers: fields("a", strings.Repeat("v", 2000))},
	} {
		checkCheck(t, x, api.OK)
	}
}

func TestCheckOfStatesThatAreNotReached(t *testing.T) { // P8.1
	for _, x := range []api.ChState{
		{Phase: -1},
		{Phase: 5},
		{Phase: math.MinInt},
		{Phase: math.MaxInt},
		{Data: all65536 + "x"},
		{Line: "\r"},
		{Line: ";"},
		{Line: "1\r\r"},
		{Line: "1\r\n"},
		{Line: "1\n"},
		{Line: "\n"},
		{Line: "1 "},
		{Line: "1;\x7f"},
		{Line: "1;\rx"},
		{Line: "123456789"},
		{Line: "1;" + strings.Repeat("a", 199)},
		{Line: "1;" + strings.Repeat("a", 199) + "\r"},
		{Left: 1},
		{Left: -1},
		{Trailers: fields("a", "b")},
		{Phase: api.ChData},
		{Phase: api.ChData, Left: -1},
		{Phase: api.ChData, Left: math.MinInt},
		{Phase: api.ChData, Left: math.MaxInt, Data: "x"},
		{Phase: api.ChData, Left: 65537},
		{Phase: api.ChData, Left: 65536, Data: "x"},
		{Phase: api.ChData, Left: 1, Data: all65536},
		{Phase: api.ChData, Left: 1, Line: "\r"},
		{Phase: api.ChData, Left: 1, Line: "1"},
		{Phase: api.ChData, Left: 1, Trailers: fields("a", "b")},
		{Phase: api.ChEnd},
		{Phase: api.ChEnd, Line: "\r"},
		{Phase: api.ChEnd, Data: "x", Line: "\n"},
		{Phase: api.ChEnd, Data: "x", Line: "\r\n"},
		{Phase: api.ChEnd, Data: "x", Left: 1},
		{Phase: api.ChEnd, Data: "x", Trailers: fields("a", "b")},
		{Phase: api.ChEnd, Data: all65536 + "x"},
		{Phase: api.ChTrailer, Line: "\r\n"},
		{Phase: api.ChTrailer, Line: "a: b\r\n\r\n"},
		{Phase: api.ChTrailer, Line: "a b\r\n"},
		{Phase: api.ChTrailer, Line: "\n"},
		{Phase: api.ChTrailer, Line: strings.Repeat("x", 8193)},
		{Phase: api.ChTrailer, Line: "a:" + strings.Repeat("x", 2001) + "\r\n"},
		{Phase: api.ChTrailer, Left: 1},
		{Phase: api.ChTrailer, Trailers: fields("a", "b")},
		{Phase: api.ChTrailer, Data: all65536 + "x"},
		{Phase: api.ChDone, Line: "\r"},
		{Phase: api.ChDone, Left: 1},
		{Phase: api.ChDone, Data: all65536 + "x"},
		{Phase: api.ChDone, Trailers: fields("a b", "c")},
		{Phase: api.ChDone, Trailers: fields("a", " c")},
		{Phase: api.ChDone, Trailers: fields("a", strings.Repeat("v", 2001))},
		{Phase: api.ChDone, Trailers: long(8193)},
		{Phase: api.ChDone, Trailers: slices.Repeat(fields("a", "b"), 101)},
		{Phase: api.ChDone, Trailers: fields("a", "b", "Host", "c")},
	} {
		checkCheck(t, x, api.ErrForm)
	}
}

// eachState calls f with states of all phases, most of which have parts that do not go together.
func eachState(f func(x api.ChState)) {
	for phase := -1; phase <= 5; phase++ {
		for _, line := range []string{"", "1", "1f;x", "1\r", "\r", "\r\n", "\n", "x", "a:1", "a:1\r\n", "a:1\r\n\r\n", ";", "123456789"} {
			for _, data := range []string{"", "a", "1\r\n\r\n"} {
				for _, left := range []int{-1, 0, 1, 2, 65530, 65536, 65537} {
					for _, l := range [][]api.HdField{nil, fields("a", "1"), fields("a", "1", "HOST", "2"), fields("a", "\r")} {
						f(api.ChState{Phase: phase, Line: line, Data: data, Left: left, Trailers: l})
					}
				}
			}
		}
	}
}

func TestCheckOfManyStates(t *testing.T) { // P8.1
	eachState(func(x api.ChState) { checkCheck(t, x, check(x)) })
}

func TestCheckOfAllShortLines(t *testing.T) { // P8.1
	for phase := api.ChSize; phase <= api.ChDone; phase++ {
		each("1g;:\r\n", 5, func(s string) {
			x := api.ChState{Phase: phase, Line: s, Data: "x"}
			checkCheck(t, x, check(x))
		})
	}
}

func TestCheckOfLongLines(t *testing.T) { // P8.1
	for n := 195; n < 205; n++ {
		for _, line := range []string{strings.Repeat("0", n), "1;" + strings.Repeat("x", n), "0000000f;" + strings.Repeat(";", n-7), "1\r" + strings.Repeat("\n", n)} {
			for _, end := range []string{"", "\r", "\r\r", "\r\n", "\x80"} {
				x := api.ChState{Line: line + end}
				checkCheck(t, x, check(x))
			}
		}
	}
}

func TestCheckOfNamesOfTrailers(t *testing.T) { // P8.1
	for _, name := range []string{"connection", "content-length", "host", "trailer", "transfer-encoding"} {
		for _, s := range []string{name, strings.ToUpper(name), strings.ToUpper(name[:1]) + name[1:]} {
			checkCheck(t, api.ChState{Phase: api.ChDone, Trailers: fields(s, "")}, api.ErrForm)
			checkCheck(t, api.ChState{Phase: api.ChDone, Trailers: fields("a", "1", s, "2", "b", "3")}, api.ErrForm)
		}
		for _, s := range []string{name + "s", name[1:], "x-" + name, strings.Replace(name, "-", "_", 1) + "-"} {
			checkCheck(t, api.ChState{Phase: api.ChDone, Trailers: fields(s, "1")}, api.OK)
		}
	}
	for _, name := range []string{"keep-alive", "te", "upgrade", "proxy-connection", "content-type", "set-cookie", "x-request-id"} {
		checkCheck(t, api.ChState{Phase: api.ChDone, Trailers: fields(name, "1")}, api.OK)
	}
}
