package tokens_test

import (
	"math"
	"slices"
	"strings"
	"testing"

	"spillway/api"
	"spillway/tokens"
)

// checkQuality fails if Quality does not return want and e.
func checkQuality(t *testing.T, s string, want int, e api.Errno) {
	t.Helper()
	if n, got := tokens.Quality(s); n != want || got != e {
		t.Errorf("Quality(%.60q): %d, %d, want %d, %d", s, n, got, want, e)
	}
}

// checkWeights fails if Weights does not return want and e.
func checkWeights(t *testing.T, v string, want []api.TkWeight, e api.Errno) {
	t.Helper()
	if l, got := tokens.Weights(v); !slices.Equal(l, want) || got != e {
		t.Errorf("Weights(%.200q): %v, %d, want %v, %d", v, l, got, want, e)
	}
}

func TestQualityOfExamples(t *testing.T) { // P5.6
	for s, want := range map[string]int{
		"0": 0, "1": 1000, "0.": 0, "1.": 1000, "0.5": 500, "0.50": 500, "0.500": 500, "0.05": 50, "0.005": 5, "0.25": 250, "0.999": 999,
		"0.0": 0, "0.00": 0, "0.000": 0, "1.0": 1000, "1.00": 1000, "1.000": 1000, "0.001": 1, "0.1": 100, "0.9": 900,
	} {
		checkQuality(t, s, want, api.OK)
	}
}

func TestQualityOfWrongForms(t *testing.T) { // P5.6
	for _, s := range []string{
		"", ".", ".5", ".0", "2", "00", "01", "10", "0.0000", "1.0000", "0.1234", "1.01", "1.1", "1.001", "1.5", "2.0", "-0", "-1", "+1", "+0.5", "-0.5",
		"0,5", "0.5 ", " 0.5", "0 .5", "0. 5", "0.a", "0.5.", "0..5", "0.5.0", "0.+1", "0.-1", "0._1", "0.1_0", "0x1", "1e0", "0.1e", "٠", "0.٣", "0.5\n", "0.\x00", "0/5", "1:0", "0./", "0.:",
		strings.Repeat("0", 1000), "0." + strings.Repeat("0", 1000),
	} {
		checkQuality(t, s, 0, api.ErrForm)
	}
}

func TestQualityOfAllShortStrings(t *testing.T) { // P5.6
	each("01259.-+_", 5, func(s string) {
		want, e := quality(s)
		checkQuality(t, s, want, e)
	})
	for c := range 256 {
		for _, around := range []string{"|", "0|", "1|", "0.|", "1.|", "0.1|", "0.1|2", "|.5", "0|5"} {
			s := strings.Replace(around, "|", string([]byte{byte(c)}), 1)
			want, e := quality(s)
			checkQuality(t, s, want, e)
		}
	}
}

func TestPrintQuality(t *testing.T) { // P5.6, P5.9
	shortest := map[int]string{}
	each("0123456789.", 5, func(s string) {
		n, e := quality(s)
		if old, ok := shortest[n]; e == api.OK && (!ok || len(s) < len(old)) {
			shortest[n] = s
		}
	})
	for n := range 1001 {
		s, e := tokens.PrintQuality(n)
		if s != shortest[n] || e != api.OK {
			t.Errorf("PrintQuality(%d): %q, %d, want %q", n, s, e, shortest[n])
		}
		checkQuality(t, s, n, api.OK)
	}
	for n, want := range map[int]string{0: "0", 1000: "1", 250: "0.25", 500: "0.5", 5: "0.005", 50: "0.05", 105: "0.105", 999: "0.999"} {
		if s, e := tokens.PrintQuality(n); s != want || e != api.OK {
			t.Errorf("PrintQuality(%d): %q, %d", n, s, e)
		}
	}
}

func TestPrintQualityOfWrongNumbers(t *testing.T) { // P5.6
	for _, n := range []int{-1, 1001, -1000, -500, 2000, 9999, 10000, math.MinInt, math.MaxInt} {
		if s, e := tokens.PrintQuality(n); s != "" || e != api.ErrRange {
			t.Errorf("PrintQuality(%d): %q, %d", n, s, e)
		}
	}
}

func TestWeightsOfExamples(t *testing.T) { // P5.6, P5.9
	for v, want := range map[string][]api.TkWeight{
		``:                                nil,
		` , `:                             nil,
		`a;q=0.5, b, c;q=0.5`:             {{Value: "b", Quality: 1000}, {Value: "a", Quality: 500}, {Value: "c", Quality: 500}},
		`a, b, a`:                         {{Value: "a", Quality: 1000}, {Value: "b", Quality: 1000}, {Value: "a", Quality: 1000}},
		`a;q=0, b;q=0.001, C;q=1.000`:     {{Value: "C", Quality: 1000}, {Value: "b", Quality: 1}, {Value: "a", Quality: 0}},
		`a;x=0.1;Q=0.2;y=0.3`:             {{Value: "a", Quality: 200}},
		`a;q="0.5";x="q=1"`:               {{Value: "a", Quality: 500}},
		`a;q="\0.\5", b;qq=2`:             {{Value: "b", Quality: 1000}, {Value: "a", Quality: 500}},
		`z;q=1., q, y;q=0.999;x=""`:       {{Value: "z", Quality: 1000}, {Value: "q", Quality: 1000}, {Value: "y", Quality: 999}},
		`d;q=0.1,c;q=0.2,b;q=0.1,a;q=0.2`: {{Value: "c", Quality: 200}, {Value: "a", Quality: 200}, {Value: "d", Quality: 100}, {Value: "b", Quality: 100}},
	} {
		checkWeights(t, v, want, api.OK)
	}
}

func TestWeightsOfWrongQualities(t *testing.T) { // P5.6
	for _, v := range []string{`a;q=2`, `a;q=""`, `a;q=" 1"`, `a;q=x`, `a;q=1.001`, `a, b;q=0.5, c;Q=0.5555`, `a;x=1;q=-1`, `a;q=.5, b`, `a;q="0.5 "`, `a;q="1,0"`} {
		checkWeights(t, v, nil, api.ErrForm)
	}
}

func TestWeightsOfWrongItems(t *testing.T) { // P5.6
	for v, e := range map[string]api.Errno{
		`a b`:                        api.ErrForm,
		`a,"`:                        api.ErrForm,
		`a;q=0.5;q=0.5`:              api.ErrTwice,
		`a;q=2, b;x=1;x=1`:           api.ErrTwice,
		`a;q=2;Q=0`:                  api.ErrTwice,
		strings.Repeat("a,", 51):     api.ErrLong,
		strings.Repeat("a", 2001):    api.ErrLong,
		strings.Repeat("a;q=2,", 51): api.ErrLong,
		`a;q=2, b;x="` + strings.Repeat("y", 501) + `"`: api.ErrLong,
		`b;x="` + strings.Repeat("y", 501) + `", a;q=2`: api.ErrLong,
	} {
		checkWeights(t, v, nil, e)
	}
}

func TestWeightsOfManyValues(t *testing.T) { // P5.6, P5.9
	next := numbers(5)
	qualities := []string{"", ";q=1", ";q=0.5", ";q=0.50", ";Q=0", ";x=1", ";q=0.001", `;q="0.5"`, ";q=1.", ";x=2;q=0.9", ";q=0.999;q0=1"}
	for range 5000 {
		var l []string
		for i := range next(50) {
			l = append(l, string(rune('a'+i%26))+qualities[next(len(qualities))])
		}
		v := strings.Join(l, ",")
		want, e := weights(v)
		if len(want) != len(l) || e != api.OK {
			t.Errorf("%s should have %d weights", v, len(l))
		}
		checkWeights(t, v, want, api.OK)
	}
	for range 10000 {
		v := "a" + anyValue(next, 8)
		want, e := weights(v)
		checkWeights(t, v, want, e)
	}
}
