package words_test

import (
	"math"
	"math/big"
	"strings"
	"testing"

	"spillway/api"
	"spillway/words"
)

// each calls f with all strings of at most n of the bytes of alphabet.
func each(alphabet string, n int, f func(s string)) {
	f("")
	if n == 0 {
		return
	}
	for i := range len(alphabet) {
		each(alphabet, n-1, func(s string) {
			f(alphabet[i:i+1] + s)
		})
	}
}

func TestNameOfExamples(t *testing.T) { // P1.1
	for s, want := range map[string]bool{
		"web-1": true, "a": true, "z9": true, "a-": true, "a--b": true,
		"Web": false, "weB": false, "": false, "1a": false, "-a": false, "a_b": false, "a b": false, "a.b": false, "ä": false, "a\x00": false,
		strings.Repeat("a", 16): true,
		strings.Repeat("a", 17): false,
	} {
		if got := words.Name(s); got != want {
			t.Errorf("Name(%q): %v", s, got)
		}
	}
}

func TestNameOfEachByte(t *testing.T) { // P1.1
	for c := range 256 {
		letter := strings.Contains("abcdefghijklmnopqrstuvwxyz", string([]byte{byte(c)}))
		other := strings.Contains("0123456789-", string([]byte{byte(c)}))
		if got := words.Name(string([]byte{byte(c)})); got != letter {
			t.Errorf("Name of the byte %d: %v", c, got)
		}
		for _, before := range []string{"x", "x1-", strings.Repeat("x", 15)} {
			if got := words.Name(before + string([]byte{byte(c)})); got != (letter || other) {
				t.Errorf("Name of %s and the byte %d: %v", before, c, got)
			}
		}
	}
}

func TestInt(t *testing.T) { // P1.1
	for _, x := range []struct {
		s         string
		low, high int64
		n         int64
		e         api.Errno
	}{
		{"007", 0, 10, 0, api.ErrForm},
		{"-0", -5, 5, 0, api.ErrForm},
		{"12", 0, 10, 0, api.ErrRange},
		{"10", 0, 10, 10, api.OK},
		{"11", 0, 10, 0, api.ErrRange},
		{"0", 0, 10, 0, api.OK},
		{"0", 1, 10, 0, api.ErrRange},
		{"-3", -3, 10, -3, api.OK},
		{"-4", -3, 10, 0, api.ErrRange},
		{"5", 6, 4, 0, api.ErrRange},
		{"x", 6, 4, 0, api.ErrForm},
		{"00", 6, 4, 0, api.ErrForm},
		{"9223372036854775807", math.MinInt64, math.MaxInt64, math.MaxInt64, api.OK},
		{"9223372036854775808", math.MinInt64, math.MaxInt64, 0, api.ErrRange},
		{"-9223372036854775808", math.MinInt64, math.MaxInt64, math.MinInt64, api.OK},
		{"-9223372036854775809", math.MinInt64, math.MaxInt64, 0, api.ErrRange},
		{"18446744073709551617", math.MinInt64, math.MaxInt64, 0, api.ErrRange},
		{"1" + strings.Repeat("0", 1000), math.MinInt64, math.MaxInt64, 0, api.ErrRange},
		{"-1" + strings.Repeat("0", 1000), math.MinInt64, math.MaxInt64, 0, api.ErrRange},
		{"1" + strings.Repeat("0", 1000) + "x", math.MinInt64, math.MaxInt64, 0, api.ErrForm},
		{"0" + strings.Repeat("9", 1000), math.MinInt64, math.MaxInt64, 0, api.ErrForm},
		{"1_000", 0, 10000, 0, api.ErrForm},
		{"0x1", 0, 10, 0, api.ErrForm},
		{"1e1", 0, 10, 0, api.ErrForm},
		{" 1", 0, 10, 0, api.ErrForm},
		{"1\n", 0, 10, 0, api.ErrForm},
		{"٣", 0, 10, 0, api.ErrForm},
	} {
		if n, e := words.Int(x.s, x.low, x.high); n != x.n || e != x.e {
			t.Errorf("Int(%.40q, %d, %d): %d, %d, want %d, %d", x.s, x.low, x.high, n, e, x.n, x.e)
		}
	}
}

func TestIntOfAllShortStrings(t *testing.T) { // P1.1
	each("-+019_ x", 5, func(s string) {
		want, wantErr := int64(0), api.ErrForm
		if b, ok := new(big.Int).SetString(s, 10); ok && b.String() == s {
			want, wantErr = b.Int64(), api.OK
			if want < -90 || want > 900 {
				want, wantErr = 0, api.ErrRange
			}
		}
		if n, e := words.Int(s, -90, 900); n != want || e != wantErr {
			t.Errorf("Int(%q): %d, %d, want %d, %d", s, n, e, want, wantErr)
		}
	})
}

func TestDigits(t *testing.T) { // P1.1, P1.7
	for n, want := range map[int64]string{
		0: "0", 7: "7", -7: "-7", 10: "10", -100: "-100", 1234567890: "1234567890",
		math.MaxInt64: "9223372036854775807", math.MinInt64: "-9223372036854775808",
	} {
		if got := words.Digits(n); got != want {
			t.Errorf("Digits(%d): %s", n, got)
		}
	}
}

func TestIntOfDigits(t *testing.T) { // P1.7
	for shift := range 64 {
		for _, d := range []int64{-1, 0, 1} {
			for _, n := range []int64{int64(1)<<shift + d, -(int64(1) << shift) + d} {
				if got, e := words.Int(words.Digits(n), math.MinInt64, math.MaxInt64); got != n || e != api.OK {
					t.Errorf("Int of Digits(%d): %d, %d", n, got, e)
				}
				if got, e := words.Int(words.Digits(n), n, n); got != n || e != api.OK {
					t.Errorf("Int of Digits(%d), from it to it: %d, %d", n, got, e)
				}
			}
		}
	}
}

func TestDigitsOfInt(t *testing.T) { // P1.7
	each("-019", 6, func(s string) {
		n, e := words.Int(s, math.MinInt64, math.MaxInt64)
		if e == api.OK && words.Digits(n) != s {
			t.Errorf("Digits of Int(%q): %s", s, words.Digits(n))
		}
	})
}
