package hashes_test

import (
	"math"
	"strings"
	"testing"

	"spillway/hashes"
)

// checkSums fails if the hashes of a string, or what goes on from others with it, are not what they should be.
func checkSums(t *testing.T, s string) {
	t.Helper()
	b := []byte(s)
	if h := hashes.Sum32(b); h != sum32(s) {
		t.Errorf("Sum32(%.100q) = %d, want %d", s, h, sum32(s))
	}
	if h := hashes.Sum64(b); h != sum64(s) {
		t.Errorf("Sum64(%.100q) = %d, want %d", s, h, sum64(s))
	}
	for _, from := range []uint64{0, 1, 255, 256, 2166136261, 14695981039346656037, math.MaxUint32, math.MaxUint64, 1 << 31, 1 << 63} {
		if h, want := hashes.On32(uint32(from), b), on32(uint32(from), b); h != want {
			t.Errorf("On32(%d, %.100q) = %d, want %d", uint32(from), s, h, want)
		}
		if h, want := hashes.On64(from, b), on64(from, b); h != want {
			t.Errorf("On64(%d, %.100q) = %d, want %d", from, s, h, want)
		}
	}
}

func TestExamplesOfSums(t *testing.T) { // P11.1
	for _, x := range []struct {
		s   string
		h32 uint32
		h64 uint64
	}{
		{"", 2166136261, 14695981039346656037},
		{"a", 3826002220, 0xaf63dc4c8601ec8c},
		{"b", 0xe70c2de5, 0xaf63df4c8601f1a5},
		{"foobar", 0xbf9cf968, 0x85944171f73967e8},
		{"\x00", 0x050c5d1f, 0xaf63bd4c8601b7df},
	} {
		if h := hashes.Sum32([]byte(x.s)); h != x.h32 {
			t.Errorf("Sum32(%q) = %d, want %d", x.s, h, x.h32)
		}
		if h := hashes.Sum64([]byte(x.s)); h != x.h64 {
			t.Errorf("Sum64(%q) = %d, want %d", x.s, h, x.h64)
		}
	}
	if h := hashes.On32(2166136261, []byte("a")); h != 3826002220 {
		t.Errorf("On32 = %d", h)
	}
	if h := hashes.Sum32(nil); h != 2166136261 {
		t.Errorf("Sum32(nil) = %d", h)
	}
	if h := hashes.Sum64(nil); h != 14695981039346656037 {
		t.Errorf("Sum64(nil) = %d", h)
	}
	if hashes.On32(7, nil) != 7 || hashes.On64(7, nil) != 7 || hashes.On32(0, []byte{}) != 0 || hashes.On64(0, []byte{}) != 0 {
		t.Error("no bytes make a difference")
	}
}

func TestSums(t *testing.T) { // P11.1
	for c := range 256 {
		checkSums(t, string([]byte{byte(c)}))
		checkSums(t, string([]byte{'a', byte(c), 'b'}))
	}
	each("a\x00\xff#", 4, func(s string) { checkSums(t, s) })
	random := numbers(1)
	for range 100 {
		b := make([]byte, random(200))
		for i := range b {
			b[i] = byte(random(256))
		}
		checkSums(t, string(b))
	}
	checkSums(t, strings.Repeat("\x00\x01long\xff", 1000))
}

func TestSumsOfParts(t *testing.T) { // P11.7
	each("a\x00\xff", 4, func(s string) {
		for i := range len(s) + 1 {
			a, b := []byte(s[:i]), []byte(s[i:])
			if hashes.On32(hashes.Sum32(a), b) != hashes.Sum32([]byte(s)) || hashes.On64(hashes.Sum64(a), b) != hashes.Sum64([]byte(s)) {
				t.Errorf("Sum of %q, gone on with %q", a, b)
			}
			if hashes.On32(hashes.On32(5, a), b) != hashes.On32(5, []byte(s)) || hashes.On64(hashes.On64(5, a), b) != hashes.On64(5, []byte(s)) {
				t.Errorf("On of %q, gone on with %q", a, b)
			}
		}
	})
}

func TestSingleBytes(t *testing.T) { // P11.7
	for _, from := range []uint64{2166136261, 14695981039346656037, 0, 5, math.MaxUint64} {
		all32, all64 := map[uint32]bool{}, map[uint64]bool{}
		for c := range 256 {
			b := []byte{byte(c)}
			all32[hashes.On32(uint32(from), b)], all64[hashes.On64(from, b)] = true, true
		}
		if len(all32) != 256 || len(all64) != 256 {
			t.Errorf("from %d: %d and %d different hashes", from, len(all32), len(all64))
		}
	}
}
