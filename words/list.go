package words

import (
	"strings"

	"spillway/api"
)

// List returns the list expression of l.
func List(l []int) (string, api.Errno) {
	if len(l) > api.MaxListed {
		return "", api.ErrLong
	}
	if !numbers(l) {
		return "", api.ErrRange
	}
	if !ascending(l) {
		return "", api.ErrForm
	}
	if len(l) == 0 {
		return "-", api.OK
	}
	var b strings.Builder
	for i := 0; i < len(l); {
		n := runLength(l[i:])
		if i > 0 {
			b.WriteByte(',')
		}
		writeRun(&b, l[i], l[i+n-1])
		i += n
	}
	return b.String(), api.OK
}

// ParseList returns the list whose list expression is s.
func ParseList(s string) ([]int, api.Errno) {
	if s == "-" {
		return nil, api.OK
	}
	runs, ok := readRuns(s)
	if !ok {
		return nil, api.ErrForm
	}
	// The last integer is the greatest one.
	if _, e := number(runs[len(runs)-1].last); e != api.OK {
		return nil, api.ErrRange
	}
	var l []int
	for _, r := range runs {
		first, _ := number(r.first)
		last, _ := number(r.last)
		if last-first >= api.MaxListed-len(l) {
			return nil, api.ErrLong
		}
		for n := first; n <= last; n++ {
			l = append(l, n)
		}
	}
	return l, api.OK
}

// run is a run of consecutive integers of any size: the decimal forms of the first and of the last one.
type run struct{ first, last string }

// readRuns returns the runs of a list expression that is not a hyphen, and whether s is one.
func readRuns(s string) ([]run, bool) {
	var l []run
	for _, part := range strings.Split(s, ",") {
		r, ok := readRun(part)
		if !ok {
			return nil, false
		}
		// A run that began right after the one before it would be a part of that one.
		if len(l) > 0 && !less(next(l[len(l)-1].last), r.first) {
			return nil, false
		}
		l = append(l, r)
	}
	return l, true
}

func readRun(s string) (run, bool) {
	first, last, longer := strings.Cut(s, "-")
	if !longer {
		return run{s, s}, natural(s)
	}
	return run{first, last}, natural(first) && natural(last) && less(first, last)
}

func writeRun(b *strings.Builder, first, last int) {
	b.WriteString(Digits(int64(first)))
	if first < last {
		b.WriteByte('-')
		b.WriteString(Digits(int64(last)))
	}
}

// runLength returns how many integers at the beginning of l, which is not empty, are consecutive.
func runLength(l []int) int {
	n := 1
	for n < len(l) && l[n] == l[n-1]+1 {
		n++
	}
	return n
}

// less compares two non-negative integers of any size by their decimal forms.
func less(a, b string) bool {
	if len(a) != len(b) {
		return len(a) < len(b)
	}
	return a < b
}

// next returns the decimal form of the non-negative integer after that of s, of any size.
func next(s string) string {
	b := []byte(s)
	for i := len(b) - 1; i >= 0; i-- {
		if b[i] < '9' {
			b[i]++
			return string(b)
		}
		b[i] = '0'
	}
	return "1" + string(b)
}

// number returns the integer that a list may have whose decimal form is s.
func number(s string) (int, api.Errno) {
	n, e := Int(s, 0, api.MaxNumber)
	return int(n), e
}

// numbers reports whether a list may have all integers of l.
func numbers(l []int) bool {
	for _, n := range l {
		if n < 0 || n > api.MaxNumber {
			return false
		}
	}
	return true
}

// ascending reports whether l strictly ascends.
func ascending(l []int) bool {
	for i := 1; i < len(l); i++ {
		if l[i] <= l[i-1] {
			return false
		}
	}
	return true
}
