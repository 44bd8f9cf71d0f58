package tokens

import (
	"cmp"
	"slices"
	"strconv"
	"strings"

	"spillway/api"
)

// whole is the greatest quality, in thousandths, and that of an item that has none.
const whole = 1000

// Quality returns the thousandths of a quality.
func Quality(s string) (int, api.Errno) {
	first, digits, _ := strings.Cut(s, ".")
	if first != "0" && first != "1" || len(digits) > 3 {
		return 0, api.ErrForm
	}
	n, err := strconv.Atoi(first + (digits + "000")[:3])
	if err != nil || n > whole {
		return 0, api.ErrForm
	}
	return n, api.OK
}

// PrintQuality returns the shortest quality with these thousandths.
func PrintQuality(n int) (string, api.Errno) {
	if n < 0 || n > whole {
		return "", api.ErrRange
	}
	if n == whole {
		return "1", api.OK
	}
	// The digit 1 in front keeps the zeros before those of n.
	digits := strings.TrimRight(strconv.Itoa(whole + n)[1:], "0")
	if digits == "" {
		return "0", api.OK
	}
	return "0." + digits, api.OK
}

// Weights returns the items of a value with their qualities, the greater ones first.
func Weights(v string) ([]api.TkWeight, api.Errno) {
	items, e := Items(v)
	if e != api.OK {
		return nil, e
	}
	var l []api.TkWeight
	for _, x := range items {
		n, e := qualityOf(x)
		if e != api.OK {
			return nil, e
		}
		l = append(l, api.TkWeight{Value: x.Value, Quality: n})
	}
	slices.SortStableFunc(l, func(a, b api.TkWeight) int { return cmp.Compare(b.Quality, a.Quality) })
	return l, api.OK
}

// qualityOf returns the quality of an item.
func qualityOf(x api.TkItem) (int, api.Errno) {
	for _, p := range x.Params {
		if p.Name == "q" {
			return Quality(p.Value)
		}
	}
	return whole, api.OK
}
