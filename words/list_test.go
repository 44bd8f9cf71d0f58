package words_test

import (
	"slices"
	"strconv"
	"strings"
	"testing"

	"spillway/api"
	"spillway/words"
)

// checkList fails if List does not return want and e.
func checkList(t *testing.T, l []int, want string, e api.Errno) {
	t.Helper()
	if s, got := words.List(l); s != want || got != e {
		t.Errorf("List(%.60v): %.60s, %d, want %.60s, %d", l, s, got, want, e)
	}
}

// checkParse fails if ParseList does not return want and e.
func checkParse(t *testing.T, s string, want []int, e api.Errno) {
	t.Helper()
	if l, got := words.ParseList(s); got != e || !slices.Equal(l, want) {
		t.Errorf("ParseList(%.60q): %.60v, %d, want %.60v, %d", s, l, got, want, e)
	}
}

// upTo is the numbers from low to high.
func upTo(low, high int) []int {
	var l []int
	for n := low; n <= high; n++ {
		l = append(l, n)
	}
	return l
}

func TestListAndParseListOfExamples(t *testing.T) { // P1.6, P1.7
	for s, l := range map[string][]int{
		"-":                    nil,
		"0":                    {0},
		"7":                    {7},
		"0-1":                  {0, 1},
		"1-3,5,8-9":            {1, 2, 3, 5, 8, 9},
		"9-11,99-100,102":      {9, 10, 11, 99, 100, 102},
		"999999999-1000000000": {999999999, 1000000000},
		"0,1000000000":         {0, 1000000000},
		"0-499":                upTo(0, 499),
		"0-498,500":            append(upTo(0, 498), 500),
	} {
		checkList(t, l, s, api.OK)
		checkParse(t, s, l, api.OK)
	}
	checkList(t, []int{}, "-", api.OK)
}

func TestListOfAllSubsets(t *testing.T) { // P1.6, P1.7
	for bits := range 1 << 13 {
		var l []int
		var parts []string
		for n := range 13 {
			if bits>>n&1 == 0 {
				continue
			}
			l = append(l, n)
			last := n
			for bits>>(last+1)&1 == 1 {
				last++
			}
			if n > 0 && bits>>(n-1)&1 == 1 {
				continue
			}
			part := strconv.Itoa(n)
			if last > n {
				part += "-" + strconv.Itoa(last)
			}
			parts = append(parts, part)
		}
		want := strings.Join(parts, ",")
		if l == nil {
			want = "-"
		}
		checkList(t, l, want, api.OK)
		checkParse(t, want, l, api.OK)
	}
}

func TestListOfWrongLists(t *testing.T) { // P1.6
	checkList(t, []int{2, 1}, "", api.ErrForm)
	checkList(t, []int{1, 1}, "", api.ErrForm)
	checkList(t, []int{1, 2, 4, 3}, "", api.ErrForm)
	checkList(t, []int{-1}, "", api.ErrRange)
	checkList(t, []int{1000000001}, "", api.ErrRange)
	checkList(t, []int{2, 1, -1}, "", api.ErrRange)
	checkList(t, []int{2, 1, 1000000001}, "", api.ErrRange)
	checkList(t, make([]int, 500), "", api.ErrForm)
	checkList(t, make([]int, 501), "", api.ErrLong)
	checkList(t, slices.Repeat([]int{-1}, 501), "", api.ErrLong)
	checkList(t, upTo(0, 500), "", api.ErrLong)
	checkList(t, upTo(-1, 498), "", api.ErrRange)
}

func TestParseListOfWrongForms(t *testing.T) { // P1.6
	for _, s := range []string{
		"", " ", ",", "--", "-,", "-1", "1-", "1,", ",1", "1,,3", "1,-", "-,1", "1--3", "1-2-3", "1-3-5",
		"1-3,4", "3-3", "2,1", "1,1", "1,2", "3-2", "1-3,3", "1-3,2-5", "5,1-3", "1-2,3-4", "9,10", "99,100", "8-9,10-11", "99-98",
		"01", "00", "0-01", "00-1", "+1", "1 ", " 1", "1, 3", "1 - 3", "a", "1;3", "1_0", "0x1", "1.0", "-0",
		"1-3,x", "0-600,x", "0-600,601", "1000000001,1", "0-600,1000000001,x",
		"99999999999999999999,100000000000000000000", "99999999999999999999-99999999999999999999", "100000000000000000000-99999999999999999999",
	} {
		checkParse(t, s, nil, api.ErrForm)
	}
}

func TestParseListOfTooMuch(t *testing.T) { // P1.6
	checkParse(t, "0-500", nil, api.ErrLong)
	checkParse(t, "0-600", nil, api.ErrLong)
	checkParse(t, "0-498,500,502", nil, api.ErrLong)
	checkParse(t, "0-498,500-501", nil, api.ErrLong)
	checkParse(t, "0-1000000000", nil, api.ErrLong)
	checkParse(t, "0-1000000001", nil, api.ErrRange)
	checkParse(t, "0-600,1000000001", nil, api.ErrRange)
	checkParse(t, "1000000001", nil, api.ErrRange)
	checkParse(t, "5,1000000001-1000000003", nil, api.ErrRange)
	checkParse(t, "18446744073709551616", nil, api.ErrRange)
	checkParse(t, "18446744073709551616-18446744073709551620", nil, api.ErrRange)
	checkParse(t, "99999999999999999999,100000000000000000001", nil, api.ErrRange)
	checkParse(t, "99999999999999999999-100000000000000000000", nil, api.ErrRange)
	checkParse(t, "1-1"+strings.Repeat("0", 1000), nil, api.ErrRange)
	var even []string
	var l []int
	for n := range 501 {
		even = append(even, strconv.Itoa(2*n))
		l = append(l, 2*n)
	}
	checkParse(t, strings.Join(even[:500], ","), l[:500], api.OK)
	checkParse(t, strings.Join(even, ","), nil, api.ErrLong)
}

// readList is what the list expression s stands for, read in the simplest way, and whether s is one.
func readList(s string) ([]int, bool) {
	if s == "-" {
		return nil, true
	}
	var l []int
	for _, part := range strings.Split(s, ",") {
		ends := strings.Split(part, "-")
		var n []int
		for _, end := range ends {
			k, err := strconv.Atoi(end)
			if err != nil || strconv.Itoa(k) != end {
				return nil, false
			}
			n = append(n, k)
		}
		first, last := n[0], n[len(n)-1]
		if len(n) > 2 || len(n) == 2 && first >= last || len(l) > 0 && first <= l[len(l)-1]+1 {
			return nil, false
		}
		l = append(l, upTo(first, last)...)
	}
	return l, true
}

func TestParseListOfAllShortStrings(t *testing.T) { // P1.6, P1.7
	each("-,0129", 6, func(s string) {
		l, ok := readList(s)
		if !ok {
			checkParse(t, s, nil, api.ErrForm)
			return
		}
		if len(l) > 500 {
			checkParse(t, s, nil, api.ErrLong)
			return
		}
		checkParse(t, s, l, api.OK)
		checkList(t, l, s, api.OK)
	})
}
