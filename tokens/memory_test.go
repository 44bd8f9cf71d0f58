package tokens_test

import (
	"math"
	"slices"
	"strings"
	"sync"
	"testing"
	"unsafe"

	"spillway/api"
	"spillway/tokens"
)

// shared reports whether two strings share memory.
func shared(a, b string) bool {
	if a == "" || b == "" {
		return false
	}
	from, to := uintptr(unsafe.Pointer(unsafe.StringData(a))), uintptr(unsafe.Pointer(unsafe.StringData(b)))
	return from < to+uintptr(len(b)) && to < from+uintptr(len(a))
}

// checkFresh fails if two of the strings share memory.
func checkFresh(t *testing.T, what string, l ...string) {
	t.Helper()
	for i, a := range l {
		for _, b := range l[:i] {
			if shared(a, b) {
				t.Errorf("%s: %q and %q share memory", what, a, b)
			}
		}
	}
}

// strs returns the strings of items.
func strs(l []api.TkItem) []string {
	var all []string
	for _, x := range l {
		all = append(all, x.Value)
		for _, p := range x.Params {
			all = append(all, p.Name, p.Value)
		}
	}
	return all
}

func TestStringsAreFresh(t *testing.T) { // P5.9, R3
	for _, s := range []string{strings.Repeat("ab", 9), strings.Repeat("a b", 9), strings.Repeat("A", 9)} {
		q, _ := tokens.Quote(s)
		plain, _ := tokens.Unquote(q)
		checkFresh(t, "Quote, Unquote, Fold", s, q, plain, tokens.Fold(s), tokens.Fold(s))
	}
	v := strings.Join([]string{`gzip;q=0.5;text="a, b"`, `identity`, `Deflate;x=long-token; Y="plain"`}, " , ")
	elements, _ := tokens.Elements(v)
	again, _ := tokens.Elements(v)
	checkFresh(t, "Elements", append(append([]string{v}, elements...), again...)...)
	one := strings.Repeat("word", 5)
	elements, _ = tokens.Elements(one)
	checkFresh(t, "Elements", one, elements[0])
	first, _ := tokens.Items(v)
	second, _ := tokens.Items(v)
	checkFresh(t, "Items", append(append([]string{v}, strs(first)...), strs(second)...)...)
	weights, _ := tokens.Weights(v)
	checkFresh(t, "Weights", v, weights[0].Value, weights[1].Value, weights[2].Value)
	l := []api.TkItem{item(one)}
	printed, _ := tokens.Print(l)
	checkFresh(t, "Print", one, printed)
}

func TestSlicesAreFresh(t *testing.T) { // P5.9, R3
	const v = `a;q=1;x="y;z", b;k=1;l=2;m=3, c;n=4`
	want := []api.TkItem{item("a", "q", "1", "x", "y;z"), item("b", "k", "1", "l", "2", "m", "3"), item("c", "n", "4")}
	for i := range want {
		l, _ := tokens.Items(v)
		other, _ := tokens.Items(v)
		p := l[i].Params
		clear(p[:cap(p)])
		l[i] = want[i]
		if !sameItems(l, want) || !sameItems(other, want) {
			t.Errorf("Items: %v and %v", l, other)
		}
		clear(l[:cap(l)])
		if !sameItems(other, want) {
			t.Errorf("Items: %v", other)
		}
	}
	elements, _ := tokens.Elements("a,b")
	clear(elements[:cap(elements)])
	checkElements(t, "a,b", []string{"a", "b"}, api.OK)
	weights, _ := tokens.Weights("a,b;q=0")
	clear(weights[:cap(weights)])
	checkWeights(t, "a,b;q=0", []api.TkWeight{{Value: "a", Quality: 1000}, {Value: "b"}}, api.OK)
}

// roomy is the items in other memory, with room behind the lists, and all of that memory.
func roomy(l []api.TkItem) ([]api.TkItem, []api.TkItem) {
	all := make([]api.TkItem, 0, len(l)+4)
	for _, x := range l {
		x.Params = append(make([]api.TkParam, 0, len(x.Params)+4), x.Params...)
		all = append(all, x)
	}
	return all, all[:cap(all)]
}

// copied is a copy of the items, also of the room behind their parameters.
func copied(l []api.TkItem) []api.TkItem {
	l = slices.Clone(l)
	for i, x := range l {
		l[i].Params = slices.Clone(x.Params[:cap(x.Params)])
	}
	return l
}

func TestArgumentsAreNotModified(t *testing.T) { // P5.9, R3
	_, many := params(21)
	for _, l := range [][]api.TkItem{
		nil,
		{item("b", "z", "1", "y", "a b"), item("a"), item("a", "x", `"`)},
		{item("a", "X", "1"), item("B", "x", "1")},
		{item("b", "x", "1", "x", "1"), item("a")},
		{item("a", many...)},
		{item("a", "x", strings.Repeat(`"`, 500)), item("a", "x", strings.Repeat(`"`, 500))},
		make([]api.TkItem, 51),
	} {
		given, all := roomy(l)
		before := copied(all)
		tokens.Print(given)
		if !sameItems(copied(all), before) {
			t.Errorf("Print has changed %.200q to %.200q", before, all)
		}
	}
}

func TestAllArgumentsAreAccepted(t *testing.T) { // P5.9, R1
	long := strings.Repeat("\x00\"\\\n ;,=a\xff", 1<<17)
	for _, s := range []string{"", long, long[:2000], long[:500], strings.Repeat(`"`, 2000), strings.Repeat(`\`, 2000), strings.Repeat(";", 2000), strings.Repeat("a;", 1000), strings.Repeat("a=", 1<<19), `"` + strings.Repeat(`\`, 1<<20)} {
		tokens.Token(s)
		tokens.Fold(s)
		tokens.Quote(s)
		tokens.Unquote(s)
		tokens.Elements(s)
		tokens.Has(s, s)
		tokens.Has(s, "a")
		tokens.Items(s)
		tokens.Quality(s)
		tokens.Weights(s)
		tokens.Print([]api.TkItem{item(s, s, s)})
		tokens.Print([]api.TkItem{item("a", "x", s), item("a", s, "x")})
	}
	for _, n := range []int{math.MinInt, -1, 0, 1, 1000, 1001, math.MaxInt} {
		tokens.PrintQuality(n)
	}
	tokens.Print(make([]api.TkItem, 100000))
	tokens.Print([]api.TkItem{{Params: make([]api.TkParam, 100000)}})
}

func TestResultsOfManyThreads(t *testing.T) { // P5.9, R6
	const v = `a;q=0.5;x="y;z", b, c;q=0.75`
	want, _ := items(v)
	order, _ := weights(v)
	var all sync.WaitGroup
	for range 8 {
		all.Go(func() {
			for range 200 {
				checkItems(t, v, want, api.OK)
				checkPrint(t, want, v, api.OK)
				checkWeights(t, v, order, api.OK)
			}
		})
	}
	all.Wait()
}
