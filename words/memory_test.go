package words_test

import (
	"slices"
	"strings"
	"testing"
	"unsafe"

	"spillway/api"
	"spillway/words"
)

// shared reports whether two strings share memory.
func shared(a, b string) bool {
	if a == "" || b == "" {
		return false
	}
	from, to := uintptr(unsafe.Pointer(unsafe.StringData(a))), uintptr(unsafe.Pointer(unsafe.StringData(b)))
	return from < to+uintptr(len(b)) && to < from+uintptr(len(a))
}

// checkFresh fails if one of the strings of l shares memory with another one, or with s.
func checkFresh(t *testing.T, what, s string, l ...string) {
	t.Helper()
	for i, a := range l {
		if shared(a, s) {
			t.Errorf("%s: %q shares memory with the argument", what, a)
		}
		for _, b := range l[:i] {
			if shared(a, b) {
				t.Errorf("%s: %q and %q share memory", what, a, b)
			}
		}
	}
}

func TestStringsAreFresh(t *testing.T) { // P1.8
	line := strings.Join([]string{"get", "/path", `"a b"`, `"plain"`, "last"}, " ")
	l, _ := words.Split(line)
	var s []string
	for _, f := range l {
		s = append(s, f.S)
	}
	checkFresh(t, "Split", line, s...)
	text := strings.Repeat("one line\n", 3)
	lines, _ := words.Lines(text)
	checkFresh(t, "Lines", text, lines...)
	q := words.Quote(line)
	checkFresh(t, "Quote", line, q)
	plain, _ := words.Unquote(q)
	checkFresh(t, "Unquote", q, plain)
	one := strings.Repeat("word", 5)
	joined, _ := words.Join([]api.Field{bare(one)})
	checkFresh(t, "Join", one, joined)
}

func TestListsAreFresh(t *testing.T) { // P1.8
	first, _ := words.Split("a b")
	clear(first)
	checkSplit(t, "a b", []api.Field{bare("a"), bare("b")}, api.OK)
	lines, _ := words.Lines("a\nb\n")
	clear(lines)
	checkLines(t, "a\nb\n", []string{"a", "b"}, api.OK)
	l, _ := words.ParseList("1-3")
	clear(l)
	checkParse(t, "1-3", []int{1, 2, 3}, api.OK)
}

func TestArgumentsStayAsTheyAre(t *testing.T) { // P1.8
	for _, l := range append(fieldLists(), []api.Field{bare("a"), bare("")}) {
		before := slices.Clone(l)
		words.Join(l)
		if !slices.Equal(l, before) {
			t.Errorf("Join has changed %+v to %+v", before, l)
		}
	}
	for _, l := range [][]int{{1, 2, 5}, {2, 1}, {1, -1}} {
		before := slices.Clone(l)
		words.List(l)
		if !slices.Equal(l, before) {
			t.Errorf("List has changed %v to %v", before, l)
		}
	}
}

func TestAllArgumentsAreAccepted(t *testing.T) { // P1.8
	long := strings.Repeat("\x00\"\\\n 9-,", 1<<18)
	for _, s := range []string{"", long, long[:1<<20], "\"" + long, "-" + strings.Repeat("9", 1<<20), strings.Repeat("9", 1<<20) + ",1"} {
		words.Name(s)
		words.Int(s, 1, -1)
		words.Unquote(words.Quote(s))
		words.Unquote(s)
		words.Split(s)
		words.Join([]api.Field{{S: s}, {S: s, Quoted: true}})
		words.Lines(s)
		words.ParseList(s)
	}
	words.List([]int{-1 << 63, 1<<63 - 1})
	words.List(nil)
	words.Join(nil)
}
