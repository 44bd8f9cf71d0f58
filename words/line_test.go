package words_test

import (
	"regexp"
	"slices"
	"strings"
	"testing"

	"spillway/api"
	"spillway/words"
)

func bare(s string) api.Field   { return api.Field{S: s} }
func quotes(s string) api.Field { return api.Field{S: s, Quoted: true} }

// checkSplit fails if Split does not return want and e.
func checkSplit(t *testing.T, line string, want []api.Field, e api.Errno) {
	t.Helper()
	if l, got := words.Split(line); got != e || !slices.Equal(l, want) {
		t.Errorf("Split(%.60q): %+.60v, %d, want %+.60v, %d", line, l, got, want, e)
	}
}

// checkJoin fails if Join does not return want and e.
func checkJoin(t *testing.T, l []api.Field, want string, e api.Errno) {
	t.Helper()
	if s, got := words.Join(l); s != want || got != e {
		t.Errorf("Join(%+.60v): %.60q, %d, want %.60q, %d", l, s, got, want, e)
	}
}

func TestSplitAndJoinOfExamples(t *testing.T) { // P1.3, P1.4, P1.7
	for line, l := range map[string][]api.Field{
		``:                      nil,
		`a`:                     {bare("a")},
		`get / "a b"`:           {bare("get"), bare("/"), quotes("a b")},
		`""`:                    {quotes("")},
		`"" ""`:                 {quotes(""), quotes("")},
		`"a" a`:                 {quotes("a"), bare("a")},
		`a "\" " b "\n" "\x00"`: {bare("a"), quotes("\" "), bare("b"), quotes("\n"), quotes("\x00")},
		`!#[]~ 'x'`:             {bare("!#[]~"), bare("'x'")},
		`"\\"`:                  {quotes(`\`)},
	} {
		checkSplit(t, line, l, api.OK)
		checkJoin(t, l, line, api.OK)
	}
}

func TestSplitOfWrongForms(t *testing.T) { // P1.3
	for _, s := range []string{
		" ", "  ", "a  b", " a", "a ", `"a" `, ` "a"`, `"a"  "b"`,
		"a\tb", "a\n", "a\x7f", "é", "\x00", `a"b"`, `a"`, `"a"b`, `"a""b"`, `a\b`, `\`, `"`, `a "`, `"a b`, `a "\x41" b`, `a "\x7F"`, `"\q"`,
	} {
		checkSplit(t, s, nil, api.ErrForm)
	}
}

func TestSplitOfAllShortLines(t *testing.T) { // P1.3, P1.7
	const field = `([!#-\[\]-~]+|"([ !#-\[\]-~]|\\["\\nrt]|\\x(0[0-8bcef]|1[0-9a-f]|7f|[89a-f][0-9a-f]))*")`
	line := regexp.MustCompile(`^(` + field + `( ` + field + `)*)?$`)
	each("a \"\\nx0\t", 6, func(s string) {
		l, e := words.Split(s)
		if !line.MatchString(s) {
			if e != api.ErrForm || len(l) > 0 {
				t.Errorf("Split(%q): %+v, %d", s, l, e)
			}
			return
		}
		if e != api.OK {
			t.Errorf("Split(%q): %d", s, e)
		}
		checkJoin(t, l, s, api.OK)
	})
}

func TestSplitOfLongLines(t *testing.T) { // P1.3
	long := strings.Repeat("a", 2000)
	four := long + " " + long + " " + long + " " + long
	rest := strings.Repeat("b", 8192-len(four)-1)
	checkSplit(t, four+" "+rest, []api.Field{bare(long), bare(long), bare(long), bare(long), bare(rest)}, api.OK)
	checkSplit(t, four+" "+rest+"b", nil, api.ErrLong)
	checkSplit(t, strings.Repeat(" ", 8192), nil, api.ErrForm)
	checkSplit(t, strings.Repeat(" ", 8193), nil, api.ErrLong)
	checkSplit(t, long+"a", nil, api.ErrLong)
	checkSplit(t, `"`+long+`"`, []api.Field{quotes(long)}, api.OK)
	checkSplit(t, `"`+long+`a"`, nil, api.ErrLong)
	checkSplit(t, "b "+long+"a b", nil, api.ErrLong)
	checkSplit(t, "b "+long+"a b ", nil, api.ErrForm)
	escaped := strings.Repeat(`\x00`, 2000)
	checkSplit(t, `"`+escaped+`"`, []api.Field{quotes(strings.Repeat("\x00", 2000))}, api.OK)
	checkSplit(t, `"`+escaped+`\x00"`, nil, api.ErrLong)
	checkSplit(t, `"`+escaped+`\x00`, nil, api.ErrForm)
}

func TestSplitOfManyFields(t *testing.T) { // P1.3
	checkSplit(t, strings.Repeat("a ", 63)+"a", slices.Repeat([]api.Field{bare("a")}, 64), api.OK)
	checkSplit(t, strings.Repeat(`"" `, 63)+`""`, slices.Repeat([]api.Field{quotes("")}, 64), api.OK)
	checkSplit(t, strings.Repeat("a ", 64)+"a", nil, api.ErrLong)
	checkSplit(t, strings.Repeat("a ", 4095)+"a", nil, api.ErrLong)
	checkSplit(t, strings.Repeat("a ", 4096), nil, api.ErrForm)
	checkSplit(t, strings.Repeat("a ", 64)+`"`, nil, api.ErrForm)
}

func TestJoinOfBareFields(t *testing.T) { // P1.4
	checkJoin(t, []api.Field{bare("")}, "", api.ErrForm)
	checkJoin(t, []api.Field{bare("a"), bare(""), bare("b")}, "", api.ErrForm)
	for c := range 256 {
		for _, s := range []string{string([]byte{byte(c)}), string([]byte{'a', byte(c)}), string([]byte{byte(c), 'a'})} {
			if c >= 33 && c <= 126 && c != '"' && c != '\\' {
				checkJoin(t, []api.Field{bare(s)}, s, api.OK)
				checkSplit(t, s, []api.Field{bare(s)}, api.OK)
			} else {
				checkJoin(t, []api.Field{bare(s)}, "", api.ErrForm)
				checkJoin(t, []api.Field{bare("x"), bare(s), quotes("x")}, "", api.ErrForm)
			}
			checkJoin(t, []api.Field{quotes(s)}, quoted(s), api.OK)
		}
	}
}

func TestJoinOfTooMuch(t *testing.T) { // P1.4
	long := strings.Repeat("a", 2000)
	four := []api.Field{bare(long), bare(long), bare(long), bare(long)}
	line := long + " " + long + " " + long + " " + long + " "
	fits := strings.Repeat("b", 8192-len(line))
	checkJoin(t, append(slices.Clone(four), bare(fits)), line+fits, api.OK)
	checkJoin(t, append(slices.Clone(four), bare(fits+"b")), "", api.ErrLong)
	checkJoin(t, append(slices.Clone(four), bare(fits+"b"), bare("")), "", api.ErrForm)
	checkJoin(t, append(slices.Clone(four), quotes(fits[2:])), line+`"`+fits[2:]+`"`, api.OK)
	checkJoin(t, append(slices.Clone(four), quotes(fits[1:])), "", api.ErrLong)
	checkJoin(t, []api.Field{bare(""), bare(long + "a")}, "", api.ErrLong)
	checkJoin(t, []api.Field{quotes(long + "a")}, "", api.ErrLong)
	checkJoin(t, []api.Field{quotes(long)}, `"`+long+`"`, api.OK)
	checkJoin(t, slices.Repeat([]api.Field{bare("a")}, 64), strings.Repeat("a ", 63)+"a", api.OK)
	checkJoin(t, slices.Repeat([]api.Field{bare("a")}, 65), "", api.ErrLong)
	checkJoin(t, slices.Repeat([]api.Field{bare("")}, 65), "", api.ErrLong)
	checkJoin(t, slices.Repeat([]api.Field{bare("")}, 64), "", api.ErrForm)
	checkJoin(t, []api.Field{quotes(strings.Repeat("\x00", 2000)), quotes(strings.Repeat("\x00", 50))}, "", api.ErrLong)
	checkJoin(t, []api.Field{}, "", api.OK)
}

// checkLines fails if Lines does not return want and e.
func checkLines(t *testing.T, text string, want []string, e api.Errno) {
	t.Helper()
	if l, got := words.Lines(text); got != e || !slices.Equal(l, want) {
		t.Errorf("Lines(%.60q, of %d bytes): %d lines, %d, want %d, %d", text, len(text), len(l), got, len(want), e)
	}
}

func TestLines(t *testing.T) { // P1.5
	checkLines(t, "", nil, api.OK)
	checkLines(t, "\n", []string{""}, api.OK)
	checkLines(t, "a\n", []string{"a"}, api.OK)
	checkLines(t, "a\n\n b\r\n\x00\xff\"\n", []string{"a", "", " b\r", "\x00\xff\""}, api.OK)
	checkLines(t, "a", nil, api.ErrForm)
	checkLines(t, "a\nb", nil, api.ErrForm)
	checkLines(t, "\n ", nil, api.ErrForm)
	checkLines(t, "a\r", nil, api.ErrForm)
	each("a\r\n", 6, func(s string) {
		if s != "" && s[len(s)-1] == '\n' {
			checkLines(t, s, strings.Split(s[:len(s)-1], "\n"), api.OK)
		}
	})
}

func TestLinesOfLongTexts(t *testing.T) { // P1.5
	long := strings.Repeat("x", 1<<20-1)
	checkLines(t, long+"\n", []string{long}, api.OK)
	checkLines(t, long+"x\n", nil, api.ErrLong)
	checkLines(t, long+"x", nil, api.ErrForm)
	checkLines(t, long+"xx", nil, api.ErrLong)
	checkLines(t, strings.Repeat("\n", 5000), make([]string, 5000), api.OK)
	checkLines(t, strings.Repeat("\n", 5001), nil, api.ErrLong)
	checkLines(t, strings.Repeat("\n", 5000)+"x", nil, api.ErrForm)
	checkLines(t, strings.Repeat("\n", 5001)+"x", nil, api.ErrForm)
	checkLines(t, strings.Repeat("ab\n", 5000), slices.Repeat([]string{"ab"}, 5000), api.OK)
}

// fieldLists are some lists of fields, each with at least one.
func fieldLists() [][]api.Field {
	some := []api.Field{bare("a"), bare("-"), bare("=;~"), quotes(""), quotes("a"), quotes(" "), quotes("\"\\\n\x00"), quotes(allBytes())}
	var l [][]api.Field
	for _, a := range some {
		l = append(l, []api.Field{a})
		for _, b := range some {
			l = append(l, []api.Field{a, b})
		}
	}
	return append(l, some)
}

func TestSplitOfJoin(t *testing.T) { // P1.7
	for _, l := range fieldLists() {
		line, e := words.Join(l)
		if e != api.OK {
			t.Errorf("Join(%+v): %d", l, e)
		}
		checkSplit(t, line, l, api.OK)
	}
}

func TestJoinOfTwoLists(t *testing.T) { // P1.8
	for _, a := range fieldLists() {
		for _, b := range fieldLists() {
			first, _ := words.Join(a)
			second, _ := words.Join(b)
			checkJoin(t, slices.Concat(a, b), first+" "+second, api.OK)
		}
	}
}
