package faults_test

import (
	"regexp"
	"strings"
	"testing"

	"spillway/api"
	"spillway/faults"
)

// checkParse fails if Parse does not return the error e, or returns a fault with another text.
func checkParse(t *testing.T, s string, e api.Errno) {
	t.Helper()
	err, got := faults.Parse(s)
	if got != e || (err == nil) != (e != api.OK) {
		t.Errorf("Parse of %.80q: %v, %d, want %d", s, err, got, e)
	}
	if err != nil && err.Error() != s {
		t.Errorf("Text of Parse of %.80q: %q", s, err.Error())
	}
}

// each calls f with s and at most n of the parts after it.
func each(s string, parts []string, n int, f func(s string)) {
	f(s)
	if n > 0 {
		for _, part := range parts {
			each(s+part, parts, n-1, f)
		}
	}
}

func TestParseOfAllShortTexts(t *testing.T) { // P3.6, P3.8
	texts := map[string]bool{}
	for size := 1; size <= 5; size++ {
		for _, x := range shapes(size) {
			texts[x.labelled(func() api.FaLink { return one }).text()] = true
		}
	}
	each("", []string{"do: dial", "; ", " & ", "(", ")"}, 8, func(s string) {
		if texts[s] {
			checkParse(t, s, api.OK)
		} else {
			checkParse(t, s, api.ErrForm)
		}
	})
}

const linkForm = `[a-z][-a-z0-9]{0,15}( on (0|[1-9][0-9]*))?( over [1-9][0-9]*)?: (shutdown|no-backend|queue-full|deadline|canceled|dial|refused|reset|truncated|malformed|too-large|surplus|open|down|closed|exhausted)`

func TestParseOfAllShortLinks(t *testing.T) { // P3.6
	form := regexp.MustCompile("^" + linkForm + "$")
	each("do", []string{" on ", " over ", "0", "7", ": ", "dial", " ", ":"}, 6, func(s string) {
		if form.MatchString(s) {
			if _, e := faults.Parse(s); e != api.OK && !(e == api.ErrRange && strings.Contains(s, " on 7")) {
				t.Errorf("Parse of %q: %d", s, e)
			}
		} else {
			checkParse(t, s, api.ErrForm)
		}
	})
}

func TestParseOfLinks(t *testing.T) { // P3.6
	for _, s := range []string{
		"do: dial", "do on 0: dial", "do on 9: dial", "do on 10: dial", "do on 15: dial", "do over 1: dial", "do over 1000000000: dial",
		"do on 15 over 1000000000: dial", "on on 1 over 1: open", "over over 5: down", "dial: dial", "abcdefghijklmnop: reset", "a-: reset",
	} {
		checkParse(t, s, api.OK)
	}
	for _, s := range []string{
		"", " ", ":", ": dial", "do", "do:", "do: ", "do:dial", "do : dial", "do:  dial", " do: dial", "do: dial ", "do: dial\n", "do: dial;", "do: dial; ", "do: dial;do: dial", "do: dial ; do: dial",
		"Do: dial", "1: dial", "-: dial", "d_o: dial", "abcdefghijklmnopq: reset", "do: Dial", "do: dia", "do: dials", "do: ", "do: 6", "do: none", "do: -", "dö: dial", "do: dial\x00",
		"do on : dial", "do on  1: dial", "do on -1: dial", "do on +1: dial", "do on 01: dial", "do on 00: dial", "do on 1 : dial", "do on1: dial", "do on 1", "do on 1:dial", "do on x: dial", "do on 1x: dial", "do on ١: dial",
		"do over : dial", "do over 0: dial", "do over 00: dial", "do over -1: dial", "do over 01: dial", "do over 1 on 1: dial", "do on 1 on 1: dial", "do over 1 over 1: dial", "do on 1over 1: dial",
	} {
		checkParse(t, s, api.ErrForm)
	}
	digits := strings.Repeat("9", 100000)
	for _, s := range []string{
		"do on 16: dial", "do on 100: dial", "do on 18446744073709551616: dial", "do on 18446744073709551617: dial", "do on 9223372036854775808: dial", "do on " + digits + ": dial",
		"do over 1000000001: dial", "do over 9223372036854775808: dial", "do over 18446744073709551617: dial", "do over " + digits + ": dial", "do on 16 over 1000000001: dial", "do on 3 over 1000000001: dial", "do on 16 over 3: dial",
	} {
		checkParse(t, s, api.ErrRange)
		checkParse(t, "do: open; "+s, api.ErrRange)
		checkParse(t, s+"; do: open", api.ErrRange)
		checkParse(t, "(do: open & "+s+")", api.ErrRange)
		checkParse(t, s+" ", api.ErrForm)
		checkParse(t, s+"; ", api.ErrForm)
		checkParse(t, s+"; do on 01: dial", api.ErrForm)
		checkParse(t, s+"; do over 0: dial", api.ErrForm)
		checkParse(t, "("+s+")", api.ErrForm)
	}
}

func TestParseOfJoins(t *testing.T) { // P3.6
	const s = "do: dial"
	for _, good := range []string{
		"(do: dial & do: dial)", "((do: dial & do: dial) & do: dial)", "(do: dial & (do: dial & do: dial))", "do: open; (do: dial & do: dial)", "(do: dial; do: dial & do: dial)", "(do: dial & do: dial; do: dial)",
		"(do: dial; (a: down & b: down) & c: down)", "do: exhausted; (a: reset; b: closed & (c: down & d: open; e: surplus) & f: malformed)",
	} {
		checkParse(t, good, api.OK)
	}
	for _, bad := range []string{
		"()", "(", ")", "(do: dial)", "((do: dial & do: dial))", "(do: dial & do: dial", "do: dial & do: dial", "do: dial & do: dial)", "(do: dial & )", "( & do: dial)", "(do: dial&do: dial)", "(do: dial &do: dial)", "(do: dial& do: dial)",
		"(do: dial  & do: dial)", "(do: dial & do: dial )", "( do: dial & do: dial)", "(do: dial & do: dial);", "(do: dial & do: dial); do: dial", "(do: dial & do: dial) & do: dial", "(do: dial & do: dial)(do: dial & do: dial)", "(do: dial & do: dial))",
		"(do: dial; do: dial)", "(do: dial; (do: dial & do: dial))", "(do: dial && do: dial)", "(do: dial & & do: dial)", "do: (do: dial & do: dial)",
	} {
		checkParse(t, bad, api.ErrForm)
	}
	for size := 2; size <= 50; size++ {
		e := api.OK
		if size > 8 {
			e = api.ErrLong
		}
		list := s + strings.Repeat(" & "+s, size-1)
		checkParse(t, "("+list+")", e)
		checkParse(t, "("+list, api.ErrForm)
		checkParse(t, "(("+list+") & "+s+")", e)
		checkParse(t, "("+s+" & ("+list+"))", e)
		checkParse(t, "("+list+"; ("+list+"))", e)
		checkParse(t, "("+list+" & do on 16: dial)", api.ErrRange)
	}
}

func TestParseOfTooMuch(t *testing.T) { // P3.6, R1
	checkParse(t, line(13).text(), api.OK)
	checkParse(t, line(14).text(), api.ErrLong)
	checkParse(t, forty().text(), api.OK)
	checkParse(t, above(one, forty()).text(), api.ErrLong)
	checkParse(t, joined(leaf(one), line(12)).text(), api.OK)
	checkParse(t, joined(leaf(one), line(13)).text(), api.ErrLong)
	const many = 1 << 18
	long := strings.Repeat("do: dial; ", many)
	checkParse(t, long+"do: dial", api.ErrLong)
	checkParse(t, long+"do on 16: dial", api.ErrRange)
	checkParse(t, long, api.ErrForm)
	checkParse(t, "("+strings.Repeat("do: dial & ", many)+"do: dial)", api.ErrLong)
	checkParse(t, "("+strings.Repeat("do: dial & ", many), api.ErrForm)
	left := strings.Repeat("(", many) + "do: dial" + strings.Repeat(" & do: dial)", many)
	right := strings.Repeat("(do: dial & ", many) + "do: dial" + strings.Repeat(")", many)
	checkParse(t, left, api.ErrLong)
	checkParse(t, right, api.ErrLong)
	checkParse(t, left+")", api.ErrForm)
	checkParse(t, right[:len(right)-1], api.ErrForm)
	checkParse(t, strings.Repeat("(", many), api.ErrForm)
	checkParse(t, strings.Repeat("(", many)+"do: dial"+strings.Repeat(")", many), api.ErrForm)
	checkParse(t, strings.Repeat("a", many), api.ErrForm)
	checkParse(t, "do: "+strings.Repeat("dial", many), api.ErrForm)
}

// errorOf returns the error that the text of x deserves, and that its chain deserves.
func errorOf(x tree) (text, chain api.Errno) {
	nodes := x.nodes(0)
	var far, wide, large bool
	for _, n := range nodes {
		far = far || n.Link.Backend > 15 || n.Link.Conn > 1000000000
		wide = wide || n.Joined > 8
		large = large || n.Depth > 12
	}
	large = large || len(nodes) > 40
	switch {
	case far:
		text = api.ErrRange
	case wide || large:
		text = api.ErrLong
	}
	switch {
	case large:
		chain = api.ErrLong
	case wide:
		chain = api.ErrForm
	case far:
		chain = api.ErrRange
	}
	return text, chain
}

func TestTreesOfAnySize(t *testing.T) { // P3.4, P3.6
	next := numbers(3)
	links := anyLink(next)
	got := map[api.Errno]int{}
	for range 20000 {
		odds := 4 + next(200)
		x := anyTree(next, 1+next(90), 3+next(16), 2+next(10)).labelled(func() api.FaLink {
			l := links()
			if next(odds) == 0 {
				l.Backend += 16 + next(1000)
			}
			if next(odds) == 0 {
				l.Conn += 1000000001
			}
			return l
		})
		text, chain := errorOf(x)
		checkParse(t, x.text(), text)
		checkBuild(t, x.nodes(0), chain)
		got[text]++
	}
	for _, e := range []api.Errno{api.OK, api.ErrRange, api.ErrLong} {
		if got[e] < 1000 {
			t.Errorf("only %d trees with the error %d", got[e], e)
		}
	}
}

// hasForm reports whether s has the form of a text: what has it is replaced by a letter, from the inside out.
func hasForm(s string, link, cause, join *regexp.Regexp) bool {
	s = link.ReplaceAllString(s, "L")
	for before := ""; s != before; {
		before = s
		s = cause.ReplaceAllString(s, "F$2")
		s = join.ReplaceAllString(s, "F$2")
	}
	return s == "F"
}

func TestParseOfChangedTexts(t *testing.T) { // P3.6, P3.8
	link, cause, join := regexp.MustCompile(linkForm), regexp.MustCompile(`L(; F)?( &|\)|$)`), regexp.MustCompile(`\(F( & F)+\)( &|\)|$)`)
	next := numbers(5)
	const bytes = " &();:-0159adox"
	good := 0
	for range 60000 {
		s := anyTree(next, 1+next(8), 4, 3).labelled(anyLink(next)).text()
		for range next(3) {
			i := next(len(s) + 1)
			j := min(len(s), i+next(3))
			k := next(len(bytes))
			s = s[:i] + bytes[k:min(len(bytes), k+next(3))] + s[j:]
		}
		if !hasForm(s, link, cause, join) {
			checkParse(t, s, api.ErrForm)
			continue
		}
		good++
		if err, e := faults.Parse(s); e == api.OK && err.Error() != s || e != api.OK && e != api.ErrRange && e != api.ErrLong {
			t.Errorf("Parse of %q: %v, %d", s, err, e)
		}
	}
	if good < 10000 || good > 50000 {
		t.Errorf("%d texts have the form", good)
	}
}
