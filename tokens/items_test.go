package tokens_test

import (
	"slices"
	"strconv"
	"strings"
	"testing"

	"spillway/api"
	"spillway/tokens"
)

// checkItems fails if Items does not return want and e.
func checkItems(t *testing.T, v string, want []api.TkItem, e api.Errno) {
	t.Helper()
	if l, got := tokens.Items(v); !sameItems(l, want) || got != e {
		t.Errorf("Items(%.200q): %.200q, %d, want %.200q, %d", v, l, got, want, e)
	}
}

// checkPrint fails if Print does not return want and e.
func checkPrint(t *testing.T, l []api.TkItem, want string, e api.Errno) {
	t.Helper()
	if v, got := tokens.Print(l); v != want || got != e {
		t.Errorf("Print(%.200q): %.200q, %d, want %.200q, %d", l, v, got, want, e)
	}
}

// params returns n parameters as they are written, and as an item has them.
func params(n int) (string, []string) {
	var s string
	var l []string
	for i := range n {
		name := "p" + strconv.Itoa(i)
		s += ";" + name + "=v"
		l = append(l, name, "v")
	}
	return s, l
}

func TestItemsOfExamples(t *testing.T) { // P5.4
	for v, want := range map[string][]api.TkItem{
		``:                                nil,
		` ,, `:                            nil,
		`a;Q=1; x="y;z", b`:               {item("a", "q", "1", "x", "y;z"), item("b")},
		`a`:                               {item("a")},
		`A;B=C`:                           {item("A", "b", "C")},
		`a;`:                              {item("a")},
		`a ;`:                             {item("a")},
		`a ; ; ;;`:                        {item("a")},
		"a \t;\t x=1 \t;; y=2;\t":         {item("a", "x", "1", "y", "2")},
		`a;x=""`:                          {item("a", "x", "")},
		`a;x="\"\\\b";y=" ,;="`:           {item("a", "x", `"\b`, "y", " ,;=")},
		`a;x="A B", a;x=c, A`:             {item("a", "x", "A B"), item("a", "x", "c"), item("A")},
		`a;a=a`:                           {item("a", "a", "a")},
		`a; x=1 ,`:                        {item("a", "x", "1")},
		"!#$%&'*+-.^_`|~;!#$%&'*+=.^_`|~": {item("!#$%&'*+-.^_`|~", "!#$%&'*+", ".^_`|~")},
	} {
		checkItems(t, v, want, api.OK)
	}
}

func TestItemsOfWrongForms(t *testing.T) { // P5.4
	for _, v := range []string{
		`a b`, `"a"`, `a"b"`, `"a";b=c`, `a/b`, `a=b`, `;`, `;x=1`, `;;`, ` ;a`, `a x=1`,
		`a;x`, `a;x=`, `a;=1`, `a;=`, `a;x=;y=1`, `a;x;y=1`, `a;x =1`, `a;x= 1`, `a;x = 1`, `a;x=1=2`, `a;x=1 2`, `a;x=1 y=2`, `a;"x"=1`, `a;x/y=1`, `a;x=y/z`,
		`a;x="1"2`, `a;x="1" 2`, `a;x="1""2"`, `a;x=1"2"`, `a;x==1`, `a;x=\1`, `a;x="1";y`, `a;x y`, `a;"x"`, `a;x="1"="2"`, `a;x:1`,
		strings.Repeat("a", 65), `a;` + strings.Repeat("x", 65) + `=1`, `a;x=` + strings.Repeat("y", 65), `a;x=` + strings.Repeat("y", 501),
	} {
		checkItems(t, v, nil, api.ErrForm)
		checkItems(t, "b;c=d, "+v+", e", nil, api.ErrForm)
	}
	token := strings.Repeat("a", 64)
	checkItems(t, token+";"+token+"="+token, []api.TkItem{item(token, token, token)}, api.OK)
}

func TestItemsOfNoValues(t *testing.T) { // P5.4
	for _, v := range []string{`"`, `a;x="`, `a,b;x="\"`, "a\n", "a,\x00", "é", `a b,"`} {
		checkItems(t, v, nil, api.ErrForm)
	}
	checkItems(t, strings.Repeat("a", 2001), nil, api.ErrLong)
	checkItems(t, strings.Repeat(",", 2001), nil, api.ErrLong)
	checkItems(t, strings.Repeat(`"`, 2001), nil, api.ErrLong)
}

func TestItemsOfTooMany(t *testing.T) { // P5.4
	fifty := slices.Repeat([]api.TkItem{item("a")}, 50)
	checkItems(t, strings.Repeat("a,", 50), fifty, api.OK)
	checkItems(t, strings.Repeat("a,", 50)+strings.Repeat(" ,", 900), fifty, api.OK)
	checkItems(t, strings.Repeat("a,", 51), nil, api.ErrLong)
	checkItems(t, strings.Repeat("a b,", 51), nil, api.ErrLong)
	checkItems(t, strings.Repeat("a;x=1;x=1,", 51), nil, api.ErrLong)
	checkItems(t, strings.Repeat("a b,", 50), nil, api.ErrForm)
	checkItems(t, strings.Repeat("a,", 51)+`"`, nil, api.ErrForm)
}

func TestItemsWithManyParams(t *testing.T) { // P5.4
	s, l := params(20)
	checkItems(t, "a"+s+";", []api.TkItem{item("a", l...)}, api.OK)
	checkItems(t, "a"+s+", b"+s, []api.TkItem{item("a", l...), item("b", l...)}, api.OK)
	checkItems(t, "a"+s+strings.Repeat("; ", 500), []api.TkItem{item("a", l...)}, api.OK)
	checkItems(t, "a"+s+";x=1", nil, api.ErrLong)
	checkItems(t, "a"+s+";p0=1", nil, api.ErrLong)
	checkItems(t, "a"+strings.Repeat(";x=1", 21), nil, api.ErrLong)
	checkItems(t, "a"+strings.Repeat(";x=1", 20), nil, api.ErrTwice)
	checkItems(t, "a"+strings.Repeat(";x=1", 400), nil, api.ErrLong)
	checkItems(t, "a"+s+";x=1;y", nil, api.ErrForm)
}

func TestItemsWithLongStrings(t *testing.T) { // P5.4
	long := strings.Repeat("y", 500)
	checkItems(t, `a;x="`+long+`"`, []api.TkItem{item("a", "x", long)}, api.OK)
	checkItems(t, `a;x="`+strings.Repeat(`\y`, 500)+`"`, []api.TkItem{item("a", "x", long)}, api.OK)
	checkItems(t, `a;x="`+long+`z"`, nil, api.ErrLong)
	checkItems(t, `a;x="`+strings.Repeat(`\y`, 501)+`"`, nil, api.ErrLong)
	checkItems(t, `a;w=1;x="`+long+`z";y="2"`, nil, api.ErrLong)
	checkItems(t, `a;x="`+long+`z";x=1`, nil, api.ErrLong)
	checkItems(t, `a;x=1;x=1;y="`+long+`z"`, nil, api.ErrLong)
	checkItems(t, `a;x="`+long+`z";y`, nil, api.ErrForm)
	checkItems(t, `a;y/;x="`+long+`z"`, nil, api.ErrForm)
	checkItems(t, `a b"`+long+`z"`, nil, api.ErrForm)
}

func TestItemsWithSameNames(t *testing.T) { // P5.4
	checkItems(t, `a;x=1;x=2`, nil, api.ErrTwice)
	checkItems(t, `a;x=1;X=1`, nil, api.ErrTwice)
	checkItems(t, `a;x=1;y=1;x="1"`, nil, api.ErrTwice)
	checkItems(t, `a;Xy=1;z=1;xY=1`, nil, api.ErrTwice)
	checkItems(t, `a;x=1;x=2;y`, nil, api.ErrForm)
	checkItems(t, `a;x=1,a;x=1`, []api.TkItem{item("a", "x", "1"), item("a", "x", "1")}, api.OK)
	checkItems(t, `a;^=1;~=1`, []api.TkItem{item("a", "^", "1", "~", "1")}, api.OK)
}

func TestItemsOfTheFirstError(t *testing.T) { // P5.4
	wrong := map[string]api.Errno{
		`a b`:                                    api.ErrForm,
		`a;x="` + strings.Repeat(`y`, 501) + `"`: api.ErrLong,
		`a` + strings.Repeat(`;x=1`, 21):         api.ErrLong,
		`a;x=1;x=1`:                              api.ErrTwice,
		`a;x="` + strings.Repeat(`y`, 501) + `";b`: api.ErrForm,
	}
	for first, e := range wrong {
		for second := range wrong {
			checkItems(t, first+","+second, nil, e)
			checkItems(t, "b;x=1, "+first+",c,"+second, nil, e)
		}
	}
}

func TestItemsOfAllShortStrings(t *testing.T) { // P5.4
	each("aA;=\" ,", 6, func(s string) {
		for _, v := range []string{s, "b;" + s} {
			want, e := items(v)
			checkItems(t, v, want, e)
		}
	})
	each("x=;\"\\", 7, func(s string) {
		want, e := items("a;x=" + s)
		checkItems(t, "a;x="+s, want, e)
	})
}

// anyValue returns a value of up to n parts, most of which are where they may be.
func anyValue(next func(n int) int, n int) string {
	var b strings.Builder
	parts := []string{"a", "gzip", "X1", ";", ",", "=", " ", "\t", `"`, `\`, "/", `"q;, \"r"`, ";q=0.5", ";Q=1", `; x="y"`, ` ;k="\\"`, ", b", ",,c"}
	for range next(n) {
		i := next(len(parts))
		if next(4) > 0 {
			i = max(i, 11)
		}
		b.WriteString(parts[i])
	}
	return b.String()
}

func TestItemsOfManyValues(t *testing.T) { // P5.3, P5.4
	next := numbers(2)
	for range 30000 {
		v := "a" + anyValue(next, 8)
		l, e := elements(v)
		checkElements(t, v, l, e)
		want, e := items(v)
		checkItems(t, v, want, e)
	}
}

func TestPrintOfExamples(t *testing.T) { // P5.5, P5.7
	s, l := params(20)
	token := strings.Repeat("t", 64)
	for v, l := range map[string][]api.TkItem{
		``:                     nil,
		`a`:                    {item("a")},
		`a;q=1;x="y;z", b`:     {item("a", "q", "1", "x", "y;z"), item("b")},
		`A, a, A`:              {item("A"), item("a"), item("A")},
		`a;x="";y=Z;z="\"\\ "`: {item("a", "x", "", "y", "Z", "z", `"\ `)},
		`a;z=1;y=2, a;y=1;z=2`: {item("a", "z", "1", "y", "2"), item("a", "y", "1", "z", "2")},
		"a;x=\"\t\"":           {item("a", "x", "\t")},
		"a" + s + ", b" + s:    {item("a", l...), item("b", l...)},
		token + ";" + token + "=" + token + `;x="` + token + `t"`:         {item(token, token, token, "x", token+"t")},
		`a;x="` + strings.Repeat("/", 500) + `"`:                          {item("a", "x", strings.Repeat("/", 500))},
		strings.Repeat("a, ", 49) + "a":                                   slices.Repeat([]api.TkItem{item("a")}, 50),
		"!#$%&'*+-.^_`|~;!#$%&'*+=.^_`|~":                                 {item("!#$%&'*+-.^_`|~", "!#$%&'*+", ".^_`|~")},
		`a;x="` + strings.Repeat("y", 65) + `";y=` + token + `;z="a, b"`:  {item("a", "x", strings.Repeat("y", 65), "y", token, "z", "a, b")},
		`a;x="` + strings.Repeat(`\"`, 500) + `", b;x="1;x=2";y="\\\"\\"`: {item("a", "x", strings.Repeat(`"`, 500)), item("b", "x", "1;x=2", "y", `\"\`)},
	} {
		checkPrint(t, l, v, api.OK)
		checkItems(t, v, l, api.OK)
	}
	checkPrint(t, []api.TkItem{}, "", api.OK)
	checkPrint(t, []api.TkItem{{Value: "a", Params: []api.TkParam{}}}, "a", api.OK)
}

func TestPrintOfWrongForms(t *testing.T) { // P5.5
	for _, s := range []string{"", " ", "a b", "a,", ";", `"a"`, "a\n", "é", "\xff", strings.Repeat("a", 65)} {
		checkPrint(t, []api.TkItem{item(s)}, "", api.ErrForm)
		checkPrint(t, []api.TkItem{item("a"), item(s), item("b")}, "", api.ErrForm)
		checkPrint(t, []api.TkItem{item("a", s, "1")}, "", api.ErrForm)
		checkPrint(t, []api.TkItem{item("a"), item("a", "x", "1", s, "1")}, "", api.ErrForm)
	}
	for _, name := range []string{"A", "Z", "xY", "X-y"} {
		checkPrint(t, []api.TkItem{item("a", name, "1")}, "", api.ErrForm)
	}
	for _, value := range []string{"\n", "a\x00", "\x7f", "\x1f ", "é", "\xff", strings.Repeat("a", 501), strings.Repeat(" ", 501)} {
		checkPrint(t, []api.TkItem{item("a", "x", value)}, "", api.ErrForm)
		checkPrint(t, []api.TkItem{item("a"), item("a", "x", "1", "y", value, "z", "")}, "", api.ErrForm)
	}
}

func TestPrintOfEachByte(t *testing.T) { // P5.5
	for c := range 256 {
		b := string([]byte{byte(c)})
		token := tokenLike.MatchString(b)
		text := c == 9 || c >= 32 && c <= 126
		q, _ := tokens.Quote(b)
		for _, x := range []struct {
			x    api.TkItem
			want string
			ok   bool
		}{
			{item(b), b, token},
			{item("a", b, "1"), "a;" + b + "=1", token && (c < 'A' || c > 'Z')},
			{item("a", "x", b), "a;x=" + q, text},
		} {
			if x.ok {
				checkPrint(t, []api.TkItem{x.x}, x.want, api.OK)
			} else {
				checkPrint(t, []api.TkItem{x.x}, "", api.ErrForm)
			}
		}
	}
}

func TestPrintOfSameNames(t *testing.T) { // P5.5
	checkPrint(t, []api.TkItem{item("a", "x", "1", "x", "2")}, "", api.ErrTwice)
	checkPrint(t, []api.TkItem{item("a", "x", "1"), item("b", "y", "1", "x", "1", "y", "1"), item("c")}, "", api.ErrTwice)
	checkPrint(t, []api.TkItem{item("a", "x", "1", "x", "2"), item("b", "X", "1")}, "", api.ErrForm)
	checkPrint(t, []api.TkItem{item("a", "x", "1", "x", "2"), item("")}, "", api.ErrForm)
	checkPrint(t, []api.TkItem{item("a", "x", "1", "x", "\n")}, "", api.ErrForm)
	checkPrint(t, []api.TkItem{item("a", "x", "1"), item("a", "x", "1")}, "a;x=1, a;x=1", api.OK)
}

func TestPrintOfTooMany(t *testing.T) { // P5.5
	_, most := params(20)
	_, many := params(21)
	same := slices.Repeat([]string{"x", "1"}, 21)
	checkPrint(t, slices.Repeat([]api.TkItem{item("a")}, 51), "", api.ErrLong)
	checkPrint(t, make([]api.TkItem, 51), "", api.ErrLong)
	checkPrint(t, make([]api.TkItem, 50), "", api.ErrForm)
	checkPrint(t, []api.TkItem{item("a", many...)}, "", api.ErrLong)
	checkPrint(t, []api.TkItem{item(""), item("a", same...)}, "", api.ErrLong)
	checkPrint(t, []api.TkItem{item("a", same[2:]...)}, "", api.ErrTwice)
	checkPrint(t, []api.TkItem{item("a", most...), item("a b", many...)}, "", api.ErrLong)
	checkPrint(t, []api.TkItem{item("a", "x", "1", "x", "1"), item("a", many...)}, "", api.ErrLong)
	checkPrint(t, []api.TkItem{{Value: "a", Params: make([]api.TkParam, 21)}}, "", api.ErrLong)
	checkPrint(t, []api.TkItem{{Value: "a", Params: make([]api.TkParam, 20)}}, "", api.ErrForm)
}

func TestPrintOfLongValues(t *testing.T) { // P5.5
	long := strings.Repeat(`\`, 500)
	x := item("a", "x", long)
	line := `a;x="` + long + long + `", `
	more := strings.Repeat("/", 490)
	fits := strings.Repeat("/", 2000-len(line)-len(`b;x="`+more+`", c;x=""`))
	checkPrint(t, []api.TkItem{x, item("b", "x", more), item("c", "x", fits)}, line+`b;x="`+more+`", c;x="`+fits+`"`, api.OK)
	checkPrint(t, []api.TkItem{x, item("b", "x", more), item("c", "x", fits+"/")}, "", api.ErrLong)
	checkPrint(t, []api.TkItem{x, item("b", "x", more), item("cc", "x", fits)}, "", api.ErrLong)
	checkPrint(t, []api.TkItem{x, x}, "", api.ErrLong)
	checkPrint(t, []api.TkItem{x, x, item("b", "x", "1", "x", "1")}, "", api.ErrTwice)
	checkPrint(t, []api.TkItem{x, x, item("b", "x", "\n")}, "", api.ErrForm)
	checkPrint(t, slices.Repeat([]api.TkItem{item(strings.Repeat("a", 64))}, 50), "", api.ErrLong)
}

// anyItems returns items without faults.
func anyItems(next func(n int) int) []api.TkItem {
	some := []string{"a", "B", "gzip", "x-1", "*", "0", "!#$%&'*+-.^_`|~"}
	names := []string{"q", "x", "charset", "k-2", "~", "z"}
	values := []string{"", "1", "0.5", "A", "a b", `"`, `\`, `\"`, ", b;c=d", "\t", "=", ";", "a,", strings.Repeat("v", 64), strings.Repeat("v", 65), strings.Repeat("\\", 30)}
	var l []api.TkItem
	for range next(6) {
		var x api.TkItem
		x.Value = some[next(len(some))]
		from := next(len(names))
		for i := range next(len(names)) {
			x.Params = append(x.Params, api.TkParam{Name: names[(from+i)%len(names)], Value: values[next(len(values))]})
		}
		l = append(l, x)
	}
	return l
}

func TestItemsOfPrint(t *testing.T) { // P5.5, P5.7
	next := numbers(3)
	for range 10000 {
		l := anyItems(next)
		var parts []string
		for _, x := range l {
			s := x.Value
			for _, p := range x.Params {
				q, _ := tokens.Quote(p.Value)
				s += ";" + p.Name + "=" + q
			}
			parts = append(parts, s)
		}
		v := strings.Join(parts, ", ")
		checkPrint(t, l, v, api.OK)
		checkItems(t, v, l, api.OK)
	}
}

func TestPrintOfItems(t *testing.T) { // P5.7
	next := numbers(4)
	for range 10000 {
		l, e := tokens.Items("a" + anyValue(next, 8))
		if e != api.OK {
			continue
		}
		v, e := tokens.Print(l)
		if e != api.OK {
			t.Errorf("Print(%q): %d", l, e)
		}
		checkItems(t, v, l, api.OK)
	}
}
