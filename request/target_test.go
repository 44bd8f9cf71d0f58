package request_test

import (
	"strings"
	"testing"

	"spillway/api"
	"spillway/request"
)

func checkSplit(t *testing.T, s, path, query string, has bool, e api.Errno) {
	t.Helper()
	if p, q, h, got := request.Split(s); p != path || q != query || h != has || got != e {
		t.Errorf("Split(%.80q): %q, %q, %v, %d, want %q, %q, %v, %d", s, p, q, h, got, path, query, has, e)
	}
}

func checkClean(t *testing.T, s, want string, e api.Errno) {
	t.Helper()
	if got, n := request.Clean(s); got != want || n != e {
		t.Errorf("Clean(%.80q): %.80q, %d, want %.80q, %d", s, got, n, want, e)
	}
}

// compareTarget fails if a function of targets does not return what the model does.
func compareTarget(t *testing.T, s string) {
	t.Helper()
	path, query, has, e := split(s)
	checkSplit(t, s, path, query, has, e)
	want, e := clean(s)
	checkClean(t, s, want, e)
}

func TestSplitOfExamples(t *testing.T) { // P7.2
	checkSplit(t, "/", "/", "", false, api.OK)
	checkSplit(t, "/a", "/a", "", false, api.OK)
	checkSplit(t, "/a?", "/a", "", true, api.OK)
	checkSplit(t, "/a?b", "/a", "b", true, api.OK)
	checkSplit(t, "/?b?c", "/", "b?c", true, api.OK)
	checkSplit(t, "/??", "/", "?", true, api.OK)
	checkSplit(t, "/%3f/%3F?%3f", "/%3f/%3F", "%3f", true, api.OK)
	checkSplit(t, "/a/../b%7e?x", "/a/../b%7e", "x", true, api.OK)
	checkSplit(t, "/a?/../%7e", "/a", "/../%7e", true, api.OK)
}

func TestCleanOfExamples(t *testing.T) { // P7.2
	for s, want := range map[string]string{
		"/":                     "/",
		"/?":                    "/?",
		"/a":                    "/a",
		"/a/../b%7e?x":          "/b~?x",
		"/a/b/..":               "/a/",
		"/a/b/../":              "/a/",
		"/a/b/../c":             "/a/c",
		"/..":                   "/",
		"/../":                  "/",
		"/.":                    "/",
		"/./":                   "/",
		"/%2e/x":                "/x",
		"/%2e%2E/x":             "/x",
		"/a/%2E.":               "/",
		"/a/b/c/./../../g":      "/a/g",
		"/mid/content=5/../6":   "/mid/6",
		"/a/../../../b":         "/b",
		"//":                    "//",
		"///..":                 "//",
		"//../a":                "/a",
		"/a//b":                 "/a//b",
		"/a/./b":                "/a/b",
		"/a/.":                  "/a/",
		"/a/./":                 "/a/",
		"/...":                  "/...",
		"/.a/..a/a./a..":        "/.a/..a/a./a..",
		"/a%2fb":                "/a%2Fb",
		"/%2f..":                "/%2F..",
		"/a/b%2f..":             "/a/b%2F..",
		"/%41%5A%61%7a%30%39":   "/AZaz09",
		"/%2d%2E%5f%7E":         "/-._~",
		"/%21%24%26%27%28%29":   "/%21%24%26%27%28%29",
		"/%2a%2b%2c%3b%3d%3a":   "/%2A%2B%2C%3B%3D%3A",
		"/%40%2f%3f%25%23":      "/%40%2F%3F%25%23",
		"/%00%ff%Fe%eF":         "/%00%FF%FE%EF",
		"/%2541":                "/%2541",
		"/%25%34%31":            "/%2541",
		"/%25%32e":              "/%252e",
		"/%c3%a9":               "/%C3%A9",
		"/a?%7e%2f/../.":        "/a?~%2F/../.",
		"/..?..":                "/?..",
		"/.?/.":                 "/?/.",
		"/a/..?":                "/?",
		"/!$&'()*+,;=:@":        "/!$&'()*+,;=:@",
		"/?!$&'()*+,;=:@/?":     "/?!$&'()*+,;=:@/?",
		"/%2e%2e%2f..":          "/..%2F..",
		"/a/b/%2e%2e?x=%2e%2E/": "/a/?x=../",
	} {
		checkClean(t, s, want, api.OK)
	}
}

func TestTargetsThatAreNotInOriginForm(t *testing.T) { // P7.2
	for _, s := range []string{"", "a", "a/", "*", "?", "?/", "?a", "%2f", "%2F/", "http://h/", "h:80", " /", "/ ", "/#", "/a#b", "/?#", "/%", "/%4", "/a%", "/%g0", "/%0g", "/%%41", "/%4%41", "/?%", "/?%4", "/%?41", "/%4?1", "/% 1", "/%+1", "/%-1", "/%_1", "/%0x", "/\"", "/<", "/>", "/[", "/\\", "/]", "/^", "/`", "/{", "/|", "/}", "/\x7f", "/\x80", "/é", "/\xff", "/\x00", "/\t", "/\r\n"} {
		checkSplit(t, s, "", "", false, api.ErrForm)
		checkClean(t, s, "", api.ErrForm)
		checkCheck(t, withTarget(s), "target", api.ErrForm)
	}
}

func TestLongTargets(t *testing.T) { // P7.2
	for _, c := range []string{"a", "/", "?", "#", "%", " ", "."} {
		for n := 498; n < 504; n++ {
			compareTarget(t, "/"+strings.Repeat(c, n-1))
			compareTarget(t, strings.Repeat(c, n))
		}
	}
	long := "/" + strings.Repeat("a", 499)
	checkSplit(t, long, long, "", false, api.OK)
	checkClean(t, long, long, api.OK)
	for _, s := range []string{long + "a", long + "#", strings.Repeat("#", 501), long + "?", strings.Repeat("/.", 1<<20)} {
		checkSplit(t, s, "", "", false, api.ErrLong)
		checkClean(t, s, "", api.ErrLong)
		checkCheck(t, withTarget(s), "target", api.ErrLong)
	}
	checkClean(t, "/"+strings.Repeat("a/../", 99)+"%41", "/A", api.OK)
	checkClean(t, strings.Repeat("/%41%2f", 71), strings.Repeat("/A%2F", 71), api.OK)
}

func TestTargetsOfEachByte(t *testing.T) { // P7.2
	for a := range 256 {
		c := string([]byte{byte(a)})
		for _, s := range []string{c, c + "/", "/" + c, "/" + c + "a", "/a?" + c, "/a?" + c + "b", "/%" + c + "1", "/%4" + c, "/?%" + c + "f", "/?%a" + c} {
			compareTarget(t, s)
		}
		for b := range 256 {
			compareTarget(t, "/%"+string([]byte{byte(a), byte(b)})+"/x")
		}
	}
}

func TestAllShortTargets(t *testing.T) { // P7.2
	each("/.?%2eEg", 6, func(s string) { compareTarget(t, "/"+s) })
	each("/.?%2f", 5, func(s string) { compareTarget(t, s) })
}

func TestAllShortPaths(t *testing.T) { // P7.2
	each("/.a", 9, func(s string) { compareTarget(t, "/"+s) })
}

// segments are what the paths of random targets are made of.
var segments = []string{"", ".", "..", "...", "a", "b", "%2e", "%2E%2e", ".%2e", "%2f..", "a%7Eb", "%2541", "%c3%A9", "=;@"}

// anyTarget is a target that looks like a random one.
func anyTarget(next func(n int) int) string {
	var b strings.Builder
	for range 1 + next(8) {
		b.WriteString("/" + segments[next(len(segments))])
	}
	if next(3) == 0 {
		b.WriteString("?" + segments[next(len(segments))] + "/" + segments[next(len(segments))])
	}
	return b.String()
}

func TestManyTargets(t *testing.T) { // P7.2
	next := numbers(1)
	for range 50000 {
		s := anyTarget(next)
		compareTarget(t, s)
		i := next(len(s))
		compareTarget(t, s[:i]+string([]byte{byte(next(256))})+s[i+1:])
	}
}

func TestNormalFormOfNormalForms(t *testing.T) { // P7.9
	compare := func(s string) {
		x, e := request.Clean(s)
		if e != api.OK {
			return
		}
		checkClean(t, x, x, api.OK)
		path, _, _ := strings.Cut(x, "?")
		for _, segment := range strings.Split(path, "/") {
			if segment == "." || segment == ".." {
				t.Errorf("Clean(%q): %q has a segment %s", s, x, segment)
			}
		}
		for _, pair := range pairLike.FindAllString(x, -1) {
			if pair != strings.ToUpper(pair) || decode(pair) != pair {
				t.Errorf("Clean(%q): %q has %s", s, x, pair)
			}
		}
	}
	each("/.?%2eE", 6, func(s string) { compare("/" + s) })
	next := numbers(2)
	for range 20000 {
		compare(anyTarget(next))
	}
	for a := range 256 {
		for b := range 256 {
			compare("/%" + string([]byte{byte(a), byte(b)}))
			compare("/%25" + string([]byte{byte(a), byte(b)}))
		}
	}
}
