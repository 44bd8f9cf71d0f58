package headers_test

import (
	"slices"
	"strings"
	"testing"

	"spillway/api"
	"spillway/headers"
)

// without is the fields that have another name.
func without(l []api.HdField, name string) []api.HdField {
	return slices.DeleteFunc(slices.Clone(l), func(f api.HdField) bool { return same(f.Name, name) })
}

func TestGetAfterChanges(t *testing.T) { // P6.8
	next := numbers(4)
	for range 5000 {
		l, f := anyList(next), field("b-c", "new")
		before, _ := headers.Get(l, f.Name)
		x, e := headers.Set(l, f)
		checkGet(t, x, "B-C", []string{"new"}, e)
		checkList(t, "the others after Set", without(x, f.Name), e, without(l, f.Name), api.OK)
		checkSet(t, x, f, x, api.OK)
		x, e = headers.Add(l, f)
		checkGet(t, x, "B-C", append(before, "new"), e)
		checkList(t, "the others after Add", without(x, f.Name), e, without(l, f.Name), api.OK)
		x, e = headers.Del(l, f.Name)
		checkGet(t, x, "B-C", nil, e)
		checkList(t, "the others after Del", x, e, without(l, f.Name), api.OK)
		checkDel(t, x, f.Name, x, api.OK)
	}
}

func TestStripTwice(t *testing.T) { // P6.8
	next := numbers(5)
	for range 5000 {
		l := anyList(next)
		x, e := headers.Strip(l)
		if e != api.OK {
			t.Fatalf("Strip %s: %d", text(l), e)
		}
		checkStrip(t, x, x, api.OK)
		checkHop(t, x, nil, api.OK)
		names, _ := headers.Hop(l)
		for _, name := range names {
			checkGet(t, x, name, nil, api.OK)
		}
	}
}

// otherCase is s with some letters in the other case.
func otherCase(next func(n int) int, s string) string {
	b := []byte(s)
	for i, c := range b {
		if next(2) == 0 {
			b[i] = strings.ToUpper(string(c))[0]
		} else {
			b[i] = strings.ToLower(string(c))[0]
		}
	}
	return string(b)
}

// changed is a list with names in another case, also in the values of connection.
func changed(next func(n int) int, l []api.HdField) []api.HdField {
	l = slices.Clone(l)
	for i, f := range l {
		l[i].Name = otherCase(next, f.Name)
		if same(f.Name, "connection") {
			l[i].Value = otherCase(next, f.Value)
		}
	}
	return l
}

// folded is the list with all names in lower case, also in the values of connection.
func folded(l []api.HdField) []api.HdField {
	return changed(func(int) int { return 1 }, l)
}

func TestCaseOfNames(t *testing.T) { // P6.8
	next := numbers(6)
	for range 5000 {
		l := anyList(next)
		other := changed(next, l)
		for _, name := range []string{"a", "B-C", "Set-Cookie", "Host", "none"} {
			v, e := headers.Get(l, name)
			checkGet(t, other, otherCase(next, name), v, e)
			s, e := headers.Combined(l, name)
			checkCombined(t, other, otherCase(next, name), s, e)
			x, _ := headers.Del(l, name)
			y, e := headers.Del(other, otherCase(next, name))
			checkList(t, "Del", folded(y), e, folded(x), api.OK)
			x, _ = headers.Set(l, field(name, "new"))
			y, e = headers.Set(other, field(otherCase(next, name), "new"))
			checkList(t, "Set", folded(y), e, folded(x), api.OK)
		}
		names, e := headers.Hop(l)
		checkHop(t, other, names, e)
		x, _ := headers.Strip(l)
		y, e := headers.Strip(other)
		checkList(t, "Strip", folded(y), e, folded(x), api.OK)
		is, _ := headers.Same(folded(l), folded(other))
		if !is {
			t.Errorf("Same %s and %s: false", text(l), text(other))
		}
		for _, f := range l {
			c, e := headers.Canon(f.Name)
			checkCanon(t, otherCase(next, f.Name), c, e)
		}
	}
}
