package keyed

import (
	"slices"
	"strings"
	"testing"

	"cellarer/api"
)

// pair has a key, and something that tells it from others of its key.
type pair struct {
	k string
	n int
}

func key(x pair) string { return x.k }

// pairs has an element for each letter, numbered from 1 on.
func pairs(letters string) []pair {
	var out []pair
	for i, c := range letters {
		out = append(out, pair{string(c), i + 1})
	}
	return out
}

func rising(n int) []pair {
	var out []pair
	for i := range n {
		out = append(out, pair{strings.Repeat("a", i), i})
	}
	return out
}

func TestCheck(t *testing.T) {
	small := func(x pair) bool { return x.n < 1000 }
	for _, c := range []struct {
		l    []pair
		want api.Errno
	}{
		{nil, api.OK},
		{pairs("a"), api.OK},
		{pairs("ab"), api.OK},
		{pairs("aa"), api.EARG},
		{pairs("ba"), api.EARG},
		{pairs("abdc"), api.EARG},
		{[]pair{{"", 0}}, api.OK},
		{[]pair{{"a", 1000}}, api.EARG},
		{[]pair{{"a", 0}, {"b", 1000}}, api.EARG},
		{[]pair{{"Z", 0}, {"a", 0}, {"a\x00", 0}, {"\xff", 0}}, api.OK},
		{rising(64), api.OK},
		{rising(65), api.EFULL},
		{slices.Repeat([]pair{{"a", 1000}}, 65), api.EFULL},
	} {
		if got := Check(c.l, key, small); got != c.want {
			t.Errorf("Check(%v): %d, want %d", c.l, got, c.want)
		}
	}
	if Check([]string{"a", "b"}, Itself, func(string) bool { return true }) != api.OK {
		t.Error("Check of texts")
	}
}

func TestFind(t *testing.T) {
	for _, c := range []struct {
		letters, k string
		want       int
	}{
		{"", "a", -1},
		{"abab", "b", 1},
		{"abab", "a", 0},
		{"ab", "c", -1},
		{"ab", "", -1},
	} {
		if got := Find(pairs(c.letters), key, c.k); got != c.want {
			t.Errorf("Find(%q, %q): %d", c.letters, c.k, got)
		}
	}
}

func TestPut(t *testing.T) {
	x := pair{"c", 0}
	for _, c := range []struct {
		letters string
		want    []pair
	}{
		{"", []pair{x}},
		{"a", []pair{{"a", 1}, x}},
		{"d", []pair{x, {"d", 1}}},
		{"bd", []pair{{"b", 1}, x, {"d", 2}}},
		{"acd", []pair{{"a", 1}, x, {"d", 3}}},
		{"cc", []pair{x, {"c", 2}}},
		{"dbc", []pair{{"d", 1}, {"b", 2}, x}},
		{"bdae", []pair{{"b", 1}, x, {"d", 2}, {"a", 3}, {"e", 4}}},
	} {
		l := pairs(c.letters)
		spare := append(slices.Clone(l), pair{"spare", -1})
		if got := Put(spare[:len(l)], key, x); !slices.Equal(got, c.want) {
			t.Errorf("Put(%q): %v, want %v", c.letters, got, c.want)
		}
		if !slices.Equal(spare, append(l, pair{"spare", -1})) {
			t.Errorf("Put(%q) changed what it was given: %v", c.letters, spare)
		}
	}
}

func TestPutByEmptyKeys(t *testing.T) {
	none, a := pair{"", 1}, pair{"a", 2}
	for _, c := range []struct {
		l    []pair
		x    pair
		want []pair
	}{
		{[]pair{a}, none, []pair{none, a}},
		{[]pair{none}, a, []pair{none, a}},
		{[]pair{none, a}, pair{"", 3}, []pair{{"", 3}, a}},
	} {
		if got := Put(c.l, key, c.x); !slices.Equal(got, c.want) {
			t.Errorf("Put(%v, %v): %v, want %v", c.l, c.x, got, c.want)
		}
	}
}

func TestDrop(t *testing.T) {
	for _, c := range []struct {
		letters, k string
		want       []pair
	}{
		{"", "a", nil},
		{"a", "a", nil},
		{"aba", "a", []pair{{"b", 2}}},
		{"aba", "b", []pair{{"a", 1}, {"a", 3}}},
		{"ab", "c", []pair{{"a", 1}, {"b", 2}}},
	} {
		l := pairs(c.letters)
		if got := Drop(l, key, c.k); !slices.Equal(got, c.want) {
			t.Errorf("Drop(%q, %q): %v, want %v", c.letters, c.k, got, c.want)
		}
		if !slices.Equal(l, pairs(c.letters)) {
			t.Errorf("Drop(%q, %q) changed what it was given: %v", c.letters, c.k, l)
		}
	}
}
