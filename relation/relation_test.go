package relation

import (
	"math/rand/v2"
	"regexp"
	"slices"
	"strconv"
	"strings"
	"testing"

	"cellarer/api"
	"cellarer/version"
)

// each gives every text that begins with s and has at most n of the pieces
// after it.
func each(pieces []string, n int, s string, f func(string)) {
	f(s)
	for i := 0; n > 0 && i < len(pieces); i++ {
		each(pieces, n-1, s+pieces[i], f)
	}
}

func rel(l ...string) api.Rel {
	if len(l) == 1 {
		return api.Rel{Name: l[0]}
	}
	return api.Rel{Name: l[0], Op: l[1], Version: l[2]}
}

// rels are relations without operators.
func rels(names ...string) []api.Rel {
	var out []api.Rel
	for _, name := range names {
		out = append(out, rel(name))
	}
	return out
}

func groups(l ...[]api.Rel) [][]api.Rel { return l }

// singles is groups of one relation each.
func singles(l []api.Rel) [][]api.Rel {
	var out [][]api.Rel
	for i := range l {
		out = append(out, l[i:i+1:i+1])
	}
	return out
}

func same(a, b [][]api.Rel) bool {
	return slices.EqualFunc(a, b, func(x, y []api.Rel) bool { return slices.Equal(x, y) })
}

// many is n relations of different names.
func many(n int) []api.Rel {
	var out []api.Rel
	for i := range n {
		out = append(out, rel("a"+strconv.Itoa(i)))
	}
	return out
}

var (
	operators  = []string{"<<", "<=", "=", ">=", ">>"}
	longest    = strings.Repeat("a", 60)
	longestVer = strings.Repeat("1", 80)
)

// P7.1

// right are relations, and their texts.
var right = []struct {
	x api.Rel
	s string
}{
	{rel("a"), "a"},
	{rel("0.b+c-"), "0.b+c-"},
	{rel(longest), longest},
	{rel("a", "<<", "1"), "a (<< 1)"},
	{rel("a", "<=", "1"), "a (<= 1)"},
	{rel("a", "=", "1"), "a (= 1)"},
	{rel("a", ">=", "1"), "a (>= 1)"},
	{rel("a", ">>", "1"), "a (>> 1)"},
	{rel("g++", "<<", "0:1:2~rc-3-4"), "g++ (<< 0:1:2~rc-3-4)"},
	{rel("a", "=", longestVer), "a (= " + longestVer + ")"},
}

// wrong are relations that may not be.
var wrong = []api.Rel{
	{},
	rel("-"),
	rel("A"),
	rel("a b"),
	rel("a "),
	rel("a,"),
	rel(longest + "a"),
	rel("a", "", "1"),
	rel("a", "=", ""),
	rel("a", "<", "1"),
	rel("a", ">", "1"),
	rel("a", "==", "1"),
	rel("a", "!=", "1"),
	rel("a", "= ", "1"),
	rel("a", " ", "1"),
	rel("a", "=", "a"),
	rel("a", "=", "1-"),
	rel("a", "=", "1 "),
	rel("a", "=", " 1"),
	rel("a", "=", "1)"),
	rel("a", "=", longestVer+"1"),
	rel("", "=", "1"),
	rel("A", "=", "1"),
}

func TestRight(t *testing.T) {
	for _, c := range right {
		if !Right(c.x) {
			t.Errorf("Right(%q): false", c.x)
		}
	}
	for _, x := range wrong {
		if Right(x) {
			t.Errorf("Right(%q): true", x)
		}
	}
}

func TestText(t *testing.T) {
	for _, c := range right {
		if got := Text(c.x); got != c.s {
			t.Errorf("Text(%q): %q, want %q", c.x, got, c.s)
		}
	}
	// It is no matter whether a relation may be.
	for _, c := range []struct {
		x    api.Rel
		want string
	}{
		{api.Rel{}, ""},
		{rel("a", "", "1"), "a"},
		{rel("", "?", ""), " (? )"},
		{rel("A b", "<", "x y"), "A b (< x y)"},
	} {
		if got := Text(c.x); got != c.want {
			t.Errorf("Text(%q): %q, want %q", c.x, got, c.want)
		}
	}
}

func TestParse(t *testing.T) {
	for _, c := range right {
		if got, e := Parse(c.s); got != c.x || e != api.OK {
			t.Errorf("Parse(%q): %q %d, want %q", c.s, got, e, c.x)
		}
	}
	for _, s := range []string{
		"", " ", "A", "-a", "a ", " a", "a b", "a,", "a|b", "a | b", "a, b", "a\n", "a(>= 1)", "a  (>= 1)", "a ( >= 1)", "a (>= 1 )",
		"a (>=  1)", "a (>=1)", "a (>= 1", "a (>= 1))", "a (>= 1) ", " (>= 1)", "a (", "a ()", "a ( )", "a (=)", "a (= )", "a ( 1)", "a (1)",
		"a >= 1", "a (< 1)", "a (> 1)", "a (== 1)", "a (!= 1)", "a (>= a)", "a (>= 1-)", "a (>= 1) (>= 2)", "a (>= 1 2)", "a)", "a (>= (1)",
		longest + "a", "a (= " + longestVer + "1)",
	} {
		if got, e := Parse(s); got != (api.Rel{}) || e != api.EFORM {
			t.Errorf("Parse(%q): %q %d", s, got, e)
		}
	}
}

// P7.2

// written are groups, and their texts.
var written = []struct {
	l [][]api.Rel
	s string
}{
	{nil, ""},
	{groups(rels("a")), "a"},
	{groups(rels("a", "b")), "a | b"},
	{groups(rels("a"), rels("b")), "a, b"},
	{groups([]api.Rel{rel("a", ">=", "1"), rel("b")}, rels("c")), "a (>= 1) | b, c"},
	{groups(rels("c"), []api.Rel{rel("b"), rel("a", "<<", "2:1-1"), rel("b")}, rels("c")), "c, b | a (<< 2:1-1) | b, c"},
}

func TestAll(t *testing.T) {
	for _, c := range written {
		if got, e := All(c.l); got != c.s || e != api.OK {
			t.Errorf("All(%q): %q %d, want %q", c.l, got, e, c.s)
		}
		if got, e := ParseAll(c.s); !same(got, c.l) || e != api.OK {
			t.Errorf("ParseAll(%q): %q %d, want %q", c.s, got, e, c.l)
		}
	}
	if got, e := All([][]api.Rel{}); got != "" || e != api.OK {
		t.Errorf("All of no groups: %q %d", got, e)
	}
}

func TestAllRefuses(t *testing.T) {
	bad := rels("-")
	for _, l := range [][][]api.Rel{
		slices.Repeat(groups(rels("a")), 65),
		groups(many(65)),
		groups(many(64), many(65)),
		// Whatever else is wrong, wherever it is.
		make([][]api.Rel, 65),
		slices.Repeat(groups(bad), 65),
		groups(nil, bad, many(65)),
		groups(slices.Repeat(bad, 65)),
	} {
		if s, e := All(l); s != "" || e != api.EFULL {
			t.Errorf("All of %d groups: %q %d", len(l), s, e)
		}
	}
	lists := [][][]api.Rel{groups(nil), groups(rels()), groups(rels("a"), nil), make([][]api.Rel, 64)}
	for _, x := range wrong {
		lists = append(lists, groups([]api.Rel{x}), groups(rels("a", "b"), []api.Rel{rel("c"), x}), groups([]api.Rel{x, rel("a")}))
	}
	for _, l := range lists {
		if s, e := All(l); s != "" || e != api.EARG {
			t.Errorf("All(%q): %q %d", l, s, e)
		}
	}
}

func TestAllLimits(t *testing.T) {
	most := slices.Repeat(groups(many(64)), 64)
	s, e := All(most)
	if e != api.OK || strings.Count(s, ", ") != 63 || strings.Count(s, " | ") != 64*63 {
		t.Errorf("64 groups of 64: %d bytes %d", len(s), e)
	}
	if got, e := ParseAll(s); !same(got, most) || e != api.OK {
		t.Errorf("64 groups of 64: %d groups %d", len(got), e)
	}
	for _, s := range []string{
		s + ", a",
		s + " | a",
		strings.Repeat("a, ", 64) + "a",
		strings.Repeat("a | ", 64) + "a",
		"a, " + strings.Repeat("a | ", 64) + "a",
		strings.Repeat("a, ", 1000000) + "a",
		strings.Repeat("a | ", 1000000) + "a",
	} {
		if got, e := ParseAll(s); len(got) != 0 || e != api.EFORM {
			t.Errorf("ParseAll of %d bytes: %d groups %d", len(s), len(got), e)
		}
	}
}

// unread are texts of no groups, nor of relations.
var unread = []string{
	" ", ",", ", ", " | ", "|", "a,", "a, ", ", a", " a", "a ", "a,b", "a ,b", "a , b", "a,  b", "a, , b", "a,, b", "a, b,", "a, b, ",
	"a|b", "a| b", "a |b", "a |  b", "a  | b", "a | ", " | a", "a | | b", "a |  | b", "a || b", "a, | b", "a | , b", "a | b |", "a | b, ",
	"a\n", "a, b\n", "a;b", "A", "a, B", "a | B", "a (>= 1), b (> 1)", "a (>= 1), b (>= )", "a (>= 1, b)", "a (>= 1 | b)",
}

func TestParseAllRefuses(t *testing.T) {
	for _, s := range unread {
		if got, e := ParseAll(s); len(got) != 0 || e != api.EFORM {
			t.Errorf("ParseAll(%q): %q %d", s, got, e)
		}
	}
}

func TestList(t *testing.T) {
	for _, c := range []struct {
		l []api.Rel
		s string
	}{
		{nil, ""},
		{[]api.Rel{}, ""},
		{rels("a"), "a"},
		{rels("b", "a", "b"), "b, a, b"},
		{[]api.Rel{rel("a", ">>", "1"), rel("b"), rel("c", "=", "2-3")}, "a (>> 1), b, c (= 2-3)"},
		{many(64), strings.ReplaceAll(strings.TrimSpace(texts(many(64))), " ", ", ")},
	} {
		if got, e := List(c.l); got != c.s || e != api.OK {
			t.Errorf("List(%q): %q %d, want %q", c.l, got, e, c.s)
		}
		if got, e := ParseList(c.s); !slices.Equal(got, c.l) || e != api.OK {
			t.Errorf("ParseList(%q): %q %d, want %q", c.s, got, e, c.l)
		}
	}
}

// texts are the names of relations, a blank after each.
func texts(l []api.Rel) string {
	s := ""
	for _, x := range l {
		s += x.Name + " "
	}
	return s
}

func TestListRefuses(t *testing.T) {
	for _, l := range [][]api.Rel{many(65), slices.Repeat(rels("-"), 65), make([]api.Rel, 1000)} {
		if s, e := List(l); s != "" || e != api.EFULL {
			t.Errorf("List of %d: %q %d", len(l), s, e)
		}
	}
	for _, x := range wrong {
		for _, l := range [][]api.Rel{{x}, {x, rel("a")}, {rel("a"), x}, slices.Repeat([]api.Rel{x}, 64)} {
			if s, e := List(l); s != "" || e != api.EARG {
				t.Errorf("List(%q): %q %d", l, s, e)
			}
		}
	}
	for _, s := range append([]string{"a | b", "a, b | c", "a | b, c", strings.Repeat("a, ", 64) + "a"}, unread...) {
		if got, e := ParseList(s); len(got) != 0 || e != api.EFORM {
			t.Errorf("ParseList(%.40q): %q %d", s, got, e)
		}
	}
}

// P7.3

func TestFits(t *testing.T) {
	versions := []string{"", "0", "1~", "1", "0:1-0", "1-1", "2", "1:0", "a", "1-"}
	for _, v := range versions {
		for _, other := range versions {
			for _, op := range append([]string{"", "<", ">", "==", "a"}, operators...) {
				want := version.Holds(v, op, other)
				if got := Fits(rel("a", op, other), "a", v); got != want {
					t.Errorf("Fits(a (%s %s), a, %s): %v", op, other, v, got)
				}
				if Fits(rel("a", op, other), "b", v) || Fits(rel("a", op, other), "A", v) || Fits(rel("a", op, other), "", v) {
					t.Errorf("a (%s %s) fits another name", op, other)
				}
			}
		}
	}
	for _, c := range []struct {
		x       api.Rel
		name, v string
		want    bool
	}{
		{rel("a"), "a", "1", true},
		{rel("a"), "a", "", true},
		{rel("a"), "ab", "1", false},
		{rel("a", ">=", "1"), "a", "1", true},
		{rel("a", ">>", "1"), "a", "1", false},
		{rel("a", ">>", "1"), "a", "1.1", true},
		{rel("a", "<<", "1"), "a", "1~rc1", true}, // the package's version stands on the left
		{rel("a", "<<", "1"), "a", "2", false},
		{rel("a", "=", "1"), "a", "0:01", true},
		{api.Rel{}, "", "", true},
	} {
		if got := Fits(c.x, c.name, c.v); got != c.want {
			t.Errorf("Fits(%q, %q, %q): %v", c.x, c.name, c.v, got)
		}
	}
}

func there(l ...string) []api.Rel {
	var out []api.Rel
	for i := 0; i < len(l); i += 2 {
		out = append(out, api.Rel{Name: l[i], Version: l[i+1]})
	}
	return out
}

func TestLacks(t *testing.T) {
	l := groups(
		rels("a"),
		rels("b", "c"),
		[]api.Rel{rel("a", ">=", "2"), rel("b", "<<", "1")},
		[]api.Rel{rel("c", "=", "1")},
		nil,
	)
	for _, c := range []struct {
		there []api.Rel
		want  []int
	}{
		{nil, []int{0, 1, 2, 3, 4}},
		{there("d", "1"), []int{0, 1, 2, 3, 4}},
		{there("a", "1"), []int{1, 2, 3, 4}},
		{there("a", "2"), []int{1, 3, 4}},
		{there("b", "1"), []int{0, 2, 3, 4}},
		{there("b", "1~"), []int{0, 3, 4}},
		{there("c", "1"), []int{0, 2, 4}},
		{there("c", "1.0"), []int{0, 2, 3, 4}},
		{there("c", "1-0", "b", "0", "a", "0"), []int{4}},
		{there("a", "1", "a", "2"), []int{1, 3, 4}},
		// Of what is there the operator is of no matter.
		{[]api.Rel{rel("a", "<<", "2")}, []int{1, 3, 4}},
		{[]api.Rel{rel("a", "?", "1")}, []int{1, 2, 3, 4}},
	} {
		if got := Lacks(l, c.there); !slices.Equal(got, c.want) {
			t.Errorf("Lacks with %q: %v, want %v", c.there, got, c.want)
		}
	}
	if got := Lacks(nil, there("a", "1")); len(got) != 0 {
		t.Errorf("Lacks of no groups: %v", got)
	}
	// Neither limits nor forms are asked for.
	if got := Lacks(singles(many(100)), many(99)); !slices.Equal(got, []int{99}) {
		t.Errorf("Lacks of 100 groups: %v", got)
	}
	if got := Lacks(groups([]api.Rel{{}}, []api.Rel{rel("a", "<", "1")}), []api.Rel{{}, rel("a")}); !slices.Equal(got, []int{1}) {
		t.Errorf("Lacks of wrong relations: %v", got)
	}
}

// P7.4

// forms are the texts of groups, but for limits.
var forms = func() *regexp.Regexp {
	const (
		relation = `[a-z0-9][a-z0-9+.-]*( \((<<|<=|=|>=|>>) [0-9][A-Za-z0-9.+~-]*\))?`
		group    = relation + `( \| ` + relation + `)*`
	)
	return regexp.MustCompile(`^(` + group + `(, ` + group + `)*)?$`)
}()

// What is read is written in the same way: all texts of a few pieces.
func TestReadIsWritten(t *testing.T) {
	count := 0
	each([]string{"a", "1", "-", " (", "=", ">", " ", ")", "|", ",", " | ", ", ", " (>= 1)"}, 5, "", func(s string) {
		want := forms.MatchString(s) && !strings.Contains(s, "-)") // a version's revision isn't empty
		l, e := ParseAll(s)
		if want != (e == api.OK) || !want && (e != api.EFORM || l != nil) {
			t.Fatalf("ParseAll(%q): %q %d", s, l, e)
		}
		if again, e := All(l); want && (again != s || e != api.OK) {
			t.Fatalf("All(%q): %q %d, want %q", l, again, e, s)
		}
		one, e := ParseList(s)
		if want = want && !strings.Contains(s, "|"); want != (e == api.OK) || want && !same(singles(one), l) || !want && (e != api.EFORM || one != nil) {
			t.Fatalf("ParseList(%q): %q %d", s, one, e)
		}
		if again, e := List(one); want && (again != s || e != api.OK) {
			t.Fatalf("List(%q): %q %d, want %q", one, again, e, s)
		}
		x, e := Parse(s)
		if want = want && len(one) == 1; want != (e == api.OK) || want && (x != one[0] || Text(x) != s) {
			t.Fatalf("Parse(%q): %q %d", s, x, e)
		}
		if want {
			count++
		}
	})
	if count < 100 {
		t.Fatalf("only %d relations", count)
	}
}

// drawn is a right relation.
func drawn(r *rand.Rand) api.Rel {
	x := rel([]string{"a", "b", "c+", "0.d", "lib-e"}[r.IntN(5)])
	if r.IntN(3) > 0 {
		x.Op = operators[r.IntN(5)]
		x.Version = []string{"1", "2", "1.10", "1:1-1", "2~b", "0:1-0"}[r.IntN(6)]
	}
	return x
}

// drawnGroups is at most n groups.
func drawnGroups(r *rand.Rand, n int) [][]api.Rel {
	var l [][]api.Rel
	for range r.IntN(n + 1) {
		var group []api.Rel
		for range 1 + r.IntN(4) {
			group = append(group, drawn(r))
		}
		l = append(l, group)
	}
	return l
}

func TestWrittenIsRead(t *testing.T) {
	r := rand.New(rand.NewPCG(7, 4))
	for range 5000 {
		l := drawnGroups(r, 6)
		s, e := All(l)
		if e != api.OK {
			t.Fatalf("All(%q): %d", l, e)
		}
		if again, e := ParseAll(s); !same(again, l) || e != api.OK {
			t.Fatalf("ParseAll(%q): %q %d, want %q", s, again, e, l)
		}
		for _, group := range l {
			s, e := List(group)
			if again, e2 := ParseList(s); !slices.Equal(again, group) || e != api.OK || e2 != api.OK {
				t.Fatalf("ParseList(%q): %q %d, want %q", s, again, e2, group)
			}
			if again, e := Parse(Text(group[0])); again != group[0] || e != api.OK {
				t.Fatalf("Parse(%q): %q %d", Text(group[0]), again, e)
			}
		}
	}
}

// P7.5

func TestMorePackagesLackNoMore(t *testing.T) {
	r := rand.New(rand.NewPCG(7, 5))
	for range 2000 {
		l := drawnGroups(r, 8)
		var all []api.Rel
		before := Lacks(l, nil)
		for range 8 {
			all = slices.Insert(all, r.IntN(len(all)+1), drawn(r))
			now := Lacks(l, all)
			for _, i := range now {
				if !slices.Contains(before, i) {
					t.Fatalf("Lacks(%q, %q): %v, before %v", l, all, now, before)
				}
			}
			before = now
		}
	}
}

// Arguments stay as they are, with what lies behind their ends (rule 4); what
// is added to one list that ParseAll gave is in none of its others.
func TestLists(t *testing.T) {
	spare := many(4)
	l := groups(spare[:2], spare[:3], nil)
	All(l[:2])
	All(l)
	List(spare[:2])
	Lacks(l, spare[:1])
	if !slices.Equal(spare, many(4)) || !same(l, groups(spare[:2], spare[:3], nil)) {
		t.Errorf("changed: %q", l)
	}
	const s = "a | b | c, d"
	got, _ := ParseAll(s)
	_ = append(got[0], rel("x"))
	if again, e := All(got); again != s || e != api.OK {
		t.Errorf("shared: %q", again)
	}
}
