package path

import (
	stdpath "path"
	"slices"
	"strings"
	"testing"

	"cellarer/api"
)

// each gives every text that begins with s and has at most n of the letters
// after it.
func each(letters string, n int, s string, f func(string)) {
	f(s)
	for i := 0; n > 0 && i < len(letters); i++ {
		each(letters, n-1, s+letters[i:i+1], f)
	}
}

func same(a, b []string) bool { return len(a) == len(b) && slices.Equal(a, b) }

// P2.1

func TestClean(t *testing.T) {
	for _, c := range []struct{ s, want string }{
		{"/", "/"},
		{"//", "/"},
		{"/a", "/a"},
		{"/a/", "/a"},
		{"/a//b/../c/.", "/a/c"},
		{"/.", "/"},
		{"/..", "/"},
		{"/../../a", "/a"},
		{"/a/..", "/"},
		{"/a/../..", "/"},
		{"/a/b/../../c", "/c"},
		{"/a/./../b", "/b"},
		{"/a/b/.././../c", "/c"},
		{"/a//../b", "/b"},
		{"/...", "/..."},
		{"/.a/..b/c../d.", "/.a/..b/c../d."},
		{"/!/~", "/!/~"},
		{"/A-Z_0+=\\*", "/A-Z_0+=\\*"},
	} {
		if got, e := Clean(c.s); got != c.want || e != api.OK {
			t.Errorf("Clean(%q): %q %d, want %q", c.s, got, e, c.want)
		}
	}
}

// For what begins with a slash the library's path.Clean says the same.
func TestCleanAll(t *testing.T) {
	each("/.ab", 7, "", func(s string) {
		want, wantE := "", api.EARG
		if strings.HasPrefix(s, "/") {
			want, wantE = stdpath.Clean(s), api.OK
		}
		if got, e := Clean(s); got != want || e != wantE {
			t.Fatalf("Clean(%q): %q %d, want %q %d", s, got, e, want, wantE)
		}
		if got := Right(s); got != (wantE == api.OK && want == s) {
			t.Fatalf("Right(%q): %v", s, got)
		}
	})
}

func TestCleanRefuses(t *testing.T) {
	long := strings.Repeat("x", 300)
	for _, s := range []string{"", "a", "a/b", ".", "..", "./a", " /a", "/a ", "/a b", "/a\n", "/a\x00", "/\t/..", "/ä", "/a\x7f", "a" + long, "/" + long + " "} {
		if got, e := Clean(s); got != "" || e != api.EARG {
			t.Errorf("Clean(%q): %q %d", s, got, e)
		}
		if Right(s) {
			t.Errorf("Right(%q)", s)
		}
	}
	for c := range 256 {
		s := "/a" + string([]byte{byte(c)}) + "b"
		_, e := Clean(s)
		if ok := 33 <= c && c <= 126; (e == api.OK) != ok || !ok && e != api.EARG {
			t.Errorf("byte %d: %d", c, e)
		}
		// What goes in the end is looked at too.
		if _, e := Clean(s + "/.."); (e == api.OK) != (33 <= c && c <= 126) {
			t.Errorf("byte %d in a part that goes: %d", c, e)
		}
	}
}

func TestCleanLong(t *testing.T) {
	most := "/" + strings.Repeat("x", 199)
	for _, c := range []struct {
		s, want string
		e       api.Errno
	}{
		{most, most, api.OK},
		{most + "/", most, api.OK},
		{most + "x", "", api.ELONG},
		{most + "/x", "", api.ELONG},
		{most + "/x/..", most, api.OK},
		{most + strings.Repeat("y", 1000) + "/../a", "/a", api.OK},
		{strings.Repeat("/.", 500), "/", api.OK},
		{strings.Repeat("/", 500) + "a", "/a", api.OK},
		{strings.Repeat("/a", 100), strings.Repeat("/a", 100), api.OK},
		{strings.Repeat("/a", 101), "", api.ELONG},
		{most + "xx\x7f", "", api.EARG},
	} {
		got, e := Clean(c.s)
		if got != c.want || e != c.e {
			t.Errorf("Clean of %d bytes: %d bytes, %d, want %d bytes, %d", len(c.s), len(got), e, len(c.want), c.e)
		}
		if Right(c.s) != (e == api.OK && got == c.s) {
			t.Errorf("Right of %d bytes: %v", len(c.s), Right(c.s))
		}
	}
}

func TestRight(t *testing.T) {
	for _, s := range []string{"/", "/a", "/a/b", "/.a/...", "/usr/bin/x.dpkg-new"} {
		if !Right(s) {
			t.Errorf("Right(%q): false", s)
		}
	}
	for _, s := range []string{"", "a", "//", "/a/", "/a//b", "/.", "/a/.", "/..", "/a/..", "/a/../b", "/a b"} {
		if Right(s) {
			t.Errorf("Right(%q): true", s)
		}
	}
}

func TestName(t *testing.T) {
	for _, s := range []string{"a", "z", "0", "9", "a-1.b", "g++", "0ad", "a.", "a-", "a+", strings.Repeat("a", 60)} {
		if !Name(s) {
			t.Errorf("Name(%q): false", s)
		}
	}
	for _, s := range []string{"", "-", ".", "+", "-a", ".a", "+a", "A", "aB", "a_b", "a/b", "/a", "a b", "a\n", "ä", "a\x00", strings.Repeat("a", 61)} {
		if Name(s) {
			t.Errorf("Name(%q): true", s)
		}
	}
	for c := range 256 {
		alone := 'a' <= c && c <= 'z' || '0' <= c && c <= '9'
		inside := alone || c == '+' || c == '-' || c == '.'
		b := string([]byte{byte(c)})
		if Name(b) != alone || Name(b+"a") != alone || Name("a"+b) != inside || Name("a"+b+"a") != inside {
			t.Errorf("byte %d", c)
		}
	}
}

// P2.2

func TestSplit(t *testing.T) {
	for _, c := range []struct{ s, dir, name string }{
		{"/a", "/", "a"},
		{"/a/b", "/a", "b"},
		{"/a/b/c", "/a/b", "c"},
		{"/", "/", ""},
		{"/a/", "/a", ""},
		{"//", "/", ""},
		{"//a", "/", "a"},
		{"/a//b", "/a/", "b"},
		{"a/b", "a", "b"},
		{"a/", "a", ""},
		{"a", "", "a"},
		{"", "", ""},
	} {
		if dir, name := Split(c.s); dir != c.dir || name != c.name {
			t.Errorf("Split(%q): %q %q", c.s, dir, name)
		}
	}
}

func TestJoin(t *testing.T) {
	for _, c := range []struct{ dir, name, want string }{
		{"/", "a", "/a"},
		{"/a", "b", "/a/b"},
		{"/a/", "b", "/a/b"},
		{"/a//", "b", "/a//b"},
		{"", "a", "/a"},
		{"", "", "/"},
		{"/", "", "/"},
		{"/a", "", "/a/"},
		{"a", "b/c", "a/b/c"},
		{"/a", "/b", "/a//b"},
		{"/a", "..", "/a/.."},
	} {
		if got := Join(c.dir, c.name); got != c.want {
			t.Errorf("Join(%q, %q): %q", c.dir, c.name, got)
		}
	}
}

func TestParts(t *testing.T) {
	for _, c := range []struct {
		s    string
		want []string
	}{
		{"", nil},
		{"/", nil},
		{"///", nil},
		{"/a", []string{"a"}},
		{"/a/b", []string{"a", "b"}},
		{"//a//b//", []string{"a", "b"}},
		{"/a/./../b", []string{"a", ".", "..", "b"}},
		{"/ /\n", []string{" ", "\n"}},
		{"a/b", []string{"a", "b"}},
		{"a", []string{"a"}},
	} {
		if got := Parts(c.s); !same(got, c.want) {
			t.Errorf("Parts(%q): %q", c.s, got)
		}
	}
}

func TestParents(t *testing.T) {
	for _, c := range []struct {
		s    string
		want []string
	}{
		{"", nil},
		{"/", nil},
		{"//", nil},
		{"/a", []string{"/"}},
		{"/a/b", []string{"/", "/a"}},
		{"/a/b/c", []string{"/", "/a", "/a/b"}},
		{"/aa/bb/cc/dd", []string{"/", "/aa", "/aa/bb", "/aa/bb/cc"}},
		{"//a//b/", []string{"/", "/a"}},
	} {
		if got := Parents(c.s); !same(got, c.want) {
			t.Errorf("Parents(%q): %q", c.s, got)
		}
	}
}

func TestUnder(t *testing.T) {
	for _, c := range []struct {
		dir, s string
		want   bool
	}{
		{"/", "/a", true},
		{"/", "/a/b", true},
		{"/", "/", false},
		{"/", "", false},
		{"/", "a", false},
		{"/a", "/a/b", true},
		{"/a", "/a/b/c", true},
		{"/a", "/a", false},
		{"/a", "/a/", false},
		{"/a", "/ab", false},
		{"/a", "/b/a/c", false},
		{"/a/b", "/a/c", false},
		{"/a/b", "/a", false},
		{"/a/", "/a/b", true},
		{"/a/", "/a/", false},
		{"/a/", "/ab", false},
		{"", "/a", true},
		{"", "/", false},
		{"", "a", false},
		{"a", "a/b", true},
	} {
		if got := Under(c.dir, c.s); got != c.want {
			t.Errorf("Under(%q, %q): %v", c.dir, c.s, got)
		}
	}
}

// P2.3

func TestSorted(t *testing.T) {
	for _, c := range []struct{ l, want []string }{
		{nil, nil},
		{[]string{}, nil},
		{[]string{"a"}, []string{"a"}},
		{[]string{"b", "a", "b"}, []string{"a", "b"}},
		{[]string{"a", "a", "a"}, []string{"a"}},
		{[]string{"/b", "/a/b", "/a-b", "/a"}, []string{"/a", "/a-b", "/a/b", "/b"}},
		{[]string{"", "b", "B", "", "ab", "\xff", "ä"}, []string{"", "B", "ab", "b", "ä", "\xff"}},
	} {
		if got := Sorted(c.l); !same(got, c.want) {
			t.Errorf("Sorted(%q): %q", c.l, got)
		}
	}
}

// The argument, and what lies behind its end, stay as they are; the result is
// new (rule 4).
func TestSortedKeepsItsArgument(t *testing.T) {
	all := []string{"c", "a", "c", "b", "z", "y"}
	before := slices.Clone(all)
	got := Sorted(all[:4])
	if !slices.Equal(all, before) {
		t.Errorf("changed: %q", all)
	}
	for i := range got {
		got[i] = "other"
	}
	if !slices.Equal(all, before) {
		t.Errorf("shared: %q", all)
	}
	rising := []string{"a", "b"}
	Sorted(rising)[0] = "other"
	if rising[0] != "a" {
		t.Error("shared, where nothing was to be sorted")
	}
}

// P2.4 and P2.5

func TestCleanIsRight(t *testing.T) {
	each("/.a~", 7, "", func(s string) {
		clean, e := Clean(s)
		if e != api.OK {
			return
		}
		if !Right(clean) {
			t.Fatalf("Clean(%q): %q is not right", s, clean)
		}
	})
}

func TestRightPaths(t *testing.T) {
	paths := []string{"/" + strings.Repeat("x", 199), strings.Repeat("/a", 100), strings.Repeat("/.a", 66)}
	each("/.ab", 7, "", func(s string) {
		if Right(s) {
			paths = append(paths, s)
		}
	})
	if len(paths) < 1000 {
		t.Fatalf("only %d paths", len(paths))
	}
	for _, s := range paths {
		if got := Join(Split(s)); got != s {
			t.Fatalf("Join(Split(%q)): %q", s, got)
		}
		whole := "/"
		for _, part := range Parts(s) {
			whole = Join(whole, part)
		}
		if whole != s {
			t.Fatalf("the parts of %q: %q", s, whole)
		}
		parents := Parents(s)
		if len(parents) != len(Parts(s)) {
			t.Fatalf("Parents(%q): %q", s, parents)
		}
		for _, dir := range parents {
			if !Right(dir) || !Under(dir, s) {
				t.Fatalf("Parents(%q): %q", s, dir)
			}
		}
	}
}
