package script_test

import (
	"fmt"
	"math/rand/v2"
	"reflect"
	"strings"
	"testing"

	"cellarer/api"
	"cellarer/script"
)

const most = 1 << 30 // of the numbers of lines

var (
	longestName    = strings.Repeat("n", 60)
	longestPath    = "/" + strings.Repeat("p", 199)
	longestLink    = "/" + strings.Repeat("l", 190)
	longestVersion = strings.Repeat("v", 80)
	longestText    = strings.Repeat("\x00\xff", 2048)
)

// show is all of something as a text, in which lists that are nil and empty are
// alike; whole is that with what is behind the ends of lists.
func show(x any) string { return told(x, false) }

func whole(x any) string { return told(x, true) }

func told(x any, whole bool) string {
	var out strings.Builder
	var tell func(reflect.Value)
	tell = func(v reflect.Value) {
		switch v.Kind() {
		case reflect.Struct:
			for i := range v.NumField() {
				tell(v.Field(i))
			}
		case reflect.Slice:
			n := v.Len()
			if whole {
				v = v.Slice(0, v.Cap())
			}
			fmt.Fprintf(&out, "%d[", n)
			for i := range v.Len() {
				tell(v.Index(i))
			}
			out.WriteString("]")
		default:
			fmt.Fprintf(&out, "%#v ", v)
		}
	}
	tell(reflect.ValueOf(x))
	return out.String()
}

func same(a, b any) bool { return show(a) == show(b) }

// spared is a copy of which each list has something behind its end, which nobody
// may touch; a list that has nothing is not nil.
func spared[T any](x T) T {
	out := reflect.New(reflect.TypeOf(x)).Elem()
	copied(out, reflect.ValueOf(x))
	return out.Interface().(T)
}

func copied(to, from reflect.Value) {
	switch from.Kind() {
	case reflect.Struct:
		for i := range from.NumField() {
			copied(to.Field(i), from.Field(i))
		}
	case reflect.Slice:
		l := reflect.MakeSlice(from.Type(), from.Len()+2, from.Len()+2)
		for i := range from.Len() {
			copied(l.Index(i), from.Index(i))
		}
		if l.Index(from.Len()).Kind() == reflect.String {
			l.Index(from.Len()).SetString("spare")
		}
		to.Set(l.Slice(0, from.Len()))
	default:
		to.Set(from)
	}
}

// isLine holds all calls about lines to a line that may be, and its text.
func isLine(t *testing.T, x api.Line, text string) {
	t.Helper()
	for _, x := range []api.Line{x, spared(x)} {
		before := whole(x)
		if !script.Right(x) {
			t.Errorf("not right: %+v", x)
		}
		if got := script.Text(x); got != text {
			t.Errorf("%+v is %q, want %q", x, got, text)
		}
		if whole(x) != before {
			t.Errorf("changed: %+v", x)
		}
	}
	if got, ok := script.Line(text); !ok || !same(got, x) {
		t.Errorf("%q is %+v %t, want %+v", text, got, ok, x)
	}
}

// noLine holds them to one that may not be.
func noLine(t *testing.T, x api.Line) {
	t.Helper()
	for _, x := range []api.Line{x, spared(x)} {
		before := whole(x)
		if script.Right(x) {
			t.Errorf("right: %+v", x)
		}
		if got := script.Text(x); got != "" {
			t.Errorf("%+v is %q", x, got)
		}
		if whole(x) != before {
			t.Errorf("changed: %+v", x)
		}
	}
}

// held holds them to a line, and its text if it may be.
func held(t *testing.T, x api.Line, right bool, text string) {
	t.Helper()
	if right {
		isLine(t, x, text)
	} else {
		noLine(t, x)
	}
}

// noText holds Line to a text that is none of a line.
func noText(t *testing.T, text string) {
	t.Helper()
	if got, ok := script.Line(text); ok || !same(got, api.Line{}) {
		t.Errorf("%q is %+v %t", text, got, ok)
	}
}

// isAct, and those that follow, hold the calls about commands likewise.
func isAct(t *testing.T, a api.Act, text string) {
	t.Helper()
	for _, a := range []api.Act{a, spared(a)} {
		before := whole(a)
		if got := script.ActText(a); got != text {
			t.Errorf("%+v is %q, want %q", a, got, text)
		}
		if whole(a) != before {
			t.Errorf("changed: %+v", a)
		}
	}
	if got, ok := script.Act(text); !ok || !same(got, a) {
		t.Errorf("%q is %+v %t, want %+v", text, got, ok, a)
	}
}

func noAct(t *testing.T, a api.Act) {
	t.Helper()
	if got := script.ActText(a); got != "" {
		t.Errorf("%+v is %q", a, got)
	}
}

func noActText(t *testing.T, text string) {
	t.Helper()
	if got, ok := script.Act(text); ok || !same(got, api.Act{}) {
		t.Errorf("%q is %+v %t", text, got, ok)
	}
}

// fields hands on a copy of something for each field that is empty in it, with
// that field set; and the field's name.
func fields[T any](x T, look func(name string, x T)) {
	var walk func(v reflect.Value, name string)
	whole := reflect.New(reflect.TypeOf(x)).Elem()
	whole.Set(reflect.ValueOf(x))
	walk = func(v reflect.Value, name string) {
		for i := range v.NumField() {
			f, name := v.Field(i), strings.TrimPrefix(name+"."+v.Type().Field(i).Name, ".")
			if f.Kind() == reflect.Struct {
				walk(f, name)
				continue
			}
			if !f.IsZero() {
				continue
			}
			switch f.Kind() {
			case reflect.String:
				f.SetString("a")
			case reflect.Int:
				f.SetInt(1)
			case reflect.Bool:
				f.SetBool(true)
			case reflect.Slice:
				f.Set(reflect.MakeSlice(f.Type(), 1, 1))
			}
			look(name, whole.Interface().(T))
			f.SetZero()
		}
	}
	walk(whole, "")
}

// dice makes what is random, and the text that it is to have.
type dice struct{ *rand.Rand }

func pick[T any](r dice, l ...T) T { return l[r.IntN(len(l))] }

// flag is whether a flag is set, and the word for that.
func (r dice) flag(set, unset string) (bool, string) {
	if r.IntN(2) == 0 {
		return true, set
	}
	return false, unset
}

// maybe is a text, or none of it, and the word for that.
func (r dice) maybe(l ...string) (string, string) {
	if s := pick(r, append(l, "")...); s != "" {
		return s, s
	}
	return "", "-"
}

func (r dice) place() string {
	return pick(r, "/a", "/b/c", "/-", "/a.distrib", "/etc/x!~", longestPath)
}

func (r dice) pkg() string { return pick(r, "a", "b.c+d-e", "0", longestName) }

func (r dice) link() string { return pick(r, "/a", "/bin/-", longestLink) }

func (r dice) meta() (api.Meta, string) {
	m := api.Meta{Mode: r.IntN(4096), Uid: pick(r, 0, 7, api.MaxId), Gid: pick(r, 0, 1000, api.MaxId)}
	return m, fmt.Sprintf("%04o %d %d", m.Mode, m.Uid, m.Gid)
}

func (r dice) act() (api.Act, string) {
	a := api.Act{Kind: 1 + r.IntN(10)}
	switch a.Kind {
	case 1, 2:
		var to, name, flag string
		a.Path = r.place()
		a.Name, name = r.maybe(r.pkg())
		a.Flag, flag = r.flag("rename", "keep")
		if a.Kind == 2 {
			return a, fmt.Sprintf("undivert %s %s %s", a.Path, name, flag)
		}
		a.To, to = r.maybe(r.place())
		return a, fmt.Sprintf("divert %s %s %s %s", a.Path, to, name, flag)
	case 3:
		var meta, force, flag string
		a.Path = r.place()
		a.Meta, meta = r.meta()
		a.Force, force = r.flag("force", "once")
		a.Flag, flag = r.flag("update", "later")
		return a, fmt.Sprintf("override %s %s %s %s", a.Path, meta, force, flag)
	case 4:
		a.Path = r.place()
		return a, "unoverride " + a.Path
	case 5:
		a.Name, a.To, a.Path, a.Prio = r.pkg(), r.link(), r.place(), pick(r, 0, 5, -5, -1<<31, 1<<31-1)
		text := fmt.Sprintf("install %s %s %s %d", a.Name, a.To, a.Path, a.Prio)
		for range r.IntN(9) {
			p, word := r.maybe(r.place())
			s := api.Slave{Name: r.pkg(), Link: r.link()}
			a.Slaves, a.Paths = append(a.Slaves, s), append(a.Paths, p)
			text += fmt.Sprintf(" %s %s %s", s.Name, s.Link, word)
		}
		return a, text
	case 6, 8:
		a.Name, a.Path = r.pkg(), r.place()
		return a, map[int]string{6: "withdraw ", 8: "set "}[a.Kind] + a.Name + " " + a.Path
	case 7, 9:
		a.Name = r.pkg()
		return a, map[int]string{7: "remove-all ", 9: "auto "}[a.Kind] + a.Name
	}
	var flag string
	a.Name = pick(r, r.pkg(), r.place())
	a.Flag, flag = r.flag("noawait", "await")
	return a, "fire " + a.Name + " " + flag
}

func (r dice) name() string { return pick(r, "a", "-", "--", "A!~", "/a", longestName) }

func (r dice) number() int { return pick(r, 0, 1, 10, r.IntN(most), most) }

func (r dice) nums() ([]int, string) {
	var l []int
	text := ""
	for range r.IntN(17) {
		n := r.number()
		l = append(l, n)
		text += fmt.Sprintf(" %d", n)
	}
	return l, text
}

func (r dice) rel() (api.Rel, string) {
	x := api.Rel{Name: r.pkg()}
	if r.IntN(2) == 0 {
		return x, x.Name
	}
	x.Op, x.Version = pick(r, "<<", "<=", "=", ">=", ">>"), pick(r, "1", "0:1.2~a-3", "9"+strings.Repeat("9", 79))
	return x, fmt.Sprintf("%s (%s %s)", x.Name, x.Op, x.Version)
}

// groups are groups of up to so many relations.
func (r dice) groups(most int) ([][]api.Rel, string) {
	var l [][]api.Rel
	var groups []string
	for range r.IntN(4) {
		var group []api.Rel
		var texts []string
		for range 1 + r.IntN(most) {
			x, text := r.rel()
			group, texts = append(group, x), append(texts, text)
		}
		l, groups = append(l, group), append(groups, strings.Join(texts, " | "))
	}
	return l, strings.Join(groups, ", ")
}

func (r dice) file() (api.File, string) {
	var meta string
	f := api.File{Path: pick(r, "a", "-", "/a/b", longestPath), Kind: 1 + r.IntN(3)}
	f.Meta, meta = r.meta()
	if f.Kind == api.KDir {
		return f, "dir " + f.Path + " " + meta
	}
	word := "link "
	if f.Kind == api.KFile {
		f.Conf, word = r.flag("conffile ", "file ")
	}
	text := "-"
	if f.Text = pick(r, "", "a", "\n", "-", "ab c\xff\x00", longestText); f.Text != "" {
		text = fmt.Sprintf("%x", f.Text)
	}
	return f, word + f.Path + " " + meta + " " + text
}

// line is a line that may be, of any kind.
func (r dice) line() (api.Line, string) {
	x := api.Line{Kind: 1 + r.IntN(20)}
	var text string
	switch x.Kind {
	case api.LAct:
		x.Act, text = r.act()
		return x, text
	case api.LUnpack, api.LPackage:
		x.Name, x.Text = r.name(), pick(r, "1", "-", "x!~", longestVersion)
		return x, map[int]string{2: "unpack ", 14: "package "}[x.Kind] + x.Name + " " + x.Text
	case api.LConfigure, api.LRemove, api.LPurge, api.LShow, api.LQuery:
		x.Name = r.name()
		return x, map[int]string{3: "configure ", 4: "remove ", 5: "purge ", 8: "show ", 10: "query "}[x.Kind] + x.Name
	case api.LProcess:
		return x, "process"
	case api.LTrue:
		x.Text = pick(r, "/a", "-", "x", longestPath)
		x.Name, text = r.maybe("a", "--", "A!~", longestName)
		return x, "true " + x.Text + " " + text
	case api.LOwner:
		x.Text = pick(r, "/a", "-", "x", longestPath)
		return x, "owner " + x.Text
	}
	return r.aboutWorld(x)
}

func (r dice) aboutWorld(x api.Line) (api.Line, string) {
	var text string
	switch x.Kind {
	case api.LCodes:
		x.Nums, text = r.nums()
		return x, "codes" + text
	case api.LLimits:
		x.Limits = api.Limits{Bytes: r.number(), Files: r.number(), Name: r.number()}
		return x, fmt.Sprintf("limits %d %d %d", x.Limits.Bytes, x.Limits.Files, x.Limits.Name)
	case api.LCrash:
		x.N, x.Keep = r.number(), r.number()
		x.Nums, text = r.nums()
		return x, fmt.Sprintf("crash %d %d", x.N, x.Keep) + text
	case api.LDepends:
		x.Depends, text = r.groups(3)
		return x, strings.TrimSuffix("depends "+text, " ")
	case api.LConflicts:
		var groups [][]api.Rel
		groups, text = r.groups(1)
		for _, group := range groups {
			x.Conflicts = append(x.Conflicts, group...)
		}
		return x, strings.TrimSuffix("conflicts "+text, " ")
	case api.LReplaces:
		for range r.IntN(17) {
			x.Names = append(x.Names, r.name())
		}
		return x, strings.Join(append([]string{"replaces"}, x.Names...), " ")
	case api.LFile:
		x.File, text = r.file()
		return x, text
	case api.LInterest:
		x.Name = r.name()
		x.Flag, text = r.flag("noawait", "await")
		return x, "interest " + x.Name + " " + text
	}
	x.N = r.IntN(4)
	x.Act, text = r.act()
	return x, []string{"preinst ", "postinst ", "prerm ", "postrm "}[x.N] + text
}
