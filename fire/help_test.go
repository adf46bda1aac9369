package fire_test

import (
	"fmt"
	"reflect"
	"strings"
	"testing"

	"cellarer/api"
	"cellarer/disk"
	"cellarer/fire"
	"cellarer/store"
)

func in(trigger, pkg string) api.Interest { return api.Interest{Trigger: trigger, Package: pkg} }

func noawait(trigger, pkg string) api.Interest {
	return api.Interest{Trigger: trigger, Package: pkg, Noawait: true}
}

func by(trigger string, l ...string) api.Fired { return api.Fired{Trigger: trigger, By: l} }

// rec is a record that has nothing but a state.
func rec(name string, state int) api.Record {
	return api.Record{Name: name, Version: "1", State: state}
}

// pending and awaiting are records of packages that are due, or wait.
func pending(name string, triggers ...string) api.Record {
	return api.Record{Name: name, Version: "1", State: api.SPending, Pending: triggers}
}

func awaiting(name string, others ...string) api.Record {
	return api.Record{Name: name, Version: "1", State: api.SAwaited, Awaited: others}
}

// both is a record of one that is due, and waits for another one.
func both(name, trigger, other string) api.Record {
	return api.Record{Name: name, Version: "1", State: api.SAwaited, Pending: []string{trigger}, Awaited: []string{other}}
}

// acts, fires, quiet and wrong are commands of scripts.
func acts(l ...api.Act) []api.Act { return l }

func fires(trigger string) api.Act { return api.Act{Kind: api.CFire, Name: trigger} }

func quiet(trigger string) api.Act { return api.Act{Kind: api.CFire, Name: trigger, Flag: true} }

func wrong() api.Act { return api.Act{Kind: api.CUnover, Path: "/none"} }

// pack is a package of which one script does something.
func pack(name string, l ...api.Act) api.Package {
	x := api.Package{Name: name, Version: "1"}
	x.Scripts[api.PostInst] = l
	return x
}

func many(n int, form string) []string {
	var out []string
	for i := range n {
		out = append(out, fmt.Sprintf(form, i))
	}
	return out
}

func must(t *testing.T, e api.Errno) {
	t.Helper()
	if e != api.OK {
		t.Fatal(e)
	}
}

// laid is a disk with databases, of which nothing is pending or dirty.
func laid(t *testing.T, st api.State) *disk.Disk {
	t.Helper()
	d := disk.New(api.Limits{})
	must(t, store.Format(d))
	must(t, store.Records(d, st.Records))
	must(t, store.Interests(d, st.Interests))
	must(t, store.Fired(d, st.Fired))
	return d
}

func loads(t *testing.T, d *disk.Disk) api.State {
	t.Helper()
	st, e := store.Load(d)
	must(t, e)
	return st
}

// look is all that a disk tells.
func look(d *disk.Disk) string {
	return fmt.Sprint(d.Image(), d.Kept(), d.Dirty(), d.Steps(), d.Pending(), d.On())
}

// without are disks on which nothing can be done, and the error that says so.
func without(t *testing.T, st api.State) map[*disk.Disk]api.Errno {
	off := laid(t, st)
	off.Fuse(0)
	off.Sync("/")
	return map[*disk.Disk]api.Errno{nil: api.ENIL, {}: api.ENIL, off: api.EOFF}
}

// bounds are limits of all kinds that a disk just keeps, or may not keep soon.
func bounds(d *disk.Disk) []api.Limits {
	size, files := 0, len(d.Image())
	for _, x := range d.Image() {
		size += len(x.Text)
	}
	var out []api.Limits
	for n := range 16 {
		out = append(out, api.Limits{Bytes: size + n*n*2})
	}
	for n := range 4 {
		out = append(out, api.Limits{Files: files + n}, api.Limits{Name: 2 + n})
	}
	return out
}

// answer is what Process answers.
type answer struct {
	st    api.State
	codes []int
	out   fire.Result
	e     api.Errno
}

// process is Process, of which all that it is given has something behind its
// end, and stays as it is.
func process(t *testing.T, d *disk.Disk, st api.State, pool []api.Package, codes []int) answer {
	t.Helper()
	st, pool, codes = spared(st), spared(pool), spared(codes)
	before := whole([]any{st, pool, codes})
	var got answer
	got.st, got.codes, got.out, got.e = fire.Process(d, st, pool, codes)
	if now := whole([]any{st, pool, codes}); now != before {
		t.Fatalf("Process changed what it was given: %s, was %s", now, before)
	}
	return got
}

// spared is a copy of which each list has something behind its end, which nobody
// may touch.
func spared[T any](x T) T {
	out := reflect.New(reflect.TypeOf(x)).Elem()
	copied(out, reflect.ValueOf(x))
	return out.Interface().(T)
}

func copied(to, from reflect.Value) {
	switch from.Kind() {
	case reflect.Struct:
		for i := range from.NumField() {
			copied(to.Field(i), from.Field(i))
		}
	case reflect.Array:
		for i := range from.Len() {
			copied(to.Index(i), from.Index(i))
		}
	case reflect.Slice:
		l := reflect.MakeSlice(from.Type(), from.Len()+2, from.Len()+2)
		for i := range from.Len() {
			copied(l.Index(i), from.Index(i))
		}
		if l.Index(from.Len()).Kind() == reflect.String {
			l.Index(from.Len()).SetString("spare")
		}
		to.Set(l.Slice(0, from.Len()))
	default:
		to.Set(from)
	}
}

// show is all of something as a text, in which lists that are nil and empty are
// alike; whole is that with what is behind the ends of lists.
func show(x any) string { return told(x, false) }

func whole(x any) string { return told(x, true) }

func told(x any, whole bool) string {
	var out strings.Builder
	var tell func(reflect.Value)
	tell = func(v reflect.Value) {
		switch v.Kind() {
		case reflect.Interface:
			tell(v.Elem())
		case reflect.Struct:
			for i := range v.NumField() {
				tell(v.Field(i))
			}
		case reflect.Slice:
			n := v.Len()
			if whole {
				v = v.Slice(0, v.Cap())
			}
			fmt.Fprintf(&out, "%d[", n)
			for i := range v.Len() {
				tell(v.Index(i))
			}
			out.WriteString("]")
		case reflect.Array:
			for i := range v.Len() {
				tell(v.Index(i))
			}
		default:
			fmt.Fprintf(&out, "%#v ", v)
		}
	}
	tell(reflect.ValueOf(x))
	return out.String()
}

func same(a, b any) bool { return show(a) == show(b) }
