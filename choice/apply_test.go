package choice_test

import (
	"fmt"
	"math/rand/v2"
	"slices"
	"strings"
	"testing"

	"cellarer/alter"
	"cellarer/api"
	"cellarer/choice"
	"cellarer/choose"
	"cellarer/disk"
	"cellarer/store"
)

func must(t *testing.T, e api.Errno) {
	t.Helper()
	if e != api.OK {
		t.Fatal(e)
	}
}

func given(l ...api.Alt) api.State {
	return api.State{
		Records: []api.Record{{Name: "a", Version: "1", State: api.SInstalled}},
		Diverts: []api.Divert{{Path: "/a", To: "/c"}},
		Alts:    l,
	}
}

// show is a state as a text, in which lists that are nil and empty are equal.
func show(st api.State) string { return fmt.Sprint(st) }

// filled is a disk with a state, and the links of its alternatives.
func filled(t *testing.T, st api.State) *disk.Disk {
	t.Helper()
	d := disk.New(api.Limits{})
	must(t, store.Format(d))
	for _, dir := range []string{"/bin", "/man", "/opt"} {
		must(t, d.Do(api.Op{Kind: api.OMkdir, Path: dir}))
	}
	must(t, d.Sync("/"))
	must(t, store.Records(d, st.Records))
	must(t, store.Diverts(d, st.Diverts))
	for _, x := range st.Alts {
		must(t, store.Alt(d, x))
		must(t, alter.Fix(d, x))
	}
	return d
}

// leads sees that the links of alternatives lead to what is taken.
func leads(t *testing.T, d *disk.Disk, l []api.Alt) {
	t.Helper()
	for _, x := range l {
		for _, s := range append([]api.Slave{{Name: x.Name, Link: x.Link}}, x.Slaves...) {
			if got, want := alter.Resolve(d, s.Link), choose.Target(x, s.Name); got != want {
				t.Errorf("%s leads to %q, want %q", s.Link, got, want)
			}
		}
	}
}

func holds(t *testing.T, d *disk.Disk, want api.State) {
	t.Helper()
	if st, e := store.Load(d); show(st) != show(want) || e != api.OK {
		t.Errorf("Load: %d %s, want %s", e, show(st), show(want))
	}
}

// apply sees that what is given stays as it is.
func apply(t *testing.T, d *disk.Disk, st api.State, l []choice.Sel) (api.State, []api.Errno) {
	t.Helper()
	before := fmt.Sprint(st, l)
	got, errs := choice.Apply(d, st, l)
	if fmt.Sprint(st, l) != before {
		t.Errorf("Apply changed %s", before)
	}
	return got, errs
}

// applied are selections for ed and vi, what they make of them, and the error
// of each.
var applied = []struct {
	what string
	l    []choice.Sel
	want []api.Alt
	errs []api.Errno
}{
	{"none", nil, []api.Alt{ed(), vi()}, nil},
	{"auto", []choice.Sel{auto("vi", "/opt/b")}, []api.Alt{ed(), vi()}, []api.Errno{api.OK}},
	{"auto, of another path", []choice.Sel{auto("vi", "/opt/a"), auto("ed", "none")}, []api.Alt{ed(), vi()}, []api.Errno{api.OK, api.OK}},
	{"manual", []choice.Sel{set("vi", "/opt/a")}, []api.Alt{ed(), manual(vi(), "/opt/a")}, []api.Errno{api.OK}},
	{"manual, of the best", []choice.Sel{set("vi", "/opt/b")}, []api.Alt{ed(), manual(vi(), "/opt/b")}, []api.Errno{api.OK}},
	{"both", []choice.Sel{set("vi", "/opt/c"), set("ed", "/opt/b")}, []api.Alt{manual(ed(), "/opt/b"), manual(vi(), "/opt/c")}, []api.Errno{api.OK, api.OK}},
	{"one after the other", []choice.Sel{set("vi", "/opt/a"), set("vi", "/opt/c")}, []api.Alt{ed(), manual(vi(), "/opt/c")}, []api.Errno{api.OK, api.OK}},
	{"there and back", []choice.Sel{set("vi", "/opt/a"), set("ed", "/opt/b"), auto("vi", "/opt/a")}, []api.Alt{manual(ed(), "/opt/b"), vi()}, []api.Errno{api.OK, api.OK, api.OK}},
	{"no such name", []choice.Sel{auto("x", "/opt/a"), set("x", "/opt/a"), set("vi", "/opt/a"), auto("", "")},
		[]api.Alt{ed(), manual(vi(), "/opt/a")}, []api.Errno{api.ENOENT, api.ENOENT, api.OK, api.ENOENT}},
	{"no such choice", []choice.Sel{set("vi", "/opt/none"), set("ed", "/opt/b"), set("ed", "/opt/c"), set("ed", "")},
		[]api.Alt{manual(ed(), "/opt/b"), vi()}, []api.Errno{api.ENOENT, api.OK, api.ENOENT, api.ENOENT}},
}

// P30.2

func TestApply(t *testing.T) {
	st := given(ed(), vi())
	for _, c := range applied {
		d := filled(t, st)
		got, errs := apply(t, d, st, c.l)
		if show(got) != show(given(c.want...)) || !slices.Equal(errs, c.errs) {
			t.Errorf("%s: %s %d, want %v %d", c.what, show(got), errs, c.want, c.errs)
		}
		holds(t, d, given(c.want...))
		leads(t, d, c.want)
		// What was answered as done lasts.
		d.Crash(0, nil)
		holds(t, d, given(c.want...))
		leads(t, d, c.want)
	}
	d := filled(t, given(manual(ed(), "/opt/b"), manual(vi(), "/opt/c")))
	got, errs := apply(t, d, given(manual(ed(), "/opt/b"), manual(vi(), "/opt/c")), []choice.Sel{auto("vi", "/opt/c"), auto("ed", "")})
	if show(got) != show(st) || !slices.Equal(errs, []api.Errno{api.OK, api.OK}) {
		t.Errorf("auto of manual: %s %d", show(got), errs)
	}
	holds(t, d, st)
	leads(t, d, st.Alts)
}

// In the same steps as by the commands one after the other, wherever power goes
// off.
func TestApplyWithoutPower(t *testing.T) {
	st := given(ed(), vi())
	command := func(x choice.Sel) api.Act {
		if x.Manual {
			return api.Act{Kind: api.CSet, Name: x.Name, Path: x.Path}
		}
		return api.Act{Kind: api.CAuto, Name: x.Name}
	}
	for _, c := range applied {
		for n, on := 0, false; !on; n++ {
			d, twin := filled(t, st), filled(t, st)
			d.Fuse(n)
			twin.Fuse(n)
			want, wantErrs := st, []api.Errno(nil)
			for _, x := range c.l {
				var e api.Errno
				want, e = alter.Do(twin, want, command(x))
				wantErrs = append(wantErrs, e)
				if e == api.EOFF {
					break
				}
			}
			got, errs := apply(t, d, st, c.l)
			if show(got) != show(want) || !slices.Equal(errs, wantErrs) {
				t.Fatalf("%s with %d steps: %s %d, want %s %d", c.what, n, show(got), errs, show(want), wantErrs)
			}
			same := d.Steps() == twin.Steps() && slices.Equal(d.Image(), twin.Image()) && slices.Equal(d.Kept(), twin.Kept())
			if !same || d.On() == slices.Contains(errs, api.EOFF) {
				t.Fatalf("%s with %d steps: another disk than by commands", c.what, n)
			}
			on = d.On()
			// What was before the command of which power went off is kept, or
			// what is behind it.
			d.Crash(n, []int{n})
			kept, e := store.Load(d)
			must(t, e)
			after := want
			if !on {
				after.Alts, _ = choose.Set(want.Alts, c.l[len(errs)-1].Name, c.l[len(errs)-1].Path)
				if x := c.l[len(errs)-1]; !x.Manual {
					after.Alts, _ = choose.Auto(want.Alts, x.Name)
				}
			}
			if show(kept) != show(want) && show(kept) != show(after) {
				t.Fatalf("%s with %d steps: %s is kept", c.what, n, show(kept))
			}
		}
	}
}

func TestApplyWithErrors(t *testing.T) {
	// A directory is in the way of one of them alone.
	st := given(ed(), vi())
	d := filled(t, st)
	must(t, d.Do(api.Op{Kind: api.OMkdir, Path: "/etc/alternatives/vi.dpkg-tmp"}))
	got, errs := apply(t, d, st, []choice.Sel{set("vi", "/opt/a"), set("ed", "/opt/b"), set("vi", "/opt/b")})
	want := given(manual(ed(), "/opt/b"), manual(vi(), "/opt/b"))
	if show(got) != show(want) || !slices.Equal(errs, []api.Errno{api.EISDIR, api.OK, api.OK}) {
		t.Errorf("with a directory in the way: %s %d", show(got), errs)
	}
	holds(t, d, want)
	leads(t, d, want.Alts)
	// No room for what is written.
	d = filled(t, st)
	d.Bound(api.Limits{Bytes: 1})
	got, errs = apply(t, d, st, []choice.Sel{set("vi", "/opt/a"), auto("ed", "")})
	if show(got) != show(st) || !slices.Equal(errs, []api.Errno{api.ENOSPC, api.OK}) {
		t.Errorf("without room: %s %d", show(got), errs)
	}
	holds(t, d, st)
	// Power that is off, and no disk. (Links that can't be seen are to be placed.)
	d = filled(t, st)
	d.Fuse(0)
	d.Sync("/")
	l := []choice.Sel{set("x", "/opt/a"), set("vi", "/opt/a"), set("ed", "/opt/b")}
	got, errs = apply(t, d, st, l)
	if show(got) != show(st) || !slices.Equal(errs, []api.Errno{api.ENOENT, api.EOFF}) {
		t.Errorf("without power: %s %d", show(got), errs)
	}
	for _, none := range []*disk.Disk{nil, {}} {
		got, errs = apply(t, none, st, l)
		if show(got) != show(st) || !slices.Equal(errs, []api.Errno{api.ENOENT, api.ENIL, api.ENIL}) {
			t.Errorf("without a disk: %s %d", show(got), errs)
		}
	}
	got, errs = apply(t, nil, api.State{}, nil)
	if show(got) != show(api.State{}) || len(errs) != 0 {
		t.Errorf("of nothing: %s %d", show(got), errs)
	}
	// More than can be printed may be done.
	_, errs = apply(t, filled(t, st), st, slices.Repeat([]choice.Sel{auto("ed", "")}, 65))
	if !slices.Equal(errs, make([]api.Errno, 65)) {
		t.Errorf("of 65: %d", errs)
	}
}

// P30.5

func TestBack(t *testing.T) {
	r := rand.New(rand.NewPCG(30, 5))
	random := func() []choice.Sel {
		var l []choice.Sel
		for range r.IntN(6) {
			l = append(l, choice.Sel{Name: []string{"ed", "vi"}[r.IntN(2)], Manual: r.IntN(3) > 0, Path: "/opt/" + string("abc"[r.IntN(3)])})
		}
		return l
	}
	away := 0
	for range 300 {
		d := filled(t, given(ed(), vi()))
		st, _ := apply(t, d, given(ed(), vi()), random())
		first := choice.Of(st.Alts)
		text, e := choice.Print(first)
		must(t, e)
		other, _ := apply(t, d, st, random())
		if !slices.Equal(choice.Of(other.Alts), first) {
			away++
		}
		l, e := choice.Parse(text)
		must(t, e)
		back, errs := apply(t, d, other, l)
		if strings.Trim(fmt.Sprint(errs), "[0 ]") != "" || !slices.Equal(choice.Of(back.Alts), first) {
			t.Fatalf("%s became %v %d", text, choice.Of(back.Alts), errs)
		}
		holds(t, d, st)
		leads(t, d, st.Alts)
	}
	if away < 50 {
		t.Errorf("another selection was taken %d times", away)
	}
}
