package fire_test

import (
	"fmt"
	"slices"
	"strings"
	"testing"

	"cellarer/api"
	"cellarer/disk"
	"cellarer/fire"
	"cellarer/path"
	"cellarer/status"
	"cellarer/store"
)

// P25.1

func TestReady(t *testing.T) {
	t.Parallel()
	for state, want := range map[int]bool{
		-1: false, 0: false, api.SConfig: false, api.SHalfInst: false, api.SUnpacked: false, api.SHalfConf: false,
		api.SAwaited: true, api.SPending: true, api.SInstalled: true, 8: false, 1 << 40: false,
	} {
		if got := fire.Ready(state); got != want {
			t.Errorf("Ready(%d) is %t", state, got)
		}
	}
}

// taken is Taken, of which what it is given stays as it is.
func taken(t *testing.T, st api.State) ([]api.Record, bool) {
	t.Helper()
	st = spared(st)
	before := whole(st)
	l, any := fire.Taken(st)
	if whole(st) != before {
		t.Fatalf("Taken changed what it was given: %s, was %s", whole(st), before)
	}
	return l, any
}

// odd are records of which each one's state is another one than its lists ask.
func odd() []api.Record {
	return []api.Record{
		{Name: "a", Version: "1", State: api.SInstalled, Pending: []string{"t"}},
		{Name: "b", Version: "1", State: api.SPending},
		{Name: "c", Version: "1", State: api.SAwaited, Pending: []string{"t"}},
		{Name: "d", Version: "1", State: api.SPending, Pending: []string{"t"}, Awaited: []string{"a"}},
		{Name: "e", Version: "1", State: api.SHalfConf, Pending: []string{"t"}, Awaited: []string{"a"}},
		{Name: "f", Version: "1", State: api.SUnpacked, Awaited: []string{"a"}},
	}
}

func oddSettled() []api.Record {
	return []api.Record{
		{Name: "a", Version: "1", State: api.SPending, Pending: []string{"t"}},
		{Name: "b", Version: "1", State: api.SInstalled},
		{Name: "c", Version: "1", State: api.SPending, Pending: []string{"t"}},
		{Name: "d", Version: "1", State: api.SAwaited, Pending: []string{"t"}, Awaited: []string{"a"}},
		{Name: "e", Version: "1", State: api.SHalfConf, Pending: []string{"t"}, Awaited: []string{"a"}},
		{Name: "f", Version: "1", State: api.SUnpacked, Awaited: []string{"a"}},
	}
}

func TestTaken(t *testing.T) {
	t.Parallel()
	inst := func(l ...string) []api.Record {
		var out []api.Record
		for _, name := range l {
			out = append(out, rec(name, api.SInstalled))
		}
		return out
	}
	list := func(l ...api.Record) []api.Record { return l }
	told := func(l ...api.Interest) []api.Interest { return l }
	fired := func(l ...api.Fired) []api.Fired { return l }
	for _, c := range []struct {
		what  string
		l     []api.Record
		told  []api.Interest
		fired []api.Fired
		want  []api.Record
	}{
		{"nothing is fired", inst("a"), told(in("t", "a")), nil, inst("a")},
		{"nothing is fired, and none is settled", odd(), told(in("t", "a")), nil, odd()},
		{"what nobody is interested in", inst("a"), told(in("u", "a")), fired(by("t", "a")), inst("a")},
		{"all are settled, whoever is interested", odd(), nil, fired(by("u")), oddSettled()},
		{"fired by nobody", inst("a", "b"), told(in("t", "a")), fired(by("t")), list(pending("a", "t"), rec("b", api.SInstalled))},
		{"fired by another one", inst("a", "b"), told(in("t", "a")), fired(by("t", "b")), list(pending("a", "t"), awaiting("b", "a"))},
		{"fired by itself", inst("a", "b"), told(in("t", "a")), fired(by("t", "a")), list(pending("a", "t"), rec("b", api.SInstalled))},
		{"fired by itself and another one", inst("a", "b"), told(in("t", "a")), fired(by("t", "a", "b")), list(pending("a", "t"), awaiting("b", "a"))},
		{"fired by one that is not there", inst("a", "b"), told(in("t", "a")), fired(by("t", "aa", "c")), list(pending("a", "t"), rec("b", api.SInstalled))},
		{"noawait", inst("a", "b"), told(noawait("t", "a")), fired(by("t", "b")), list(pending("a", "t"), rec("b", api.SInstalled))},
		{"interested ones that are not there", inst("b"), told(in("t", "a")), fired(by("t", "b")), inst("b")},
		{"two that are interested", inst("a", "b", "c"), told(in("t", "a"), in("t", "b")), fired(by("t", "c")), list(pending("a", "t"), pending("b", "t"), awaiting("c", "a", "b"))},
		{"two that are interested, and fire it", inst("a", "b"), told(in("t", "a"), in("t", "b")), fired(by("t", "a", "b")), list(both("a", "t", "b"), both("b", "t", "a"))},
		{"two of which one lets nobody wait", inst("a", "b", "c"), told(in("t", "a"), noawait("t", "b")), fired(by("t", "c")), list(pending("a", "t"), pending("b", "t"), awaiting("c", "a"))},
		{"two triggers", inst("a", "b", "c"), told(in("t", "a"), in("u", "a"), in("u", "b")), fired(by("t", "c"), by("u")), list(pending("a", "t", "u"), pending("b", "u"), awaiting("c", "a"))},
		{"a trigger that is pending already", list(pending("a", "s", "t", "u"), awaiting("b", "a", "c")), told(in("t", "a")), fired(by("t", "b")), list(pending("a", "s", "t", "u"), awaiting("b", "a", "c"))},
		{"a trigger between others", list(pending("a", "s", "u"), awaiting("c", "aa", "b")), told(in("t", "a")), fired(by("t", "c")), list(pending("a", "s", "t", "u"), awaiting("c", "a", "aa", "b"))},
		{"one that waits becomes due", list(awaiting("a", "b")), told(in("t", "a")), fired(by("t")), list(both("a", "t", "b"))},
		{"one that is due has to wait", list(pending("a", "t"), pending("b", "t")), told(in("u", "a")), fired(by("u", "b")), list(pending("a", "t", "u"), both("b", "t", "a"))},
		{"lists that do not rise", list(api.Record{Name: "a", Version: "1", State: api.SPending, Pending: []string{"z", "b", "z"}}), told(in("t", "a")), fired(by("t")), list(pending("a", "b", "t", "z"))},
	} {
		got, any := taken(t, api.State{Records: c.l, Interests: c.told, Fired: c.fired})
		if !same(got, c.want) || any != (len(c.fired) > 0) {
			t.Errorf("%s: %v %t, want %v", c.what, got, any, c.want)
		}
	}
}

// Whoever is interested in a trigger, or fires it, has to be Ready.
func TestTakenStates(t *testing.T) {
	t.Parallel()
	for state := -1; state <= 8; state++ {
		ready := state >= api.SAwaited && state <= api.SInstalled
		for _, who := range []string{"a", "b"} {
			l := []api.Record{rec("a", api.SInstalled), rec("b", api.SInstalled)}
			l[status.Find(l, who)].State = state
			want := []api.Record{pending("a", "t"), awaiting("b", "a")}
			switch {
			case !ready && who == "a":
				want = []api.Record{rec("a", state), rec("b", api.SInstalled)}
			case !ready:
				want[1] = rec("b", state)
			}
			got, _ := taken(t, api.State{Records: l, Interests: []api.Interest{in("t", "a")}, Fired: []api.Fired{by("t", "b")}})
			if !same(got, want) {
				t.Errorf("%s in state %d: %v, want %v", who, state, got, want)
			}
		}
	}
}

// A list of 64 stays as it is, unless what comes is in it; the other one changes.
func TestTakenFull(t *testing.T) {
	t.Parallel()
	for _, n := range []int{62, 63, 64, 65} {
		triggers, names := many(n, "t%02d"), many(n, "n%02d")
		l := []api.Record{{Name: "a", Version: "1", State: api.SPending, Pending: triggers}, {Name: "b", Version: "1", State: api.SAwaited, Awaited: names}}
		st := api.State{Records: l, Interests: []api.Interest{in("u", "a")}, Fired: []api.Fired{by("u", "b")}}
		want := spared(l)
		if n < 64 {
			want[0].Pending = append(triggers, "u")
			want[1].Awaited = append([]string{"a"}, names...)
		}
		if got, _ := taken(t, st); !same(got, want) {
			t.Errorf("with %d: %v, want %v", n, got, want)
		}
		// What is full in one does not keep the other one.
		one := spared(st)
		one.Records[0].Pending = []string{"t"}
		want = spared(want)
		want[0].Pending = []string{"t", "u"}
		if got, _ := taken(t, one); !same(got, want) {
			t.Errorf("with %d that are awaited: %v, want %v", n, got, want)
		}
		one = spared(st)
		one.Records[1].Awaited = []string{"n"}
		want[0], want[1].Awaited = spared(l)[0], []string{"a", "n"}
		if n < 64 {
			want[0].Pending = append(triggers, "u")
		}
		if got, _ := taken(t, one); !same(got, want) {
			t.Errorf("with %d that are pending: %v, want %v", n, got, want)
		}
	}
	// What is in a full list is no more.
	full := many(64, "t%02d")
	l := []api.Record{{Name: "a", Version: "1", State: api.SPending, Pending: full}}
	st := api.State{Records: l, Interests: []api.Interest{in("t07", "a"), in("u", "a")}, Fired: []api.Fired{by("t07"), by("u")}}
	if got, _ := taken(t, st); !same(got, l) {
		t.Errorf("%v, want %v", got, l)
	}
	// There is room for one: the first one takes it.
	l[0].Pending = full[1:]
	st.Interests, st.Fired = []api.Interest{in("u", "a"), in("v", "a")}, []api.Fired{by("u"), by("v")}
	want := []api.Record{{Name: "a", Version: "1", State: api.SPending, Pending: append(slices.Clone(full[1:]), "u")}}
	if got, _ := taken(t, st); !same(got, want) {
		t.Errorf("%v, want %v", got, want)
	}
}

// Of several records of one name the first one counts.
func TestTakenTwice(t *testing.T) {
	t.Parallel()
	l := []api.Record{rec("a", api.SUnpacked), rec("a", api.SInstalled), rec("b", api.SInstalled), rec("b", api.SUnpacked)}
	st := api.State{Records: l, Interests: []api.Interest{in("t", "a"), in("t", "b")}, Fired: []api.Fired{by("t", "a")}}
	want := []api.Record{l[0], l[1], pending("b", "t"), l[3]}
	if got, _ := taken(t, st); !same(got, want) {
		t.Errorf("%v, want %v", got, want)
	}
}

// takes is a state for TakeIn, and what is to be written for it.
type takes struct {
	what    string
	st      api.State
	records []api.Record // nil: they are not written
	fired   bool
}

func takings() []takes {
	told := []api.Interest{in("t", "a"), noawait("u", "b")}
	two := []api.Record{rec("a", api.SInstalled), rec("b", api.SInstalled)}
	done := []api.Record{pending("a", "t"), awaiting("b", "a")}
	return []takes{
		{"nothing is fired", api.State{Records: two, Interests: told}, nil, false},
		{"nothing is fired, and none is settled", api.State{Records: odd()}, nil, false},
		{"one is fired", api.State{Records: two, Interests: told, Fired: []api.Fired{by("t", "b")}}, done, true},
		{"two are fired", api.State{Records: two, Interests: told, Fired: []api.Fired{by("t", "b"), by("u", "a")}}, []api.Record{pending("a", "t"), both("b", "u", "a")}, true},
		{"nobody is interested", api.State{Records: two, Interests: told, Fired: []api.Fired{by("v", "b")}}, nil, true},
		{"it was pending already", api.State{Records: done, Interests: told, Fired: []api.Fired{by("t", "b")}}, nil, true},
		{"none is Ready", api.State{Records: []api.Record{rec("a", api.SHalfConf), rec("b", api.SInstalled)}, Interests: told, Fired: []api.Fired{by("t", "b")}}, nil, true},
		{"there are no records", api.State{Interests: told, Fired: []api.Fired{by("t", "b")}}, nil, true},
		{"records that are to be settled", api.State{Records: odd()[:4], Fired: []api.Fired{by("v")}}, oddSettled()[:4], true},
		{"all else stays", api.State{
			Records: two, Interests: told, Fired: []api.Fired{by("t", "b")},
			Diverts: []api.Divert{{Path: "/a", To: "/b"}}, Overs: []api.Over{{Path: "/a"}}, Lists: []api.List{{Name: "a"}},
			Alts: []api.Alt{{Name: "x", Link: "/x", Cur: "/a", Choices: []api.Choice{{Path: "/a"}}}},
		}, done, true},
	}
}

// twinTaken does on a disk what TakeIn is to do.
func (c takes) twinTaken(d *disk.Disk) (api.State, api.Errno) {
	st := c.st
	if c.records != nil {
		if e := store.Records(d, c.records); e != api.OK {
			return st, e
		}
		st.Records = c.records
	}
	if c.fired {
		if e := store.Fired(d, nil); e != api.OK {
			return st, e
		}
		st.Fired = nil
	}
	return st, api.OK
}

// laidOdd is a disk, on which records may be that can't be printed.
func laidOdd(t *testing.T, st api.State) *disk.Disk {
	if _, e := status.Print(st.Records); e != api.OK {
		st.Records = nil
	}
	return laid(t, st)
}

func (c takes) hold(t *testing.T, how string, ready func(d *disk.Disk)) (api.Errno, *disk.Disk) {
	t.Helper()
	twin := laidOdd(t, c.st)
	ready(twin)
	want, wantError := c.twinTaken(twin)
	d, st := laidOdd(t, c.st), spared(c.st)
	ready(d)
	before := whole(st)
	got, e := fire.TakeIn(d, st)
	if !same(got, want) || e != wantError || look(d) != look(twin) {
		t.Fatalf("%s %s: %v %d\n%s\nwant %v %d\n%s", c.what, how, got, e, look(d), want, wantError, look(twin))
	}
	if whole(st) != before {
		t.Errorf("%s %s: TakeIn changed what it was given", c.what, how)
	}
	return e, d
}

func TestTakeIn(t *testing.T) {
	t.Parallel()
	for _, c := range takings() {
		if e, _ := c.hold(t, "", func(*disk.Disk) {}); e != api.OK {
			t.Errorf("%s: %d", c.what, e)
		}
		for n := 0; ; n++ {
			if _, d := c.hold(t, fmt.Sprintf("with %d steps", n), func(d *disk.Disk) { d.Fuse(n) }); d.On() {
				break
			}
		}
		struck := map[string]bool{}
		for _, limits := range bounds(laidOdd(t, c.st)) {
			e, d := c.hold(t, fmt.Sprintf("with %v", limits), func(d *disk.Disk) { d.Bound(limits) })
			// Limits that strike at one step do alike.
			at := fmt.Sprint(e, d.Steps())
			if e == api.OK || struck[at] {
				continue
			}
			struck[at] = true
			for n := range d.Steps() + 2 {
				c.hold(t, fmt.Sprintf("with %v and %d steps", limits, n), func(d *disk.Disk) { d.Bound(limits); d.Fuse(n) })
			}
		}
		if (len(struck) > 1) != c.fired {
			t.Errorf("%s: limits strike at %v", c.what, struck)
		}
		for d, off := range without(t, api.State{}) {
			want := off
			if !c.fired {
				want = api.OK
			}
			if got, e := fire.TakeIn(d, c.st); e != want || !same(got, c.st) && want != api.OK {
				t.Errorf("%s: %v %d, want %d", c.what, got, e, want)
			}
		}
	}
}

// filling is a record whose text is as long as a text may be, and that text.
func filling(t *testing.T) (api.Record, string) {
	t.Helper()
	x := rec("a", api.SInstalled)
	text := ""
	for free := api.MaxText; free > 0; free = api.MaxText - len(text) {
		i := len(x.Depends) - 1
		switch {
		case free <= 86:
			x.Depends[0][0].Op, x.Depends[0][0].Version = ">=", strings.Repeat("1", free-6)
		case i < 0 || len(x.Depends[i]) == api.MaxList:
			x.Depends = append(x.Depends, []api.Rel{{Name: strings.Repeat("n", 60)}})
		default:
			x.Depends[i] = append(x.Depends[i], api.Rel{Name: strings.Repeat("n", 60)})
		}
		var e api.Errno
		text, e = status.Print([]api.Record{x})
		must(t, e)
	}
	return x, text
}

// What can't be written leaves all as it was.
func TestTakeInWrong(t *testing.T) {
	t.Parallel()
	told, fired := []api.Interest{in("t", "a")}, []api.Fired{by("t")}
	// With a trigger that is none, the records can't be printed any more.
	d := laid(t, api.State{})
	st := api.State{Records: []api.Record{rec("a", api.SInstalled)}, Interests: []api.Interest{in("T", "a")}, Fired: []api.Fired{by("T")}}
	if got, e := fire.TakeIn(d, st); e != api.EARG || !same(got, st) || len(loads(t, d).Records) > 0 {
		t.Errorf("%v %d", got, e)
	}
	// With what is pending, the records are longer than a text may be.
	long, text := filling(t)
	st = api.State{Records: []api.Record{long}, Interests: told, Fired: fired}
	d = laid(t, st)
	if got, e := fire.TakeIn(d, st); e != api.ELONG || !same(got, st) || !same(loads(t, d), st) {
		t.Errorf("a text of %d bytes: %d %v", len(text), e, got)
	}
	// Records that could not be printed before are alike, as no text is made of
	// either of them.
	many := api.State{Interests: told, Fired: fired}
	for i := range 65 {
		many.Records = append(many.Records, rec(fmt.Sprintf("a%02d", i), api.SInstalled))
	}
	many.Records[0].Name = "a"
	d = laid(t, api.State{Fired: fired})
	if got, e := fire.TakeIn(d, many); e != api.OK || len(got.Fired)+len(loads(t, d).Fired) > 0 {
		t.Errorf("%d", e)
	}
}

// Whatever of TakeIn a crash undoes, all that is there can be read, and is as
// before, with the records alone, or as afterwards; and what is taken in again
// is the same.
func TestTakeInCrashes(t *testing.T) {
	t.Parallel()
	for _, c := range takings() {
		if !c.fired || len(c.st.Diverts) > 0 || !same(loads(t, laidOdd(t, c.st)).Records, c.st.Records) {
			continue
		}
		end, _ := fire.TakeIn(laid(t, c.st), c.st)
		between := end
		between.Fired = c.st.Fired
		seen := map[string]int{}
		for n := 0; ; n++ {
			d := laid(t, c.st)
			d.Fuse(n)
			_, e := fire.TakeIn(d, c.st)
			on := d.On()
			for keep := range d.Pending() + 1 {
				for _, cut := range []int{0, 3, -1} {
					d := laid(t, c.st)
					d.Fuse(n)
					fire.TakeIn(d, c.st)
					d.Crash(keep, []int{cut})
					now := loads(t, d)
					seen[show(now)]++
					if !same(now, c.st) && !same(now, between) && !same(now, end) || e == api.OK && !same(now, end) {
						t.Fatalf("%s with %d steps, %d kept: %v", c.what, n, keep, now)
					}
					if again, e := fire.TakeIn(d, now); e != api.OK || !same(again, end) || !same(loads(t, d), end) {
						t.Fatalf("%s again: %d %v, want %v", c.what, e, again, end)
					}
				}
			}
			if on {
				break
			}
		}
		want := 2
		if c.records != nil {
			want = 3
		}
		if len(seen) != want {
			t.Errorf("%s: %d states are seen", c.what, len(seen))
		}
	}
}

// modelTaken is what Taken says, name by name: what is added to each list.
func modelTaken(st api.State) []api.Record {
	ready := map[string]bool{}
	for _, x := range st.Records {
		if x.State == api.SInstalled || x.State == api.SPending || x.State == api.SAwaited {
			ready[x.Name] = true
		}
	}
	add := func(l []string, s string) []string {
		if slices.Contains(l, s) || len(l) >= 64 {
			return l
		}
		return path.Sorted(append(slices.Clone(l), s))
	}
	var out []api.Record
	for _, x := range st.Records {
		for _, f := range st.Fired {
			for _, in := range st.Interests {
				if in.Trigger != f.Trigger || !ready[in.Package] || !ready[x.Name] {
					continue
				}
				if in.Package == x.Name {
					x.Pending = add(x.Pending, f.Trigger)
				} else if !in.Noawait && slices.Contains(f.By, x.Name) {
					x.Awaited = add(x.Awaited, in.Package)
				}
			}
		}
		if ready[x.Name] && len(st.Fired) > 0 {
			x.State = api.SInstalled
			if len(x.Pending) > 0 {
				x.State = api.SPending
			}
			if len(x.Awaited) > 0 {
				x.State = api.SAwaited
			}
		}
		out = append(out, x)
	}
	return out
}
