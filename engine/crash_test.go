package engine_test

import (
	"fmt"
	"maps"
	"strings"
	"testing"

	"cellarer/api"
	"cellarer/disk"
	"cellarer/engine"
	"cellarer/pack"
)

// crashed lets power go off within a call, behind each of its steps, and what is
// pending and dirty be kept in part; then it hands on what is there.
func crashed(t *testing.T, w world, do call, look func(what string, d *disk.Disk, e api.Errno, all bool)) {
	t.Helper()
	for n := 0; ; n++ {
		d := w.disk(t)
		d.Fuse(n)
		do(d, w.st, nil)
		on, pending := d.On(), d.Pending()
		for keep := range pending + 1 {
			for _, cut := range []int{-1, 0, 2} {
				d := w.disk(t)
				d.Fuse(n)
				got := do(d, w.st, nil)
				d.Crash(keep, []int{cut, cut})
				look(fmt.Sprintf("with %d steps, %d kept, %d of a text", n, keep, cut), d, got.e, keep == pending && cut == -1)
			}
		}
		if on {
			return
		}
	}
}

// P24.6, P24.7

// Whenever power goes off, and whatever is kept, the databases are as they were
// at some time of the call, each file is as before or as afterwards when what the
// crash left is swept, and the conffiles that somebody changed are as they were.
func TestCrashes(t *testing.T) {
	t.Parallel()
	for _, c := range []struct {
		what string
		w    world
		do   call
		x    api.Package
	}{
		{"Unpack", upgraded(), unpack(t, second()), second()},
		{"Configure", settled(api.SHalfConf), named(engine.Configure).of(t, "a", pool()...), api.Package{}},
		{"Remove", settled(api.SInstalled), named(engine.Remove).of(t, "a", pool()...), api.Package{}},
		{"Purge", purged(), named(engine.Purge).of(t, "a", pool()...), api.Package{}},
	} {
		d := c.w.disk(t)
		was, changed := entries(d), mine(d, c.w.st, op{name: "a", x: c.x})
		if c.what == "Purge" {
			changed = nil
		} else if len(changed) == 0 {
			t.Fatalf("%s: no conffile was changed", c.what)
		}
		end := c.do(d, c.w.st, nil)
		must(t, end.e)
		after := entries(d)
		times := map[string]int{}
		crashed(t, c.w, c.do, func(_ string, d *disk.Disk, _ api.Errno, all bool) {
			if all {
				times[show(loads(t, d))]++
			}
		})
		crashed(t, c.w, c.do, func(what string, d *disk.Disk, e api.Errno, _ bool) {
			what = c.what + " " + what
			now := loads(t, d)
			if times[show(now)] == 0 || e == api.OK && !same(now, end.st) {
				t.Fatalf("%s: %v", what, now)
			}
			recovered(t, d)
			if again := loads(t, d); !same(again, now) {
				t.Fatalf("%s: recovered %v, was %v", what, again, now)
			}
			halves(t, what, "a", c.w.st.Records, now.Records, end.st.Records)
			files := entries(d)
			if e == api.OK && !maps.Equal(files, after) {
				t.Fatalf("%s: %v, want %v", what, files, after)
			}
			oldOrNew(t, what, unmoved(was), unmoved(after), unmoved(files))
			stay(t, what, changed, files)
		})
		if len(times) < 3 {
			t.Errorf("%s: only %d states", c.what, len(times))
		}
	}
}

// unmoved is files but for the one that a script moves.
func unmoved(l map[string]api.Entry) map[string]api.Entry {
	out := maps.Clone(l)
	maps.DeleteFunc(out, func(p string, _ api.Entry) bool { return strings.HasPrefix(p, "/bin/new") })
	return out
}

// The same package, unpacked again and again, with power going off ever later:
// what comes of it in the end is as if it never had gone.
func TestAgainAfterCrashes(t *testing.T) {
	t.Parallel()
	w, x := upgraded(), second()
	x.Scripts = [4][]api.Act{}
	twin := w.disk(t)
	want, _, e := engine.Unpack(twin, w.st, x, nil)
	must(t, e)
	d, st := w.disk(t), w.st
	for n := 0; ; n++ {
		d.Fuse(n)
		_, _, e = engine.Unpack(d, st, x, nil)
		if d.On() {
			break
		}
		d.Crash(n*7, []int{n})
		recovered(t, d)
		st = loads(t, d)
	}
	must(t, e)
	d.Crash(0, nil)
	got := loads(t, d)
	if !same(got, want) {
		t.Errorf("%v, want %v", got, want)
	}
	for _, p := range pack.Paths(x) {
		was, is := entries(twin)[p], entries(d)[p]
		if was != is {
			t.Errorf("%s is %v, want %v", p, is, was)
		}
	}
}
