package place_test

import (
	"fmt"
	"math/rand/v2"
	"slices"
	"strings"
	"testing"

	"cellarer/api"
	"cellarer/disk"
	"cellarer/divs"
	"cellarer/pack"
	"cellarer/path"
	"cellarer/place"
)

// world is what is there, and what is to come.
type world struct {
	on []api.File
	st api.State
	x  api.Package
}

func pick[T any](r *rand.Rand, l ...T) T { return l[r.IntN(len(l))] }

// someFiles is files of which each is in a directory that is there, if it has to be.
func someFiles(r *rand.Rand, text string, whole bool) []api.File {
	var out []api.File
	for _, p := range []string{"/a", "/b", "/d", "/d/a", "/d/e", "/d/e/a", "/d/l", "/e", "/e/a"} {
		parent, _ := path.Split(p)
		i := pack.File(out, parent)
		if r.IntN(3) == 0 || i < 0 && parent != "/" && (whole || r.IntN(2) == 0) || i >= 0 && out[i].Kind != api.KDir {
			continue
		}
		kind := pick(r, api.KFile, api.KFile, api.KLink)
		if slices.Contains([]string{"/d", "/d/e", "/e"}, p) && r.IntN(5) > 0 {
			kind = api.KDir
		}
		switch kind {
		case api.KDir:
			out = append(out, dir(p))
		case api.KLink:
			out = append(out, toLink(p, text+" link"))
		default:
			out = append(out, file(p, pick(r, "", text+" of "+p)))
		}
	}
	return out
}

func randomWorld(r *rand.Rand) world {
	w := world{on: someFiles(r, "old", true), x: files(someFiles(r, "new", false)...)}
	for range r.IntN(4) {
		x := api.Divert{
			Path: pick(r, "/a", "/b", "/d", "/d/a", "/e/a"),
			To:   pick(r, "/a", "/c", "/d/a", "/d/e/c", "/e/c", "/c/c"),
			By:   pick(r, "", "x", "y"),
		}
		if l := divs.Put(w.st.Diverts, x); divs.Check(l) == api.OK {
			w.st.Diverts = l
		}
	}
	if r.IntN(2) == 0 {
		w.st.Overs = []api.Over{{Path: pick(r, "/a", "/d/a", "/d"), Meta: own}}
	}
	return w
}

// entries is all of an image by its paths.
func entries(l []api.Entry) map[string]api.Entry {
	out := map[string]api.Entry{}
	for _, x := range l {
		x.Node = 0
		out[x.Path] = x
	}
	return out
}

// makeModel is what Make is to answer, in the words of the document.
func makeModel(d *disk.Disk, st api.State, x api.Package) ([]place.Item, api.Errno) {
	there := entries(d.Image())
	var out []place.Item
	for _, f := range x.Files {
		y := place.Item{File: f, At: f.Path}
		for _, v := range slices.Backward(st.Diverts) {
			if f.Kind != api.KDir && v.Path == f.Path {
				y.At = v.To
				if v.By == x.Name && v.By != "" {
					y.At = f.Path
				}
			}
		}
		for _, v := range slices.Backward(st.Overs) {
			if v.Path == f.Path {
				y.File.Meta = v.Meta
			}
		}
		_, has := there[y.At]
		y.Fresh = !has
		for _, o := range out {
			if o.At == y.At {
				return nil, api.EDIVERT
			}
		}
		if has && f.Kind == api.KDir && there[y.At].Kind != api.KDir {
			return nil, api.ENOTDIR
		}
		if has && f.Kind != api.KDir && there[y.At].Kind == api.KDir {
			return nil, api.EISDIR
		}
		parent := y.At[:strings.LastIndex(y.At, "/")]
		if parent == "" {
			parent = "/"
		}
		if up, has := there[parent]; !y.Fresh {
		} else if has && up.Kind != api.KDir {
			return nil, api.ENOTDIR
		} else if !has {
			i := slices.IndexFunc(x.Files, func(f api.File) bool { return f.Path == parent })
			if i < 0 || x.Files[i].Kind != api.KDir {
				return nil, api.ENOENT
			}
		}
		out = append(out, y)
	}
	return out, api.OK
}

// P21.1

func TestMakeRandom(t *testing.T) {
	r := rand.New(rand.NewPCG(21, 1))
	seen := map[api.Errno]int{}
	for range 20000 {
		w := randomWorld(r)
		d := holding(t, w.on...)
		l, e := made(t, d, w.st, w.x)
		want, f := makeModel(d, w.st, w.x)
		if !slices.Equal(l, want) || e != f {
			t.Fatalf("%v: %v %d, want %v %d", w, l, e, want, f)
		}
		seen[e]++
	}
	for _, e := range []api.Errno{api.OK, api.EDIVERT, api.ENOTDIR, api.EISDIR, api.ENOENT} {
		if seen[e] < 50 {
			t.Errorf("%d times %d", seen[e], e)
		}
	}
}

// fitting are random worlds of which Make makes items, which Stage has no error
// for.
func fitting(t *testing.T, r *rand.Rand, n int, do func(w world, l []place.Item)) {
	t.Helper()
	for n > 0 {
		w := randomWorld(r)
		l, e := place.Make(holding(t, w.on...), w.st, w.x)
		if e == api.OK && len(l) > 0 && place.Stage(holding(t, w.on...), l) == api.OK {
			n--
			do(w, l)
		}
	}
}

// all is what installs items.
func all(d *disk.Disk, l []place.Item) api.Errno {
	for _, do := range []call{place.Stage, place.Swap, place.Commit} {
		if e := do(d, l); e != api.OK {
			return e
		}
	}
	return api.OK
}

// after is what is to be there when a package was installed.
func after(old []api.Entry, l []place.Item) map[string]api.Entry {
	out := entries(old)
	for _, x := range l {
		if x.Fresh || x.File.Kind != api.KDir {
			out[x.At] = api.Entry{Path: x.At, Kind: x.File.Kind, Meta: x.File.Meta, Text: x.File.Text}
		}
	}
	return out
}

func sameEntries(a, b map[string]api.Entry) bool { return fmt.Sprint(a) == fmt.Sprint(b) }

// P21.5

func TestPlaced(t *testing.T) {
	moved, overridden, swapped := 0, 0, 0
	fitting(t, rand.New(rand.NewPCG(21, 5)), 3000, func(w world, l []place.Item) {
		d := holding(t, w.on...)
		want := after(d.Image(), l)
		must(t, all(d, l))
		if got := entries(d.Image()); !sameEntries(got, want) || d.Pending() > 0 || len(d.Dirty()) > 0 {
			t.Fatalf("%v: %v, want %v", w, got, want)
		}
		d.Crash(0, nil)
		if got := entries(d.Image()); !sameEntries(got, want) {
			t.Fatalf("%v: after a crash %v, want %v", w, got, want)
		}
		steps := d.Steps()
		if must(t, place.Sweep(d)); d.Steps() != steps {
			t.Fatalf("%v: something is left", w)
		}
		for _, x := range l {
			if x.At != x.File.Path {
				moved++
			}
			if x.File.Meta == own {
				overridden++
			}
			if x.File.Kind != api.KDir && !x.Fresh {
				swapped++
			}
		}
	})
	if moved < 100 || overridden < 100 || swapped < 100 {
		t.Errorf("%d were diverted, %d overridden, %d there", moved, overridden, swapped)
	}
}

// The chapter's example: first beside it, then there.
func TestExample(t *testing.T) {
	d := holding(t)
	l, e := place.Make(d, api.State{}, files(file("/a", "text")))
	must(t, e)
	for _, c := range []struct {
		do call
		at string
	}{{place.Stage, "/a.dpkg-new"}, {place.Swap, "/a"}, {place.Commit, "/a"}} {
		must(t, c.do(d, l))
		if text, e := d.Read(c.at); text != "text" || e != api.OK || len(d.Image()) != 2 {
			t.Errorf("%s: %v", c.at, d.Image())
		}
	}
}

// P21.6

// blocked is a disk on which something keeps items from being installed: limits,
// or a directory in the way; and more of each, by a number.
func blocked(t *testing.T, w world, l []place.Item, n int) *disk.Disk {
	t.Helper()
	d := holding(t, w.on...)
	size := 0
	for _, x := range d.Image() {
		size += len(x.Text)
	}
	x, more := l[n/5%len(l)], n/5
	switch n % 5 {
	case 0:
		d.Bound(api.Limits{Files: len(d.Image()) + more})
	case 1:
		d.Bound(api.Limits{Bytes: max(1, size+7*more)})
	case 2:
		d.Bound(api.Limits{Name: len(newEnd) + more%3})
	case 3:
		if dir, _ := path.Split(x.At); x.File.Kind != api.KDir && isDir(d, dir) {
			must(t, mkdir(x.At+newEnd, oldMeta).do(d))
		}
	case 4: // which Swap alone finds
		if x.File.Kind != api.KDir && !x.Fresh {
			must(t, mkdir(x.At+tmpEnd, oldMeta).do(d))
		}
	}
	must(t, d.Sync("/"))
	return d
}

func isDir(d *disk.Disk, p string) bool {
	x, _ := d.Stat(p)
	return x.Kind == api.KDir
}

func TestUndone(t *testing.T) {
	failed := map[string]int{}
	fitting(t, rand.New(rand.NewPCG(21, 6)), 300, func(w world, l []place.Item) {
		for n := range 50 {
			d := blocked(t, w, l, n)
			image := d.Image()
			what, e := "Stage", place.Stage(d, l)
			if e == api.OK {
				what, e = "Swap", place.Swap(d, l)
			}
			if e == api.OK {
				continue
			}
			failed[fmt.Sprint(what, e)]++
			must(t, place.Undo(d, l))
			if !slices.Equal(d.Image(), image) || !slices.Equal(d.Kept(), image) || d.Pending() > 0 {
				t.Fatalf("%v: behind %s with %d: %v, want %v", w, what, e, d.Image(), image)
			}
			steps := d.Steps()
			must(t, place.Undo(d, l))
			if !slices.Equal(d.Image(), image) || d.Steps() != steps+1 {
				t.Fatalf("%v: a second Undo changes something", w)
			}
		}
	})
	// Also where nothing had to go wrong, and where the package's directory comes
	// behind what is to be in it.
	fitting(t, rand.New(rand.NewPCG(21, 66)), 300, func(w world, l []place.Item) {
		d := holding(t, w.on...)
		image := d.Image()
		must(t, place.Stage(d, l))
		must(t, place.Swap(d, l))
		must(t, place.Undo(d, l))
		if !slices.Equal(d.Image(), image) || d.Pending() > 0 {
			t.Fatalf("%v: %v, want %v", w, d.Image(), image)
		}
	})
	d := holding(t)
	st := api.State{Diverts: []api.Divert{{Path: "/a", To: "/z/a"}}}
	l, e := place.Make(d, st, files(file("/a", "x"), file("/b", "y"), dir("/z")))
	must(t, e)
	l = items(l[1], l[0], l[2])
	if e := place.Stage(d, l); e != api.ENOENT {
		t.Errorf("below a directory that comes later: %d", e)
	}
	must(t, place.Undo(d, l))
	if len(d.Image()) != 1 {
		t.Error(d.Image())
	}
	for _, what := range []string{"Stage10", "Stage9", "Stage8", "Stage6", "Swap6"} {
		if failed[what] < 50 {
			t.Errorf("%d times %s: %v", failed[what], what, failed)
		}
	}
}

// P21.7

func TestSwept(t *testing.T) {
	r := rand.New(rand.NewPCG(21, 7))
	for range 3000 {
		var l []api.File
		for _, p := range []string{"/a", "/d", "/d/a", "/d/."} {
			if parent, _ := path.Split(p); parent != "/" && pack.File(l, parent) < 0 {
				continue
			}
			if p != "/d/." && r.IntN(2) == 0 {
				l = append(l, pick(r, file(p, "text of "+p), toLink(p, "x"), dir(p)))
			}
			if parent, _ := path.Split(p); parent != "/" && l[pack.File(l, parent)].Kind != api.KDir {
				l = slices.DeleteFunc(l, func(f api.File) bool { return f.Path == p })
				continue
			}
			for _, ending := range []string{newEnd, tmpEnd, newEnd + newEnd, newEnd + tmpEnd, tmpEnd + newEnd, tmpEnd + tmpEnd} {
				if r.IntN(3) == 0 {
					l = append(l, pick(r, file(p+ending, "text of "+p+ending), file(p+ending, ""), toLink(p+ending, "x"), dir(p+ending)))
				}
			}
		}
		d := holding(t, l...)
		old := entries(d.Image())
		must(t, place.Sweep(d))
		now := entries(d.Image())
		if left := leftOvers(now); len(left) > 0 || d.Pending() > 0 {
			t.Fatalf("%v: %v is left", l, left)
		}
		for p, x := range old {
			if !ends(p) && now[p] != x || x.Kind == api.KDir && now[p] != x {
				t.Fatalf("%v: %s is %v", l, p, now[p])
			}
		}
		for p, x := range now {
			if _, was := old[p]; !was && !strings.HasPrefix(x.Text, "text of "+p+".dpkg-") && x.Text != "x" && x.Text != "" {
				t.Fatalf("%v: %s is %v", l, p, x)
			}
		}
		steps := d.Steps()
		must(t, place.Sweep(d))
		if d.Steps() != steps {
			t.Fatalf("%v: a second time something is done", l)
		}
	}
}

func ends(p string) bool { return strings.HasSuffix(p, newEnd) || strings.HasSuffix(p, tmpEnd) }

// leftOvers is what Sweep is to leave nothing of.
func leftOvers(l map[string]api.Entry) []string {
	var out []string
	for p, x := range l {
		if ends(p) && x.Kind != api.KDir {
			out = append(out, p)
		}
	}
	return out
}

// Crashes

// crashed lets power go off within a call, and what is pending and dirty be kept
// in part; then it looks at the disk.
func crashed(t *testing.T, make func() *disk.Disk, do func(d *disk.Disk) api.Errno, cuts []int, look func(what string, make func() *disk.Disk, e api.Errno)) {
	t.Helper()
	for n := 0; ; n++ {
		d := make()
		d.Fuse(n)
		e := do(d)
		pending := d.Pending()
		for keep := range pending + 1 {
			for _, cut := range cuts {
				look(fmt.Sprintf("with %d steps, %d kept, %d of a text", n, keep, cut), func() *disk.Disk {
					d := make()
					d.Fuse(n)
					do(d)
					d.Crash(keep, []int{cut, cut, cut})
					return d
				}, e)
			}
		}
		if d.On() {
			return
		}
	}
}

// between sees that each file is as before or as after, and swept, and that
// beside directories nothing else is there.
func between(t *testing.T, what string, now, before, behind map[string]api.Entry) {
	t.Helper()
	for p, x := range now {
		if x != before[p] && x != behind[p] {
			t.Fatalf("%s: %s is %v", what, p, x)
		}
	}
	for p, x := range before {
		if _, has := now[p]; !has {
			t.Fatalf("%s: %v went", what, x)
		}
	}
	if left := leftOvers(now); len(left) > 0 {
		t.Fatalf("%s: %v is left", what, left)
	}
}

// Whatever is kept, each file is behind Sweep as it was, or as it is to be; and
// what was answered as done lasts.
func TestCrashes(t *testing.T) {
	olds, news := 0, 0
	fitting(t, rand.New(rand.NewPCG(21, 8)), 60, func(w world, l []place.Item) {
		make := func() *disk.Disk { return holding(t, w.on...) }
		before, behind := entries(make().Image()), after(make().Image(), l)
		crashed(t, make, func(d *disk.Disk) api.Errno { return all(d, l) }, []int{0, 3, -1}, func(what string, make func() *disk.Disk, e api.Errno) {
			d := make()
			must(t, place.Sweep(d))
			now := entries(d.Image())
			between(t, what, now, before, behind)
			if e == api.OK && !sameEntries(now, behind) {
				t.Fatalf("%v: %s: %v, want %v", w, what, now, behind)
			}
			if sameEntries(now, before) {
				olds++
			}
			if sameEntries(now, behind) {
				news++
			}
		})
	})
	if olds < 100 || news < 100 {
		t.Errorf("%d times as before, %d times as after", olds, news)
	}
}

// The same of Undo, wherever Stage or Swap ended.
func TestCrashesOfUndo(t *testing.T) {
	fitting(t, rand.New(rand.NewPCG(21, 9)), 25, func(w world, l []place.Item) {
		for n := range 25 {
			begun := func() (*disk.Disk, api.Errno) {
				d := blocked(t, w, l, n)
				if e := place.Stage(d, l); e != api.OK {
					return d, e
				}
				return d, place.Swap(d, l)
			}
			start := blocked(t, w, l, n)
			before, behind := entries(start.Image()), after(start.Image(), l)
			if _, e := begun(); e == api.OK && n > 0 {
				continue
			}
			make := func() *disk.Disk {
				d, _ := begun()
				return d
			}
			crashed(t, make, func(d *disk.Disk) api.Errno { return place.Undo(d, l) }, []int{0, -1}, func(what string, make func() *disk.Disk, e api.Errno) {
				d := make()
				d.Bound(api.Limits{})
				must(t, place.Sweep(d))
				now := entries(d.Image())
				between(t, what, now, before, behind)
				if e == api.OK && !sameEntries(now, before) {
					t.Fatalf("%v: %s: %v, want %v", w, what, now, before)
				}
			})
		}
	})
}

// Whatever crash happens within Sweep, another one leads to the same.
func TestCrashesOfSweep(t *testing.T) {
	again := 0
	fitting(t, rand.New(rand.NewPCG(21, 10)), 12, func(w world, l []place.Item) {
		make := func() *disk.Disk { return holding(t, w.on...) }
		crashed(t, make, func(d *disk.Disk) api.Errno { return all(d, l) }, []int{1}, func(_ string, make func() *disk.Disk, _ api.Errno) {
			swept := make()
			must(t, place.Sweep(swept))
			crashed(t, make, place.Sweep, []int{0}, func(what string, make func() *disk.Disk, _ api.Errno) {
				d := make()
				must(t, place.Sweep(d))
				if !slices.Equal(d.Image(), swept.Image()) {
					t.Fatalf("%v: %s: %v, want %v", w, what, d.Image(), swept.Image())
				}
				steps := d.Steps()
				must(t, place.Sweep(d))
				if d.Steps() != steps {
					t.Fatalf("%v: %s: one more time something is done", w, what)
				}
				again++
			})
		})
	})
	if again < 200 {
		t.Errorf("%d crashes", again)
	}
}
