package conf_test

import (
	"fmt"
	"slices"
	"testing"

	"cellarer/api"
	"cellarer/bits"
	"cellarer/conf"
	"cellarer/disk"
	"cellarer/place"
)

// What becomes of a conffile.
const (
	install = 1
	leave   = 2
	beside  = 3

	dist = ".dpkg-dist"
)

var (
	hadMeta = api.Meta{Mode: 0o640, Uid: 1, Gid: 2}
	newMeta = api.Meta{Mode: 0o600, Uid: 3, Gid: 4}
)

func must(t *testing.T, e api.Errno) {
	t.Helper()
	if e != api.OK {
		t.Fatal(e)
	}
}

// put lets something be at a path: a directory, a link, or a file with a text.
func put(t *testing.T, d *disk.Disk, p string, kind int, text string) {
	t.Helper()
	x := api.Op{Path: p, Meta: hadMeta, Text: text}
	switch kind {
	case api.KDir:
		x.Kind = api.OMkdir
	case api.KLink:
		x.Kind = api.OSymlink
	default:
		x.Kind = api.OCreate
		must(t, d.Do(x))
		x.Kind = api.OWrite
	}
	must(t, d.Do(x))
	if kind == api.KFile {
		must(t, d.Sync(p))
	}
	must(t, d.Sync("/"))
}

// holding is a disk with files of some texts.
func holding(t *testing.T, texts ...string) *disk.Disk {
	t.Helper()
	d := disk.New(api.Limits{})
	for i := 0; i < len(texts); i += 2 {
		put(t, d, texts[i], api.KFile, texts[i+1])
	}
	return d
}

func look(d *disk.Disk) string {
	return fmt.Sprint(d.Image(), d.Kept(), d.Dirty(), d.Steps(), d.Pending(), d.On())
}

// without is disks of which nothing can be seen.
func without(t *testing.T, texts ...string) []*disk.Disk {
	t.Helper()
	off := holding(t, texts...)
	off.Fuse(0)
	off.Sync("/")
	return []*disk.Disk{nil, {}, off}
}

// record has conffiles: paths, each with the text that came with it.
func record(texts ...string) api.Record {
	x := api.Record{Name: "x", Version: "1", State: api.SInstalled}
	for i := 0; i < len(texts); i += 2 {
		x.Confs = append(x.Confs, api.Conf{Path: texts[i], Sum: bits.Sum(texts[i+1])})
	}
	return x
}

func item(p, at, text string, fresh bool) place.Item {
	return place.Item{File: api.File{Path: p, Kind: api.KFile, Meta: newMeta, Text: text, Conf: true}, At: at, Fresh: fresh}
}

func items(l ...place.Item) []place.Item { return l }

// filter sees that all that is given stays as it is, with what is behind the
// ends of lists.
func filter(t *testing.T, d *disk.Disk, x api.Record, l []place.Item) []place.Item {
	t.Helper()
	l = append(slices.Clone(l), place.Item{At: "spare"})
	given := fmt.Sprintf("%#v", []any{x, l})
	before := look(d)
	out := conf.Filter(d, x, l[:len(l)-1])
	if fmt.Sprintf("%#v", []any{x, l}) != given || look(d) != before {
		t.Errorf("Filter changed %s", given)
	}
	return out
}

// P22.1

func TestDecide(t *testing.T) {
	for _, c := range []struct {
		there          bool
		now, old, next string
		want           int
	}{
		// It is not there, and nobody brought it before, or somebody took it away.
		{false, "", "", "c", install},
		{false, "", "", "", install},
		{false, "b", "", "c", install},
		{false, "", "b", "c", leave},
		{false, "", "c", "c", leave},
		{false, "b", "b", "c", leave},
		// The same is there.
		{true, "c", "c", "c", leave},
		{true, "c", "b", "c", leave},
		{true, "c", "", "c", leave},
		// Nobody changed it, but the package.
		{true, "b", "b", "c", install},
		// Somebody changed it, and the package did not.
		{true, "a", "c", "c", leave},
		// Both did, or what is there came from nobody.
		{true, "a", "b", "c", beside},
		{true, "a", "", "c", beside},
		// Texts that are no sums
		{true, "", "", "", leave},
		{true, "", "", "c", install},
		{true, "", "b", "", leave},
		{true, "", "b", "c", beside},
		{true, "a", "", "", leave},
		{true, "a", "b", "", beside},
		{true, "A", "a", "c", beside},
	} {
		if got := conf.Decide(c.there, c.now, c.old, c.next); got != c.want {
			t.Errorf("Decide(%v, %q, %q, %q): %d, want %d", c.there, c.now, c.old, c.next, got, c.want)
		}
	}
	all := []string{"", "a", "b", "c"}
	for i := range 128 {
		there, now, old, next := i%2 > 0, all[i/2%4], all[i/8%4], all[i/32]
		got := conf.Decide(there, now, old, next)
		if !there {
			if got != map[bool]int{true: install, false: leave}[old == ""] {
				t.Errorf("Decide of none, with %q before: %d", old, got)
			}
			continue
		}
		if (got == install) != (now == old && now != next) || (got == beside) != (now != next && now != old && old != next) || got < install || got > beside {
			t.Errorf("Decide(true, %q, %q, %q): %d", now, old, next, got)
		}
	}
}

// P22.2

func TestOld(t *testing.T) {
	x := api.Record{Name: "/z", Version: "/z", Confs: []api.Conf{{Path: "/b", Sum: "1"}, {Path: "/a", Sum: "2"}, {Path: "/b", Sum: "3"}, {Path: "", Sum: "4"}, {Path: "/c", Sum: ""}, {Path: "/c", Sum: "5"}}}
	for p, want := range map[string]string{"/b": "1", "/a": "2", "": "4", "/c": "", "/": "", "/bb": "", "b": "", "/b/": "", "/z": "", "1": ""} {
		if got := conf.Old(x, p); got != want {
			t.Errorf("Old of %q: %q, want %q", p, got, want)
		}
		if got := conf.Old(api.Record{}, p); got != "" {
			t.Errorf("Old of %q, of nothing: %q", p, got)
		}
	}
}

func TestNow(t *testing.T) {
	d := holding(t, "/f", "text", "/empty", "")
	put(t, d, "/d", api.KDir, "")
	put(t, d, "/d/f", api.KFile, "deep")
	put(t, d, "/l", api.KLink, "/f")
	put(t, d, "/ld", api.KLink, "/d")
	must(t, d.Do(api.Op{Kind: api.OLink, Path: "/f", To: "/name"}))
	before := look(d)
	for p, text := range map[string]string{"/f": "text", "/empty": "", "/d/f": "deep", "/name": "text"} {
		if got, there := conf.Now(d, p); got != bits.Sum(text) || !there {
			t.Errorf("Now of %s: %s %v", p, got, there)
		}
		for _, d := range without(t, "/f", "text", "/empty", "", "/name", "text") {
			if got, there := conf.Now(d, p); got != "" || there {
				t.Errorf("without power, Now of %s: %s %v", p, got, there)
			}
		}
	}
	if got, _ := conf.Now(d, "/empty"); got != "cbf29ce484222325" {
		t.Errorf("of an empty text: %s", got)
	}
	for _, p := range []string{"/none", "/d", "/", "/l", "/ld", "/ld/f", "/f/f", "/d/none", "", "f", "/f/", "/d/../f", "/no/f"} {
		if got, there := conf.Now(d, p); got != "" || there {
			t.Errorf("Now of %q: %s %v", p, got, there)
		}
	}
	if look(d) != before {
		t.Error("Now changed the disk")
	}
}

// What is there, what came before and what comes: each in each way.
func TestFilter(t *testing.T) {
	const p = "/f"
	for i, c := range []struct {
		there string // "-": nothing, "/": a directory, ">": a link; else a file's text
		old   string // "-": nobody brought it before
		next  string
		want  int
	}{
		{"-", "-", "new", install},
		{"-", "-", "", install},
		{"-", "old", "new", leave},
		{"-", "new", "new", leave},
		{"-", "", "new", leave},
		{"new", "new", "new", leave},
		{"new", "old", "new", leave},
		{"new", "-", "new", leave},
		{"", "-", "", leave},
		{"", "old", "", leave},
		{"old", "old", "new", install},
		{"", "", "new", install},
		{"old", "old", "", install},
		{"mine", "new", "new", leave},
		{"", "new", "new", leave},
		{"mine", "old", "new", beside},
		{"mine", "-", "new", beside},
		{"", "old", "new", beside},
		{"", "-", "new", beside},
		{"mine", "", "new", beside},
		{"mine", "old", "", beside},
		{"/", "-", "new", install},
		{"/", "old", "new", install},
		{"/", "new", "new", install},
		{">", "-", "new", install},
		{">", "old", "new", install},
		{">", "new", "new", install},
	} {
		for _, at := range []string{p, "/g"} { // also where it is diverted to
			for _, kind := range []int{api.KFile, api.KLink, api.KDir, 0} {
				for j := range 4 {
					d := disk.New(api.Limits{})
					switch c.there {
					case "-":
					case "/":
						put(t, d, at, api.KDir, "")
					case ">":
						put(t, d, at, api.KLink, "/none")
					default:
						put(t, d, at, api.KFile, c.there)
					}
					distThere := j%2 > 0
					if distThere {
						put(t, d, at+dist, []int{api.KFile, api.KLink}[i%2], "left")
					}
					x := record("/other", c.next)
					if c.old != "-" {
						x = record("/other", c.next, p, c.old, p, c.next, "/g", "else")
					}
					y := item(p, at, c.next, j > 1)
					y.File.Kind = kind
					var want []place.Item
					switch c.want {
					case install:
						want = items(y)
					case beside:
						z := y
						z.At, z.Fresh = at+dist, !distThere
						want = items(z)
					}
					if got := filter(t, d, x, items(y)); !slices.Equal(got, want) {
						t.Errorf("%v at %s, %s.dpkg-dist there: %v: %v, want %v", c, at, at, distThere, got, want)
					}
					// What is no conffile stays, whatever is there.
					y.File.Conf = false
					if got := filter(t, d, x, items(y)); !slices.Equal(got, items(y)) {
						t.Errorf("%v, no conffile: %v", c, got)
					}
				}
			}
		}
	}
}

func TestFilterInOrder(t *testing.T) {
	d := holding(t, "/a", "mine", "/b", "old", "/c", "mine", "/c"+dist, "left", "/d", "new", "/z"+dist, "left")
	x := record("/a", "old", "/b", "old", "/c", "old", "/d", "old", "/e", "old")
	plain := item("/a", "/a", "new", false)
	plain.File.Conf = false
	l := items(
		item("/z", "/z", "new", true), item("/e", "/e", "new", true), item("/d", "/d", "new", false), item("/c", "/c", "new", false),
		plain, item("/b", "/b", "new", false), item("/a", "/a", "new", false), item("/a", "/b", "new", false),
	)
	want := items(item("/z", "/z", "new", true), item("/c", "/c"+dist, "new", false), plain, item("/b", "/b", "new", false), item("/a", "/a"+dist, "new", true), item("/a", "/b", "new", false))
	if got := filter(t, d, x, l); !slices.Equal(got, want) {
		t.Errorf("%v, want %v", got, want)
	}
	if got := filter(t, d, x, nil); len(got) > 0 {
		t.Errorf("of nothing: %v", got)
	}
	// A record's first conffile of a path counts.
	for _, c := range []struct {
		x    api.Record
		want int
	}{{record("/b", "old", "/b", "other"), 1}, {record("/b", "new", "/b", "old"), 0}} {
		if got := filter(t, d, c.x, items(item("/b", "/b", "new", false))); len(got) != c.want {
			t.Errorf("%v: %v", c.x.Confs, got)
		}
	}
	// What can't be beside it, as its path would be too long, is beside it for Filter.
	far := "/" + string(slices.Repeat([]byte("a"), api.MaxPath-1))
	d = holding(t, far, "mine")
	if got := filter(t, d, api.Record{}, items(item(far, far, "new", false))); !slices.Equal(got, items(item(far, far+dist, "new", true))) {
		t.Errorf("of the longest path: %v", got)
	}
	// A directory beside it is there, too.
	d = holding(t, "/a", "mine")
	put(t, d, "/a"+dist, api.KDir, "")
	if got := filter(t, d, api.Record{}, items(item("/a", "/a", "new", true))); !slices.Equal(got, items(item("/a", "/a"+dist, "new", false))) {
		t.Errorf("with a directory beside it: %v", got)
	}
}

// Without power nothing is there.
func TestFilterWithoutPower(t *testing.T) {
	for _, d := range without(t, "/a", "mine", "/b", "old") {
		plain := item("/p", "/p", "new", false)
		plain.File.Conf = false
		l := items(item("/a", "/a", "new", false), item("/b", "/b", "new", false), plain)
		if got := filter(t, d, record("/b", "old"), l); !slices.Equal(got, items(l[0], plain)) {
			t.Errorf("%v", got)
		}
	}
}

// P22.3

func TestKept(t *testing.T) {
	d := holding(t, "/a", "1", "/b", "", "/b.to", "2", "/c.to", "3", "/spare", "")
	put(t, d, "/d", api.KDir, "")
	put(t, d, "/l", api.KLink, "/none")
	diverts := func(l ...api.Divert) api.State { return api.State{Diverts: l} }
	for _, c := range []struct {
		what string
		st   api.State
		x    api.Record
		want []string
	}{
		{"none", diverts(), record(), nil},
		{"a file", diverts(), record("/a", "1"), []string{"/a"}},
		{"a file that was changed", diverts(), record("/a", "x"), []string{"/a"}},
		{"an empty one", diverts(), record("/b", "x"), []string{"/b"}},
		{"what is not there", diverts(), record("/none", "x", "/a/x", "", "/l/x", "", "", "", "a", ""), nil},
		{"a directory, and a link", diverts(), record("/d", "", "/l", ""), []string{"/d", "/l"}},
		{"in order", diverts(), record("/l", "", "/none", "", "/a", "", "/d", "", "/a", ""), []string{"/l", "/a", "/d", "/a"}},
		{"diverted", diverts(api.Divert{Path: "/b", To: "/b.to"}, api.Divert{Path: "/c", To: "/c.to", By: "y"}), record("/a", "", "/b", "", "/c", ""), []string{"/a", "/b.to", "/c.to"}},
		{"diverted by itself", diverts(api.Divert{Path: "/b", To: "/none", By: "x"}), record("/b", ""), []string{"/b"}},
		{"diverted to where nothing is", diverts(api.Divert{Path: "/b", To: "/none"}), record("/a", "", "/b", ""), []string{"/a"}},
		{"diverted to a directory", diverts(api.Divert{Path: "/b", To: "/d"}), record("/b", ""), []string{"/d"}},
		{"a directory, diverted", diverts(api.Divert{Path: "/d", To: "/a"}), record("/d", ""), []string{"/a"}},
		{"the first diversion", diverts(api.Divert{Path: "/b", To: "/b.to"}, api.Divert{Path: "/b", To: "/a"}), record("/b", ""), []string{"/b.to"}},
	} {
		given, before := fmt.Sprintf("%#v", []any{c.st, c.x}), look(d)
		if got := conf.Kept(d, c.x, c.st); !slices.Equal(got, c.want) {
			t.Errorf("%s: %v, want %v", c.what, got, c.want)
		}
		if fmt.Sprintf("%#v", []any{c.st, c.x}) != given || look(d) != before {
			t.Errorf("%s: Kept changed %s", c.what, given)
		}
		for _, d := range without(t, "/a", "1", "/b", "2") {
			if got := conf.Kept(d, c.x, c.st); len(got) > 0 {
				t.Errorf("%s without power: %v", c.what, got)
			}
		}
	}
	nobody := record("/b", "")
	nobody.Name = ""
	if got := conf.Kept(d, nobody, diverts(api.Divert{Path: "/b", To: "/b.to"})); !slices.Equal(got, []string{"/b.to"}) {
		t.Errorf("of no name: %v", got)
	}
}

// P22.4

// update is a conffile of a package that is installed again.
type update struct {
	d     *disk.Disk
	l     []place.Item // as Filter leaves it
	there string
	mine  bool // what is there may not be replaced
}

// updates are all ways in which a conffile may come; /c is diverted to /e/c.
func updates(t *testing.T, do func(u func() update)) {
	t.Helper()
	st := api.State{Diverts: []api.Divert{{Path: "/c", To: "/e/c", By: "y"}}}
	kinds := []string{"-", ">", "", "old", "new", "mine"}
	for i := range 6 * 4 * 3 * 2 * 2 {
		there, old := kinds[i%6], []string{"-", "", "old", "new"}[i/6%4]
		next, p := []string{"", "old", "new"}[i/24%3], []string{"/c", "/a"}[i/72%2]
		at := map[string]string{"/c": "/e/c", "/a": "/a"}[p]
		do(func() update {
			d := disk.New(api.Limits{})
			put(t, d, "/e", api.KDir, "")
			switch there {
			case "-":
			case ">":
				put(t, d, at, api.KLink, "/none")
			default:
				put(t, d, at, api.KFile, there)
			}
			if i/144 > 0 {
				put(t, d, at+dist, api.KFile, "left")
			}
			x := record("/b", there)
			if old != "-" {
				x = record("/b", there, p, old)
			}
			f := api.File{Path: p, Kind: api.KFile, Meta: newMeta, Text: next, Conf: true}
			l, e := place.Make(d, st, api.Package{Name: "x", Version: "2", Files: []api.File{f}})
			must(t, e)
			mine := there != "-" && there != ">" && there != next && (old == "-" || there != old)
			return update{d, filter(t, d, x, l), at, mine}
		})
	}
}

func all(d *disk.Disk, l []place.Item) api.Errno {
	if e := place.Stage(d, l); e != api.OK {
		return e
	}
	if e := place.Swap(d, l); e != api.OK {
		return e
	}
	return place.Commit(d, l)
}

// What somebody changed stays as it is, all of it, wherever power goes off and
// whatever is kept; and so it does when all is undone.
func TestMineStays(t *testing.T) {
	mine, others := 0, 0
	updates(t, func(make func() update) {
		first := make()
		want, _ := first.d.Stat(first.there)
		want.Node = 0
		if !first.mine {
			others++
			must(t, all(first.d, first.l))
			return
		}
		mine++
		stays := func(what string, d *disk.Disk) {
			t.Helper()
			got, e := d.Stat(first.there)
			got.Node = 0
			if got != want || e != api.OK {
				t.Fatalf("%s: %v is %v %d", what, want, got, e)
			}
		}
		for n := 0; ; n++ {
			u := make()
			u.d.Fuse(n)
			e := all(u.d, u.l)
			pending := u.d.Pending()
			for keep := range pending + 1 {
				u := make()
				u.d.Fuse(n)
				all(u.d, u.l)
				u.d.Crash(keep, []int{1})
				stays("crashed", u.d)
				must(t, place.Sweep(u.d))
				stays("swept", u.d)
			}
			if e != api.EOFF {
				must(t, e)
				stays("installed", u.d)
				u.d.Fuse(-1)
				must(t, place.Undo(u.d, u.l))
				stays("undone", u.d)
				break
			}
		}
	})
	if mine < 50 || others < 50 {
		t.Errorf("%d were changed, %d were not", mine, others)
	}
}

// What Filter leaves is where nothing was, or what came before, or something
// that is no file; or it is beside what is there.
func TestLeft(t *testing.T) {
	seen := map[int]int{}
	updates(t, func(make func() update) {
		u := make()
		if len(u.l) == 0 {
			seen[leave]++
			return
		}
		y := u.l[0]
		if u.mine != (y.At == u.there+dist) || !u.mine && y.At != u.there {
			t.Errorf("%v: %v", u.there, y)
		}
		if u.mine {
			seen[beside]++
		} else {
			seen[install]++
		}
		must(t, all(u.d, u.l))
		x, e := u.d.Stat(y.At)
		if e != api.OK || x.Kind != api.KFile || x.Text != y.File.Text || x.Meta != newMeta {
			t.Errorf("%v is %v %d", y, x, e)
		}
	})
	for _, n := range []int{install, leave, beside} {
		if seen[n] < 20 {
			t.Errorf("%d times %d", seen[n], n)
		}
	}
}

// The chapter's example.
func TestExample(t *testing.T) {
	if got := conf.Decide(true, bits.Sum("mine"), bits.Sum("old"), bits.Sum("new")); got != beside {
		t.Error(got)
	}
}
