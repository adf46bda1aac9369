package engine_test

import (
	"fmt"
	"maps"
	"math/rand/v2"
	"slices"
	"strings"
	"testing"

	"cellarer/api"
	"cellarer/disk"
	"cellarer/divs"
	"cellarer/engine"
	"cellarer/pack"
	"cellarer/path"
	"cellarer/place"
	"cellarer/status"
	"cellarer/store"
)

func pick[T any](r *rand.Rand, l ...T) T { return l[r.IntN(len(l))] }

func randomFiles(r *rand.Rand, text string) []api.File {
	var out []api.File
	for _, p := range []string{"/c", "/d", "/d/c", "/d/e", "/d/e/f", "/d/f", "/f", "/g"} {
		parent, _ := path.Split(p)
		if r.IntN(3) == 0 || parent != "/" && pack.File(out, parent) < 0 {
			continue
		}
		switch p {
		case "/d", "/d/e":
			out = append(out, dir(p))
		case "/c", "/d/c":
			out = append(out, conffile(p, pick(r, "1", "2")))
		case "/g":
			out = append(out, pick(r, file(p, text), link(p, text), conffile(p, "1")))
		default:
			out = append(out, file(p, pick(r, "", text, text+" of "+p)))
		}
	}
	return out
}

func randomScript(r *rand.Rand) []api.Act {
	var out []api.Act
	for len(out) < api.MaxActs && r.IntN(3) == 0 {
		out = append(out, pick(r,
			fire(pick(r, "t", "u", "/d")),
			api.Act{Kind: api.COver, Path: pick(r, "/f", "/d/f"), Meta: own, Force: true},
			api.Act{Kind: api.CUnover, Path: pick(r, "/f", "/d/f")},
			api.Act{Kind: api.CDivert, Path: "/f", To: "/f.x", Name: pick(r, "", "a")},
			api.Act{Kind: api.CDivert, Path: "/d/f", To: "/d.f", Name: pick(r, "", "b")},
		))
	}
	return out
}

// packages are of three names, each in two versions.
func packages(r *rand.Rand) []api.Package {
	var out []api.Package
	for _, name := range []string{"a", "b", "c"} {
		for _, version := range []string{"1", "2"} {
			x := api.Package{Name: name, Version: version, Files: randomFiles(r, name+version)}
			for _, other := range []string{"a", "b", "c"} {
				if r.IntN(2) == 0 {
					x.Replaces = append(x.Replaces, other)
				}
				if other < name && r.IntN(4) == 0 {
					x.Depends = append(x.Depends, rels(other))
				}
				if other != name && r.IntN(16) == 0 {
					x.Conflicts = append(x.Conflicts, api.Rel{Name: other, Op: "=", Version: "1"})
				}
			}
			for _, trigger := range []string{"/", "/d", "t"} {
				if r.IntN(3) == 0 {
					x.Interests = append(x.Interests, api.Interest{Trigger: trigger, Noawait: r.IntN(2) == 0})
				}
			}
			for i := range x.Scripts {
				x.Scripts[i] = randomScript(r)
			}
			out = append(out, x)
		}
	}
	return out
}

// op is a random call: what it is, and what it is in the model.
type op struct {
	what string
	name string
	x    api.Package // that is unpacked
	do   call
	as   func(m *model) api.Errno
}

func randomOp(t *testing.T, r *rand.Rand, pool []api.Package) op {
	x := pick(r, pool...)
	named := func(what string, do named, as func(*model, string, []api.Package) api.Errno) op {
		return op{what + " " + x.Name, x.Name, api.Package{}, do.of(t, x.Name, pool...), func(m *model) api.Errno { return as(m, x.Name, pool) }}
	}
	switch r.IntN(8) {
	case 0, 1:
		return named("configure", engine.Configure, (*model).configure)
	case 2:
		return named("remove", engine.Remove, (*model).remove)
	case 3:
		return named("purge", engine.Purge, (*model).purge)
	}
	return op{"unpack " + x.Name + x.Version, x.Name, x, unpack(t, x), func(m *model) api.Errno { return m.unpack(x) }}
}

// meddle is what somebody does to files meanwhile.
func meddle(t *testing.T, r *rand.Rand, d *disk.Disk) {
	t.Helper()
	p := pick(r, "/c", "/d/c", "/g", "/f", "/d/f")
	if x, e := d.Stat(p); e != api.OK || x.Kind != api.KFile {
		return
	}
	switch r.IntN(4) {
	case 0, 1:
		must(t, d.Do(api.Op{Kind: api.OWrite, Path: p, Text: pick(r, "mine", "1", "2")}))
		must(t, d.Sync(p))
	case 2:
		must(t, d.Do(api.Op{Kind: api.OUnlink, Path: p}))
		must(t, d.Sync("/"))
	}
}

// await lets a package that is configured await another one, as if triggers had
// been taken in.
func await(t *testing.T, r *rand.Rand, d *disk.Disk, st api.State) api.State {
	t.Helper()
	i := slices.IndexFunc(st.Records, func(x api.Record) bool { return x.State >= api.SAwaited })
	if i < 0 {
		return st
	}
	x := st.Records[i]
	x.Awaited = []string{pick(r, "a", "b", "c")}
	if r.IntN(2) == 0 {
		x.Awaited = path.Sorted(append(x.Awaited, "c"))
	}
	x.Pending = pick(r, nil, []string{"t"})
	x.State = status.Settled(x)
	st.Records = status.Put(st.Records, x)
	must(t, store.Records(d, st.Records))
	return st
}

// recovered puts in order what a crash left.
func recovered(t *testing.T, d *disk.Disk) {
	t.Helper()
	must(t, store.Clean(d))
	must(t, place.Sweep(d))
}

// P24.6

// halves sees that only what others await changed, and that a package is as
// before, as afterwards, or in an intermediate state.
func halves(t *testing.T, what, name string, before, now []api.Record, after []api.Record) {
	t.Helper()
	for _, l := range [][]api.Record{before, now} {
		for _, x := range l {
			i, j := status.Find(before, x.Name), status.Find(now, x.Name)
			if x.Name == name {
				continue
			}
			if i < 0 || j < 0 {
				t.Fatalf("%s: %s came or went", what, x.Name)
			}
			was, is := before[i], now[j]
			if !same(was, is) && (!slices.Contains(was.Awaited, name) || slices.Contains(is.Awaited, name) || is.State != status.Settled(is)) {
				t.Fatalf("%s: %v is %v", what, was, is)
			}
			is.State, is.Awaited = was.State, was.Awaited
			if !same(was, is) {
				t.Fatalf("%s: %v is %v", what, was, is)
			}
		}
	}
	own := func(l []api.Record) string {
		if i := status.Find(l, name); i >= 0 {
			return show(l[i])
		}
		return ""
	}
	if is := own(now); is != own(before) && is != own(after) {
		x := now[status.Find(now, name)]
		if x.State != api.SHalfInst && x.State != api.SUnpacked && x.State != api.SHalfConf {
			t.Fatalf("%s: %v", what, x)
		}
	}
}

// oldOrNew sees that each file is as before, or as it is to be; of a conffile
// that comes beside it too.
func oldOrNew(t *testing.T, what string, was, is, now map[string]api.Entry) {
	t.Helper()
	for p := range maps.Keys(allOf(was, is, now)) {
		if now[p] != was[p] && now[p] != is[p] {
			t.Fatalf("%s: %s is %v, was %v, is to be %v", what, p, now[p], was[p], is[p])
		}
	}
}

func allOf(l ...map[string]api.Entry) map[string]api.Entry {
	out := map[string]api.Entry{}
	for _, x := range l {
		maps.Copy(out, x)
	}
	return out
}

// P24.7

// mine are the files that somebody changed, and that are conffiles of a package,
// of the version that is there, and of the one that comes.
func mine(d *disk.Disk, st api.State, o op) map[string]api.Entry {
	i := status.Find(st.Records, o.name)
	if i < 0 {
		return nil
	}
	out := kept(d, st, st.Records[i])
	for p, x := range out {
		j := pack.File(o.x.Files, divs.From(st.Diverts, p))
		if x.Kind != api.KFile || j >= 0 && !o.x.Files[j].Conf {
			delete(out, p)
		}
	}
	return out
}

func stay(t *testing.T, what string, l, now map[string]api.Entry) {
	t.Helper()
	for p, x := range l {
		if now[p] != x {
			t.Fatalf("%s: the conffile %v is %v", what, x, now[p])
		}
	}
}

// history is calls, one after the other, with whatever happens to the disk.
type history struct {
	r    *rand.Rand
	d    *disk.Disk
	pool []api.Package
	told []string
	seen map[string]int
}

// Random packages come and go; each call is held to the model, with power that
// goes off and limits that strike. It holds P24.1 to P24.7 together.
func TestHistories(t *testing.T) {
	t.Parallel()
	seen := map[string]int{}
	for seed := range uint64(180) {
		r := rand.New(rand.NewPCG(24, seed))
		h := &history{r: r, d: world{}.disk(t), pool: packages(r), seen: seen}
		for range 40 {
			h.next(t)
		}
	}
	for _, what := range []string{"0", "3", "15", "16", "17", "18", "21", "off", "limit", "limit struck", "mine"} {
		if seen[what] < 50 {
			t.Errorf("%d times %q: %v", seen[what], what, seen)
		}
	}
}

func (h *history) next(t *testing.T) {
	t.Helper()
	meddle(t, h.r, h.d)
	st := loads(t, h.d)
	if h.r.IntN(4) == 0 {
		st = await(t, h.r, h.d, st)
	}
	o := randomOp(t, h.r, h.pool)
	codes := slices.Repeat([]int{0}, h.r.IntN(3))
	if h.r.IntN(6) == 0 {
		codes = append(codes, 1)
	}
	h.told = append(h.told, o.what)
	what := fmt.Sprint(h.told, codes, h.pool)
	m := newModel(h.d, st, codes)
	want := o.as(m)
	was, changed := entries(h.d), map[string]api.Entry(nil)
	if !strings.HasPrefix(o.what, "purge") {
		changed = mine(h.d, st, o)
	}
	h.seen["mine"] += len(changed)
	limited := h.limit()
	if h.r.IntN(2) == 0 {
		h.d.Fuse(h.r.IntN(90))
	}
	got := o.do(h.d, st, codes)
	off := !h.d.On()
	h.note(off, limited, got.e, want)
	if off {
		h.d.Crash(int(h.r.Uint64()), []int{h.r.IntN(5), int(h.r.Uint64()), 0, int(h.r.Uint64())})
	}
	h.d.Fuse(-1)
	h.d.Bound(api.Limits{})
	now := loads(t, h.d)
	switch {
	case !off && !same(got.st, now):
		t.Fatalf("%s: %v, on the disk %v", what, got.st, now)
	case !off && !limited && (got.e != want || !same(now, m.st) || !slices.Equal(got.codes, m.codes)):
		t.Fatalf("%s: %d %v %v\nwant %d %v %v", what, got.e, got.codes, now, want, m.codes, m.st)
	case !off && got.e == api.OK && (want != api.OK || !maps.Equal(entries(h.d), m.files)):
		t.Fatalf("%s: %v, want %d %v", what, entries(h.d), want, m.files)
	case !limited && !m.reached(now):
		t.Fatalf("%s: behind a crash %v, want one of %v", what, now, m.trace)
	}
	if !off && got.e == api.OK && o.x.Name != "" {
		placed(t, h.d, now, o.x, nil)
	}
	recovered(t, h.d)
	if again := loads(t, h.d); !same(again, now) {
		t.Fatalf("%s: recovered %v, was %v", what, again, now)
	}
	halves(t, what, o.name, st.Records, now.Records, m.st.Records)
	oldOrNew(t, what, was, m.files, entries(h.d))
	stay(t, what, changed, entries(h.d))
}

// limit lets a disk have a limit, sometimes.
func (h *history) limit() bool {
	if h.r.IntN(4) > 0 {
		return false
	}
	size := 0
	for _, x := range h.d.Image() {
		size += len(x.Text)
	}
	h.d.Bound(pick(h.r, api.Limits{Bytes: size + h.r.IntN(400)}, api.Limits{Files: len(h.d.Image()) + h.r.IntN(10)}, api.Limits{Name: 6 + h.r.IntN(8)}))
	return true
}

// note counts what happened.
func (h *history) note(off, limited bool, e, want api.Errno) {
	switch {
	case off:
		h.seen["off"]++
	case limited && e != want:
		h.seen["limit struck"]++
	case limited:
		h.seen["limit"]++
	}
	h.seen[fmt.Sprint(int(e))]++
}
