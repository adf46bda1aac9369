package disk

import (
	"math/rand"
	"slices"
	"strings"
	"testing"

	"cellarer/api"
	"cellarer/path"
	"cellarer/tree"
)

// event is what was done: an operation, or a Sync of a path.
type event struct {
	op   api.Op
	sync string
}

// model is a disk told in another way: by all that was done since its start,
// from which each answer is made anew.
type model struct {
	past   []event
	limits api.Limits
	off    bool
	fuse   int
	steps  int
}

// replay is the tree that events make, and the dirty files' first paths.
func replay(l []event) (*tree.Tree, []string) {
	t := tree.New()
	dirty := map[int]bool{}
	for _, ev := range l {
		p := ev.op.Path
		if ev.sync != "" {
			p = ev.sync
		}
		x, _ := t.Stat(p)
		if ev.sync != "" {
			dirty[x.Node] = false
			continue
		}
		t.Do(ev.op)
		if ev.op.Kind == api.OWrite {
			dirty[x.Node] = true
		}
	}
	var out []string
	for _, x := range t.Image() {
		if y, _ := t.Stat(x.Path); dirty[y.Node] {
			dirty[y.Node] = false
			out = append(out, x.Path)
		}
	}
	return t, out
}

// durable is how many of the events are.
func (m *model) durable() int {
	for i := len(m.past) - 1; i >= 0; i-- {
		if m.past[i].sync != "" {
			return i + 1
		}
	}
	return 0
}

func (m *model) step() bool {
	if m.fuse == 0 {
		m.off = true
		return false
	}
	m.fuse--
	m.steps++
	return true
}

func (m *model) check(x api.Op) api.Errno {
	if m.off {
		return api.EOFF
	}
	t, _ := replay(m.past)
	if e := t.Check(x); e != api.OK {
		return e
	}
	after := t.Clone()
	after.Do(x)
	isNew := x.Kind == api.OMkdir || x.Kind == api.OCreate || x.Kind == api.OSymlink
	if isNew && m.limits.Files > 0 && after.Files() > m.limits.Files {
		return api.ENFILE
	}
	if (x.Kind == api.OWrite || x.Kind == api.OSymlink) && m.limits.Bytes > 0 && after.Bytes() > m.limits.Bytes {
		return api.ENOSPC
	}
	p := x.Path
	if x.Kind == api.OLink || x.Kind == api.ORename {
		p = x.To
	} else if !isNew {
		return api.OK
	}
	if _, name := path.Split(p); m.limits.Name > 0 && len(name) > m.limits.Name {
		return api.ELONG
	}
	return api.OK
}

func (m *model) do(x api.Op) api.Errno {
	if e := m.check(x); e != api.OK {
		return e
	}
	if !m.step() {
		return api.EOFF
	}
	m.past = append(m.past, event{op: x})
	return api.OK
}

func (m *model) sync(p string) api.Errno {
	if m.off {
		return api.EOFF
	}
	t, _ := replay(m.past)
	x, e := t.Stat(p)
	if e == api.OK && x.Kind == api.KLink {
		e = api.EARG
	}
	if e != api.OK {
		return e
	}
	if !m.step() {
		return api.EOFF
	}
	m.past = append(m.past, event{sync: p})
	return api.OK
}

func (m *model) crash(keep int, cuts []int) {
	n := m.durable()
	m.past = m.past[:n+mod(keep, uint64(len(m.past)-n+1))]
	t, dirty := replay(m.past)
	for i, p := range dirty {
		text, _ := t.Read(p)
		cut := 0
		if i < len(cuts) {
			cut = mod(cuts[i], uint64(len(text)+1))
		}
		m.past = append(m.past, event{op: write(p, text[:cut])}, event{sync: p})
	}
	m.past = append(m.past, event{sync: "/"})
	m.off, m.fuse = false, -1
}

func (m *model) see() seen {
	t, dirty := replay(m.past)
	n := m.durable()
	kept, _ := replay(m.past[:n])
	return seen{t.Image(), kept.Image(), dirty, m.steps, len(m.past) - n, !m.off}
}

func pick[T any](r *rand.Rand, l ...T) T { return l[r.Intn(len(l))] }

// somePath is mostly of what is there, or beside it.
func somePath(r *rand.Rand, d *Disk) string {
	p := pick(r, d.Image()...).Path
	switch r.Intn(6) {
	case 0:
		return pick(r, "/", "", "x", "/a/", "/no/x")
	case 1, 2:
		return path.Join(p, pick(r, "a", "a-b", "bcd"))
	}
	return p
}

func someOp(r *rand.Rand, d *Disk) api.Op {
	x := api.Op{
		Kind: pick(r, 1, 2, 2, 2, 3, 3, 3, 3, 4, 5, 6, 7, 8, 8, 9, 10, 11),
		Path: somePath(r, d),
		To:   somePath(r, d),
		Meta: pick(r, dirMeta, fileMeta, fileMeta, badMeta),
		Text: pick(r, "", "x", "other", strings.Repeat("y", 20)),
	}
	if x.Kind == api.OMkdir || x.Kind == api.OCreate || x.Kind == api.OSymlink {
		x.Path = path.Join(x.Path, pick(r, "a", "a-b", "bcd"))
	}
	return x
}

func someLimits(r *rand.Rand) api.Limits {
	return api.Limits{Bytes: pick(r, 0, -1, 10, 40), Files: pick(r, 0, -1, 4, 8), Name: pick(r, 0, -1, 1, 3)}
}

var numbers = []int{0, 1, 2, 3, 4, 5, 7, 11, 20, -1, -2, -3, -1 << 63, 1<<63 - 1}

func someCuts(r *rand.Rand) []int {
	var out []int
	for range r.Intn(4) {
		out = append(out, pick(r, numbers...))
	}
	return out
}

// P4.1 to P4.6: whatever is done, the disk is as its model.
func TestModel(t *testing.T) {
	r := rand.New(rand.NewSource(1))
	count := map[string]int{}
	for range 300 {
		d, m := New(api.Limits{}), &model{fuse: -1}
		for range 60 {
			before := look(d)
			switch r.Intn(20) {
			case 0, 1, 2, 3:
				p := somePath(r, d)
				if e, want := d.Sync(p), m.sync(p); e != want {
					t.Fatalf("Sync of %q: %d, want %d", p, e, want)
				}
				count["sync"]++
			case 4:
				l := someLimits(r)
				d.Bound(l)
				m.limits = l
			case 5:
				n := pick(r, -1, 0, 3, 10)
				d.Fuse(n)
				m.fuse = n
			case 6:
				keep, cuts := pick(r, numbers...), someCuts(r)
				count["crash"]++
				count["pending"] += d.Pending()
				d.Crash(keep, cuts)
				m.crash(keep, cuts)
			default:
				x := someOp(r, d)
				if e, want := d.Check(x), m.check(x); e != want {
					t.Fatalf("Check of %v: %d, want %d", x, e, want)
				}
				if !look(d).same(before) {
					t.Fatalf("Check of %v did something", x)
				}
				if e, want := d.Do(x), m.do(x); e != want {
					t.Fatalf("%v: %d, want %d", x, e, want)
				}
			}
			if got, want := look(d), m.see(); !got.same(want) {
				t.Fatalf("%v\nwant %v", got, want)
			}
			if d.On() {
				sameNumbers(t, d, m)
			} else {
				count["off"]++
			}
		}
	}
	for _, what := range []string{"sync", "crash", "pending", "off"} {
		if count[what] < 100 {
			t.Errorf("%s: %d", what, count[what])
		}
	}
}

// sameNumbers holds what is read of each path to the model.
func sameNumbers(t *testing.T, d *Disk, m *model) {
	t.Helper()
	tr, _ := replay(m.past)
	for _, x := range d.Image() {
		got, e := d.Stat(x.Path)
		want, _ := tr.Stat(x.Path)
		if got != want || e != api.OK {
			t.Fatalf("%v %d, want %v", got, e, want)
		}
	}
}

// P4.5

func TestSyncedLasts(t *testing.T) {
	r := rand.New(rand.NewSource(2))
	for range 500 {
		d := New(api.Limits{})
		for range 40 {
			d.Do(someOp(r, d))
			if r.Intn(10) == 0 {
				d.Sync(somePath(r, d))
			}
		}
		sync(t, d, "/")
		for _, p := range d.Dirty() {
			sync(t, d, p)
		}
		want := d.Image()
		d.Crash(pick(r, numbers...), someCuts(r))
		if !slices.Equal(d.Image(), want) || !slices.Equal(d.Kept(), want) {
			t.Fatalf("%v, want %v", d.Image(), want)
		}
	}
}

// P4.6

func TestCrashIsAPrefix(t *testing.T) {
	r := rand.New(rand.NewSource(3))
	for range 2000 {
		d := New(api.Limits{})
		for range 30 {
			d.Do(someOp(r, d))
			if r.Intn(10) == 0 {
				d.Sync(somePath(r, d))
			}
		}
		sync(t, d, "/")
		states := []seen{look(d)}
		for range r.Intn(15) {
			if d.Do(someOp(r, d)) == api.OK {
				states = append(states, look(d))
			}
		}
		keep := r.Intn(len(states))
		d.Crash(keep, someCuts(r))
		if !isPrefix(d.Image(), states[keep]) {
			t.Fatalf("%v\nof %v", d.Image(), states[keep])
		}
	}
}

// isPrefix tells whether entries are those that were seen, but for dirty files:
// of their texts something is left from the start on.
func isPrefix(l []api.Entry, s seen) bool {
	dirty := map[int]bool{}
	for _, x := range s.image {
		if slices.Contains(s.dirty, x.Path) {
			dirty[x.Node] = true
		}
	}
	return slices.EqualFunc(l, s.image, func(x, y api.Entry) bool {
		if dirty[y.Node] && strings.HasPrefix(y.Text, x.Text) {
			x.Text = y.Text
		}
		return x == y
	})
}
