package tree

import (
	"math/rand"
	"slices"
	"strings"
	"testing"

	"cellarer/api"
	"cellarer/bits"
	"cellarer/path"
)

// model is a tree told in another way: a map from whole paths to files.
type model struct {
	at   map[string]*thing
	last int
}

type thing struct {
	kind int
	meta api.Meta
	text string
	node int
}

func newModel() *model {
	return &model{map[string]*thing{"/": {api.KDir, dirMeta, "", 1}}, 1}
}

func (m *model) look(p string) (*thing, api.Errno) {
	if !path.Right(p) {
		return nil, api.EARG
	}
	for _, dir := range path.Parents(p) {
		if m.at[dir] == nil {
			return nil, api.ENOENT
		}
		if m.at[dir].kind != api.KDir {
			return nil, api.ENOTDIR
		}
	}
	if m.at[p] == nil {
		return nil, api.ENOENT
	}
	return m.at[p], api.OK
}

func (m *model) position(p string) api.Errno {
	if !path.Right(p) || p == "/" {
		return api.EARG
	}
	dir, _ := path.Split(p)
	x, e := m.look(dir)
	if e == api.OK && x.kind != api.KDir {
		e = api.ENOTDIR
	}
	return e
}

func (m *model) empty(p string) bool {
	for q := range m.at {
		if path.Under(p, q) {
			return false
		}
	}
	return true
}

// first is the first error of a list.
func first(l ...api.Errno) api.Errno {
	for _, e := range l {
		if e != api.OK {
			return e
		}
	}
	return api.OK
}

func when(yes bool, e api.Errno) api.Errno {
	if yes {
		return e
	}
	return api.OK
}

func (m *model) do(x api.Op) api.Errno {
	f, lookE := m.look(x.Path)
	kind := 0
	if f != nil {
		kind = f.kind
	}
	isDir := when(kind == api.KDir, api.EISDIR)
	badMeta := when(!bits.Right(x.Meta), api.EARG)
	switch x.Kind {
	case api.OMkdir, api.OCreate, api.OSymlink:
		e := first(m.position(x.Path), when(f != nil, api.EEXIST), badMeta)
		y := &thing{kind: api.KDir, meta: x.Meta, node: m.last + 1}
		if x.Kind == api.OCreate {
			y.kind = api.KFile
		} else if x.Kind == api.OSymlink {
			y.kind, y.text = api.KLink, x.Text
			e = first(e, when(x.Text == "", api.EARG), when(len(x.Text) > 200, api.ELONG))
		}
		if e == api.OK {
			m.at[x.Path] = y
			m.last++
		}
		return e
	case api.OWrite:
		e := first(lookE, isDir, when(kind == api.KLink, api.EARG), when(len(x.Text) > 65536, api.ELONG))
		if e == api.OK {
			f.text = x.Text
		}
		return e
	case api.OLink:
		e := first(lookE, isDir, m.position(x.To), when(m.at[x.To] != nil, api.EEXIST))
		if e == api.OK {
			m.at[x.To] = f
		}
		return e
	case api.OUnlink:
		e := first(lookE, isDir)
		if e == api.OK {
			delete(m.at, x.Path)
		}
		return e
	case api.ORmdir:
		e := first(lookE, when(x.Path == "/", api.EARG), when(kind != api.KDir, api.ENOTDIR), when(!m.empty(x.Path), api.ENOTEMPTY))
		if e == api.OK {
			delete(m.at, x.Path)
		}
		return e
	case api.ORename:
		e := first(lookE, when(x.Path == "/", api.EARG), m.position(x.To), when(path.Under(x.Path, x.To), api.EARG))
		if e == api.OK {
			e = m.rename(f, x.Path, x.To)
		}
		return e
	case api.OChmod, api.OChown:
		e := first(lookE, badMeta)
		if e == api.OK && x.Kind == api.OChmod {
			f.meta.Mode = x.Meta.Mode
		} else if e == api.OK {
			f.meta.Uid, f.meta.Gid = x.Meta.Uid, x.Meta.Gid
		}
		return e
	}
	return api.EARG
}

func (m *model) rename(f *thing, from, to string) api.Errno {
	if old := m.at[to]; old == f {
		return api.OK
	} else if old != nil {
		e := first(when(f.kind == api.KDir && old.kind != api.KDir, api.ENOTDIR), when(f.kind != api.KDir && old.kind == api.KDir, api.EISDIR), when(!m.empty(to), api.ENOTEMPTY))
		if e != api.OK {
			return e
		}
	}
	moved := map[string]*thing{to: f}
	for p, y := range m.at {
		if path.Under(from, p) {
			p = to + strings.TrimPrefix(p, from)
			if len(p) > 200 {
				return api.ELONG
			}
			moved[p] = y
		}
	}
	for p := range m.at {
		if p == from || path.Under(from, p) {
			delete(m.at, p)
		}
	}
	for p, y := range moved {
		m.at[p] = y
	}
	return api.OK
}

func (m *model) see() seen {
	var s seen
	var paths []string
	for p := range m.at {
		paths = append(paths, p)
	}
	slices.Sort(paths)
	var files []*thing
	for _, p := range paths {
		f := m.at[p]
		if !slices.Contains(files, f) {
			files = append(files, f)
			s.bytes += len(f.text)
		}
		s.image = append(s.image, api.Entry{Path: p, Kind: f.kind, Meta: f.meta, Text: f.text, Node: slices.Index(files, f) + 1})
		s.stats = append(s.stats, api.Entry{Path: p, Kind: f.kind, Meta: f.meta, Text: f.text, Node: f.node})
	}
	s.files = len(files)
	return s
}

// paths are few, so that operations meet; below the long ones there is room for
// hardly anything.
var paths = func() []string {
	out := []string{"/", "", "x", "/a/", "/a/../b"}
	for n := 194; n < 200; n++ {
		out = append(out, "/"+strings.Repeat("l", n))
	}
	parts := []string{"a", "a-b", "b"}
	for _, a := range parts {
		out = append(out, "/"+a)
		for _, b := range parts {
			out = append(out, "/"+a+"/"+b)
			for _, c := range parts {
				out = append(out, "/"+a+"/"+b+"/"+c)
			}
		}
	}
	return out
}()

var texts = []string{
	"", "x", "other", strings.Repeat("y", 200), strings.Repeat("y", 201), strings.Repeat("z", 65536), strings.Repeat("z", 65537),
}

func pick[T any](r *rand.Rand, l ...T) T { return l[r.Intn(len(l))] }

// someOp is an operation, mostly on what is there or beside it.
func someOp(r *rand.Rand, tr *Tree) api.Op {
	there := tr.Image()
	somePath := func() string {
		p := pick(r, there...).Path
		switch r.Intn(4) {
		case 0:
			return p
		case 1:
			return pick(r, paths...)
		}
		return path.Join(p, pick(r, "a", "a-b", "b"))
	}
	x := api.Op{
		Kind: pick(r, 1, 1, 1, 1, 1, 1, 2, 2, 2, 3, 4, 5, 5, 6, 7, 8, 8, 8, 9, 10, 0, 11),
		Path: somePath(),
		To:   somePath(),
		Meta: pick(r, dirMeta, dirMeta, fileMeta, fileMeta, fileMeta, badMeta, api.Meta{Mode: 1, Gid: -1}),
		Text: pick(r, texts...),
	}
	if x.Kind > api.OCreate && r.Intn(2) == 0 {
		x.Path = pick(r, there...).Path
	}
	return x
}

// P3.1 to P3.5: whatever is done, the tree is as its model.
func TestModel(t *testing.T) {
	r := rand.New(rand.NewSource(1))
	errors := map[[2]int]int{}
	for range 600 {
		tr, m := New(), newModel()
		for range 80 {
			x := someOp(r, tr)
			before := look(tr)
			checked := tr.Check(x)
			if !look(tr).same(before) {
				t.Fatalf("Check of %v changed the tree", x)
			}
			e, want := tr.Do(x), m.do(x)
			errors[[2]int{x.Kind, int(e)}]++
			if e != want || checked != want {
				t.Fatalf("%v: %d, checked %d, want %d, in %v", x, e, checked, want, before.image)
			}
			after := look(tr)
			if !after.same(m.see()) {
				t.Fatalf("%v, after %v: %v, want %v", x, before.image, after, m.see())
			}
			if e != api.OK && !after.same(before) {
				t.Fatalf("%v: %d, and something changed", x, e)
			}
			loaded, e := Load(after.image)
			if e != api.OK || !slices.Equal(loaded.Image(), after.image) {
				t.Fatalf("Load of %v: %d", after.image, e)
			}
			if !look(tr.Clone()).same(after) {
				t.Fatalf("a clone of %v", after.image)
			}
		}
	}
	for kind, l := range map[int][]int{
		0: {1}, 1: {0, 1, 3, 4, 5}, 2: {0, 1, 3, 4, 5}, 3: {0, 1, 3, 5, 6, 8}, 4: {0, 1, 3, 4, 5, 8}, 5: {0, 1, 3, 4, 5, 6},
		6: {0, 1, 3, 5, 6}, 7: {0, 1, 3, 5, 7}, 8: {0, 1, 3, 5, 6, 7, 8}, 9: {0, 1, 3, 5}, 10: {0, 1, 3, 5}, 11: {1},
	} {
		for _, e := range l {
			if errors[[2]int{kind, e}] == 0 {
				t.Errorf("no operation %d with the error %d came up", kind, e)
			}
		}
	}
}

// What a changed image is, Load tells: nothing that it accepts has another image.
func TestLoadModel(t *testing.T) {
	r := rand.New(rand.NewSource(2))
	taken := 0
	for range 3000 {
		tr := New()
		for range 40 {
			tr.Do(someOp(r, tr))
		}
		l := tr.Image()
		i := r.Intn(len(l))
		switch r.Intn(6) {
		case 0:
			l[i].Kind = pick(r, 0, 1, 2, 3, 4)
		case 1:
			l[i].Path = pick(r, paths...)
		case 2:
			l[i].Node = r.Intn(len(l)+2) - 1
		case 3:
			l[i].Text = pick(r, "", "x", strings.Repeat("y", 201))
		case 4:
			l[i].Meta = pick(r, badMeta, fileMeta)
		case 5:
			l = slices.Delete(l, i, i+1)
		}
		got, e := Load(l)
		if e == api.OK {
			taken++
		}
		if (e == api.OK) != isImage(l) || e != api.OK && (e != api.EARG || got != nil) || e == api.OK && !slices.Equal(got.Image(), l) {
			t.Fatalf("Load of %v: %d", l, e)
		}
	}
	if taken == 0 || taken == 3000 {
		t.Errorf("%d were taken", taken)
	}
}

// isImage tells by rules of its own whether a list is an image.
func isImage(l []api.Entry) bool {
	if len(l) == 0 || l[0].Path != "/" || l[0].Kind != api.KDir {
		return false
	}
	dirs := map[string]bool{}
	files := map[int]api.Entry{}
	for i, x := range l {
		dir, _ := path.Split(x.Path)
		if !path.Right(x.Path) || i > 0 && (x.Path <= l[i-1].Path || !dirs[dir]) || !bits.Right(x.Meta) {
			return false
		}
		switch x.Kind {
		case api.KDir:
			if x.Text != "" {
				return false
			}
			dirs[x.Path] = true
		case api.KFile:
			if len(x.Text) > 65536 {
				return false
			}
		case api.KLink:
			if len(x.Text) < 1 || len(x.Text) > 200 {
				return false
			}
		default:
			return false
		}
		first, again := files[x.Node]
		if !again {
			if x.Node != len(files)+1 {
				return false
			}
			files[x.Node] = x
			continue
		}
		first.Path = x.Path
		if x.Kind == api.KDir || first != x {
			return false
		}
	}
	return true
}
