package tree

import (
	"cmp"
	"iter"
	"maps"
	"slices"

	"cellarer/api"
	"cellarer/path"
)

// Image is all entries, by rising paths.
func (t *Tree) Image() []api.Entry {
	if !t.made() {
		return nil
	}
	var out []api.Entry
	for p, n := range t.from(slash, root) {
		out = append(out, t.entry(p, n))
	}
	slices.SortFunc(out, func(a, b api.Entry) int { return cmp.Compare(a.Path, b.Path) })
	renumber(out)
	return out
}

// renumber numbers the files of entries as they come.
func renumber(l []api.Entry) {
	anew := map[int]int{}
	for i := range l {
		n := l[i].Node
		if anew[n] == 0 {
			anew[n] = len(anew) + 1
		}
		l[i].Node = anew[n]
	}
}

// from is each path from a file on, in no order, as if the file were at p; and
// the number of each path's file.
func (t *Tree) from(p string, n int) iter.Seq2[string, int] {
	return func(yield func(string, int) bool) {
		t.walk(t.parts(), p, n, yield)
	}
}

// parts is the names in each directory, in no order. (To go through all names
// for each directory alone would take too long.)
func (t *Tree) parts() map[int][]string {
	out := map[int][]string{}
	for at := range t.all() {
		out[at.dir] = append(out[at.dir], at.part)
	}
	return out
}

// walk tells whether more is wanted.
func (t *Tree) walk(parts map[int][]string, p string, n int, yield func(string, int) bool) bool {
	if !yield(p, n) {
		return false
	}
	for _, part := range parts[n] {
		if !t.walk(parts, path.Join(p, part), t.names[name{n, part}], yield) {
			return false
		}
	}
	return true
}

// Load is the tree of an image. What the operations make of a list is a tree,
// so the list is an image if it is the image of that tree.
func Load(l []api.Entry) (*Tree, api.Errno) {
	t := New()
	var firsts []string // the first path of each file, by numbers
	for _, x := range l {
		var e api.Errno
		if 0 < x.Node && x.Node <= len(firsts) {
			e = t.Do(api.Op{Kind: api.OLink, Path: firsts[x.Node-1], To: x.Path})
		} else {
			e = t.restore(x)
			firsts = append(firsts, x.Path)
		}
		if e != api.OK {
			return nil, api.EARG
		}
	}
	if !slices.Equal(t.Image(), l) {
		return nil, api.EARG
	}
	return t, api.OK
}

// restore makes the file of an entry.
func (t *Tree) restore(x api.Entry) api.Errno {
	op := api.Op{Path: x.Path, Meta: x.Meta, Text: x.Text}
	switch {
	case x.Path == slash: // which is there
		return t.do(op, api.OChmod, api.OChown)
	case x.Kind == api.KDir:
		return t.do(op, api.OMkdir)
	case x.Kind == api.KFile:
		return t.do(op, api.OCreate, api.OWrite)
	case x.Kind == api.KLink:
		return t.do(op, api.OSymlink)
	}
	return api.EARG
}

// do does the operations of some kinds, up to the first error.
func (t *Tree) do(x api.Op, kinds ...int) api.Errno {
	for _, kind := range kinds {
		x.Kind = kind
		if e := t.Do(x); e != api.OK {
			return e
		}
	}
	return api.OK
}

// Clone is a tree like it.
func (t *Tree) Clone() *Tree {
	if !t.made() {
		return nil
	}
	c := &Tree{names: maps.Clone(t.names), files: map[int]*file{}, last: t.last, bytes: t.bytes}
	for n, f := range t.files {
		own := *f
		c.files[n] = &own
	}
	return c
}
