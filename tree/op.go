package tree

import (
	"cellarer/api"
	"cellarer/bits"
	"cellarer/path"
)

// spot is what an operation is about, as far as its kind asks for it.
type spot struct {
	file int  // of the path
	at   name // the path
	to   name // To
	over int  // the file that To has been a name of; 0: none
}

// Check is the error that Do would tell.
func (t *Tree) Check(x api.Op) api.Errno {
	_, e := t.find(x)
	return e
}

// Do does an operation.
func (t *Tree) Do(x api.Op) api.Errno {
	s, e := t.find(x)
	if e != api.OK {
		return e
	}
	switch x.Kind {
	case api.OMkdir:
		t.create(s.at, &file{kind: api.KDir, meta: x.Meta})
	case api.OCreate:
		t.create(s.at, &file{kind: api.KFile, meta: x.Meta})
	case api.OSymlink:
		t.create(s.at, &file{kind: api.KLink, meta: x.Meta, text: x.Text})
	case api.OWrite:
		t.write(t.files[s.file], x.Text)
	case api.OLink:
		t.tie(s.to, s.file)
	case api.OUnlink, api.ORmdir:
		t.untie(s.at)
	case api.ORename:
		t.move(s)
	case api.OChmod:
		t.files[s.file].meta.Mode = x.Meta.Mode
	case api.OChown:
		f := t.files[s.file]
		f.meta.Uid, f.meta.Gid = x.Meta.Uid, x.Meta.Gid
	}
	return api.OK
}

// find is what an operation is about, or the error that prevents it.
func (t *Tree) find(x api.Op) (spot, api.Errno) {
	if !t.made() {
		return spot{}, api.ENIL
	}
	switch x.Kind {
	case api.OMkdir, api.OCreate, api.OSymlink:
		return t.findNew(x)
	case api.OWrite:
		return t.findWrite(x)
	case api.OLink:
		return t.findLink(x)
	case api.OUnlink:
		return t.findUnlink(x)
	case api.ORmdir:
		return t.findRmdir(x)
	case api.ORename:
		return t.findRename(x)
	case api.OChmod, api.OChown:
		return t.findMeta(x)
	}
	return spot{}, api.EARG
}

func (t *Tree) findNew(x api.Op) (spot, api.Errno) {
	at, e := t.free(x.Path)
	if e != api.OK {
		return spot{}, e
	}
	if !bits.Right(x.Meta) {
		return spot{}, api.EARG
	}
	if x.Kind == api.OSymlink && x.Text == "" {
		return spot{}, api.EARG
	}
	if x.Kind == api.OSymlink && len(x.Text) > api.MaxPath {
		return spot{}, api.ELONG
	}
	return spot{at: at}, api.OK
}

// position is the name that a path is, or would be.
func (t *Tree) position(p string) (name, api.Errno) {
	if !path.Right(p) || p == slash {
		return name{}, api.EARG
	}
	dir, part := path.Split(p)
	n, e := t.look(dir)
	if e != api.OK {
		return name{}, e
	}
	if !t.isDir(n) {
		return name{}, api.ENOTDIR
	}
	return name{n, part}, api.OK
}

// free is a position where nothing is.
func (t *Tree) free(p string) (name, api.Errno) {
	at, e := t.position(p)
	if e != api.OK {
		return name{}, e
	}
	if t.names[at] != 0 {
		return name{}, api.EEXIST
	}
	return at, api.OK
}

func (t *Tree) findWrite(x api.Op) (spot, api.Errno) {
	n, e := t.look(x.Path)
	if e != api.OK {
		return spot{}, e
	}
	if e := t.texts(n); e != api.OK {
		return spot{}, e
	}
	if len(x.Text) > api.MaxText {
		return spot{}, api.ELONG
	}
	return spot{file: n}, api.OK
}

func (t *Tree) findLink(x api.Op) (spot, api.Errno) {
	n, e := t.look(x.Path)
	if e != api.OK {
		return spot{}, e
	}
	if t.isDir(n) {
		return spot{}, api.EISDIR
	}
	to, e := t.free(x.To)
	if e != api.OK {
		return spot{}, e
	}
	return spot{file: n, to: to}, api.OK
}

func (t *Tree) findUnlink(x api.Op) (spot, api.Errno) {
	n, e := t.look(x.Path)
	if e != api.OK {
		return spot{}, e
	}
	if t.isDir(n) {
		return spot{}, api.EISDIR
	}
	at, e := t.position(x.Path)
	return spot{at: at}, e
}

// named is a path's file, and its name: the root has none.
func (t *Tree) named(p string) (spot, api.Errno) {
	n, e := t.look(p)
	if e != api.OK {
		return spot{}, e
	}
	at, e := t.position(p)
	if e != api.OK {
		return spot{}, e
	}
	return spot{file: n, at: at}, api.OK
}

func (t *Tree) findRmdir(x api.Op) (spot, api.Errno) {
	s, e := t.named(x.Path)
	if e != api.OK {
		return spot{}, e
	}
	if !t.isDir(s.file) {
		return spot{}, api.ENOTDIR
	}
	if t.files[s.file].entries > 0 {
		return spot{}, api.ENOTEMPTY
	}
	return s, api.OK
}

func (t *Tree) findRename(x api.Op) (spot, api.Errno) {
	s, e := t.named(x.Path)
	if e != api.OK {
		return spot{}, e
	}
	s.to, e = t.position(x.To)
	if e != api.OK {
		return spot{}, e
	}
	if path.Under(x.Path, x.To) {
		return spot{}, api.EARG
	}
	s.over = t.names[s.to]
	if s.over == s.file {
		return s, api.OK
	}
	if e := t.replaces(s.file, s.over); e != api.OK {
		return spot{}, e
	}
	if t.isDir(s.file) && t.longBelow(x.To, s.file) {
		return spot{}, api.ELONG
	}
	return s, api.OK
}

// replaces is why a file can't have the name of another one, if there is one.
func (t *Tree) replaces(n, over int) api.Errno {
	switch {
	case over == 0:
		return api.OK
	case t.isDir(n) && !t.isDir(over):
		return api.ENOTDIR
	case !t.isDir(n) && t.isDir(over):
		return api.EISDIR
	case t.files[over].entries > 0:
		return api.ENOTEMPTY
	}
	return api.OK
}

// longBelow tells whether a path would be too long, if a directory were at p.
func (t *Tree) longBelow(p string, n int) bool {
	for q := range t.from(p, n) {
		if len(q) > api.MaxPath {
			return true
		}
	}
	return false
}

func (t *Tree) findMeta(x api.Op) (spot, api.Errno) {
	n, e := t.look(x.Path)
	if e != api.OK {
		return spot{}, e
	}
	if !bits.Right(x.Meta) {
		return spot{}, api.EARG
	}
	return spot{file: n}, api.OK
}

func (t *Tree) create(at name, f *file) {
	t.last++
	t.files[t.last] = f
	t.bytes += len(f.text)
	t.tie(at, t.last)
}

func (t *Tree) write(f *file, text string) {
	t.bytes += len(text) - len(f.text)
	f.text = text
}

func (t *Tree) tie(at name, n int) {
	t.names[at] = n
	t.files[n].names++
	t.files[at.dir].entries++
}

// untie takes a name away, and with its last name the file.
func (t *Tree) untie(at name) {
	n := t.names[at]
	delete(t.names, at)
	t.files[at.dir].entries--
	f := t.files[n]
	f.names--
	if f.names == 0 {
		t.bytes -= len(f.text)
		delete(t.files, n)
	}
}

func (t *Tree) move(s spot) {
	if s.over == s.file {
		return
	}
	if s.over != 0 {
		t.untie(s.to)
	}
	// First the new name: without any the file would go.
	t.tie(s.to, s.file)
	t.untie(s.at)
}
