package engine

import (
	"slices"

	"cellarer/api"
	"cellarer/check"
	"cellarer/disk"
	"cellarer/divs"
	"cellarer/lists"
	"cellarer/path"
	"cellarer/place"
	"cellarer/run"
	"cellarer/status"
	"cellarer/store"
	"cellarer/trigs"
)

const root = "/"

// failure is the error that ends a call. It is passed by a panic, so that what a
// call does stands step by step.
type failure struct{ e api.Errno }

// must ends a call if there is an error.
func must(e api.Errno) {
	if e != api.OK {
		panic(failure{e})
	}
}

// attempt is the error that ends some work.
func attempt(work func()) (e api.Errno) {
	defer func() {
		r := recover()
		if r == nil {
			return
		}
		f, ok := r.(failure)
		if !ok {
			// What is no error of a step is not to pass for one.
			panic(r)
		}
		e = f.e
	}()
	work()
	return api.OK
}

// job is a call: its disk, and the state and the codes that it reached.
type job struct {
	d     *disk.Disk
	st    api.State
	codes []int
}

// call does the work of a call, and tells what it reached.
func call(d *disk.Disk, st api.State, codes []int, work func(*job)) (api.State, []int, api.Errno) {
	j := &job{d, st, codes}
	e := attempt(func() { work(j) })
	if e != api.OK && e != api.EOFF {
		j.reload()
	}
	return j.st, j.codes, e
}

// reload takes the state that the disk has: behind an error that may be another
// one than that which was reached.
func (j *job) reload() {
	if st, e := store.Load(j.d); e == api.OK {
		j.st = st
	}
}

// make is where a package's files are to be.
func (j *job) make(x api.Package) []place.Item {
	l, e := place.Make(j.d, j.st, x)
	must(e)
	return l
}

// script does one of a package's scripts.
func (j *job) script(x api.Package, which int) {
	var e api.Errno
	j.st, j.codes, e = run.Script(j.d, j.st, x.Scripts[which], x.Name, j.codes)
	must(e)
}

// note, and those that follow, replace a database.
func (j *job) note(l []api.Record) {
	must(store.Records(j.d, l))
	j.st.Records = l
}

func (j *job) interests(l []api.Interest) {
	must(store.Interests(j.d, l))
	j.st.Interests = l
}

func (j *job) list(x api.List) {
	must(store.List(j.d, x))
	j.st.Lists = lists.Put(j.st.Lists, x)
}

// oldList puts the list of a name back as it was.
func (j *job) oldList(was []api.List, name string) {
	if i := lists.Find(was, name); i >= 0 {
		store.List(j.d, was[i])
		return
	}
	store.Unlist(j.d, name)
}

// forget lets all go that is known of a package.
func (j *job) forget(name string) {
	if lists.Find(j.st.Lists, name) >= 0 {
		must(store.Unlist(j.d, name))
		j.st.Lists = lists.Drop(j.st.Lists, name)
	}
	j.note(status.Drop(j.st.Records, name))
}

// known is the record of a name, which has to be there.
func (j *job) known(name string) api.Record {
	if status.Find(j.st.Records, name) < 0 {
		must(api.ENOENT)
	}
	return recordOf(j.st.Records, name)
}

// fire fires what some paths fire.
func (j *job) fire(paths []string, by string) {
	var triggers []string
	for _, p := range paths {
		triggers = append(triggers, trigs.Files(j.st.Interests, p)...)
	}
	st, e := run.Fire(j.d, j.st, path.Sorted(triggers), by)
	must(e)
	j.st = st
}

// clear takes away what is at a package's paths, but for its conffiles, and for
// what is in other lists than that of a name. Directories are empty only when
// what is in them is gone: so it goes from the last path on.
func (j *job) clear(name string, paths []string, confs []api.Conf, but string) {
	removed := false
	for _, p := range slices.Backward(paths) {
		at := divs.True(j.st.Diverts, p, name)
		if j.isConf(at, name, confs) || check.Taken(j.st, at, but) {
			continue
		}
		if j.take(p, at) {
			removed = true
		}
	}
	if removed {
		must(j.d.Sync(root))
	}
}

// isConf tells whether one of a package's conffiles is at a place.
func (j *job) isConf(at, name string, confs []api.Conf) bool {
	return slices.ContainsFunc(confs, func(c api.Conf) bool {
		return divs.True(j.st.Diverts, c.Path, name) == at
	})
}

// take takes away the file at a place, or else the empty directory at a path,
// and tells whether it did.
func (j *job) take(p, at string) bool {
	var x api.Op
	switch {
	case isFile(j.d, at):
		x = api.Op{Kind: api.OUnlink, Path: at}
	case isEmpty(j.d, p):
		x = api.Op{Kind: api.ORmdir, Path: p}
	default:
		return false
	}
	e := j.d.Do(x)
	if e == api.EOFF {
		must(e)
	}
	return e == api.OK
}

// isFile tells whether something is at a path that is no directory.
func isFile(d *disk.Disk, p string) bool {
	x, e := d.Stat(p)
	return e == api.OK && x.Kind != api.KDir
}

// isEmpty tells whether an empty directory is at a path.
func isEmpty(d *disk.Disk, p string) bool {
	l, e := d.List(p)
	return e == api.OK && len(l) == 0
}
