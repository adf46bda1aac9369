package admin

import (
	"slices"

	"cellarer/api"
	"cellarer/engine"
	"cellarer/fire"
	"cellarer/run"
	"cellarer/store"
)

// nobody is by whom triggers are fired that nobody waits for.
const nobody = ""

// act does a line that may change the databases, while it has the lock.
func (w *World) act(x api.Line) (string, api.Errno) {
	st, e := store.Load(w.d)
	if e != api.OK {
		return "", e
	}
	if e := store.Lock(w.d); e != api.OK {
		return "", e
	}
	text, e := w.locked(st, x)
	unlocked := store.Unlock(w.d)
	if e == api.OK {
		e = unlocked
	}
	return text, e
}

// locked does what a line asks. The state that results is on the disk.
func (w *World) locked(st api.State, x api.Line) (string, api.Errno) {
	var text string
	var e api.Errno
	switch x.Kind {
	case api.LAct:
		_, e = run.Do(w.d, st, x.Act, nobody)
	case api.LUnpack:
		e = w.unpack(st, x.Name, x.Text)
	case api.LConfigure:
		_, w.codes, e = engine.Configure(w.d, st, x.Name, w.pool, w.codes)
	case api.LRemove:
		_, w.codes, e = engine.Remove(w.d, st, x.Name, w.pool, w.codes)
	case api.LPurge:
		_, w.codes, e = engine.Purge(w.d, st, x.Name, w.pool, w.codes)
	case api.LProcess:
		var r fire.Result
		_, w.codes, r, e = fire.Process(w.d, st, w.pool, w.codes)
		text = Report(r)
	}
	return text, e
}

// unpack unpacks the first package of a name and a version.
func (w *World) unpack(st api.State, name, version string) api.Errno {
	i := slices.IndexFunc(w.pool, func(p api.Package) bool { return p.Name == name && p.Version == version })
	if i < 0 {
		return api.ENOENT
	}
	var e api.Errno
	_, w.codes, e = engine.Unpack(w.d, st, w.pool[i], w.codes)
	return e
}
