package admin

import (
	"slices"

	"cellarer/api"
	"cellarer/keyed"
)

const (
	maxPackages  = 20
	maxFiles     = 32
	maxInterests = 8
)

// change does a line about the world.
func (w *World) change(x api.Line) api.Errno {
	e := api.OK
	switch x.Kind {
	case api.LCodes:
		w.codes = x.Nums
	case api.LLimits:
		w.d.Bound(x.Limits)
	case api.LCrash:
		w.coming, e = more(w.coming, maxCrashes, crash{x.N, x.Keep, x.Nums})
	case api.LPackage:
		w.pool, e = more(w.pool, maxPackages, api.Package{Name: x.Name, Version: x.Text})
	default:
		e = w.changeLast(x)
	}
	return e
}

// changeLast does a line about the last package.
func (w *World) changeLast(x api.Line) api.Errno {
	if len(w.pool) == 0 {
		return api.ENOENT
	}
	e := api.OK
	p := &w.pool[len(w.pool)-1]
	switch x.Kind {
	case api.LDepends:
		p.Depends = x.Depends
	case api.LConflicts:
		p.Conflicts = x.Conflicts
	case api.LReplaces:
		p.Replaces = x.Names
	case api.LFile:
		p.Files, e = withFile(p.Files, x.File)
	case api.LInterest:
		p.Interests, e = more(p.Interests, maxInterests, api.Interest{Trigger: x.Name, Noawait: x.Flag})
	case api.LScript:
		p.Scripts[x.N], e = more(p.Scripts[x.N], api.MaxActs, x.Act)
	}
	return e
}

// withFile is files with one more.
func withFile(l []api.File, f api.File) ([]api.File, api.Errno) {
	if keyed.Find(l, filePath, f.Path) >= 0 {
		return l, api.EEXIST
	}
	if len(l) >= maxFiles {
		return l, api.EFULL
	}
	return keyed.Put(l, filePath, f), api.OK
}

func filePath(f api.File) string { return f.Path }

// more is a list with one more, unless it is full.
func more[T any](l []T, most int, x T) ([]T, api.Errno) {
	if len(l) >= most {
		return l, api.EFULL
	}
	// What is behind its end may be another list's.
	return append(slices.Clip(l), x), api.OK
}
