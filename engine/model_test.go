package engine_test

import (
	"slices"

	"cellarer/api"
	"cellarer/check"
	"cellarer/conf"
	"cellarer/disk"
	"cellarer/divs"
	"cellarer/lists"
	"cellarer/overs"
	"cellarer/pack"
	"cellarer/path"
	"cellarer/place"
	"cellarer/status"
	"cellarer/trigs"
)

// model is what a call is to make of databases and of files, in the words of the
// document. Only what lower layers say of the disk is asked of it, as it is ahead
// of the call.
type model struct {
	d     *disk.Disk
	st    api.State
	files map[string]api.Entry
	codes []int
	trace []api.State // what the databases are, one after the other
}

func newModel(d *disk.Disk, st api.State, codes []int) *model {
	return &model{d, st, entries(d), codes, []api.State{st}}
}

// now is called behind each change of a database.
func (m *model) now() { m.trace = append(m.trace, m.st) }

// script does not know all commands: only those that random packages have.
func (m *model) script(x api.Package, which int) api.Errno {
	for _, a := range x.Scripts[which] {
		switch a.Kind {
		case api.CFire:
			m.fire([]string{a.Name}, x.Name)
		case api.COver:
			m.st.Overs = overs.Put(m.st.Overs, api.Over{Path: a.Path, Meta: a.Meta})
		case api.CUnover:
			if overs.Find(m.st.Overs, a.Path) < 0 {
				return api.ESCRIPT
			}
			m.st.Overs = overs.Drop(m.st.Overs, a.Path)
		case api.CDivert:
			v := api.Divert{Path: a.Path, To: a.To, By: a.Name}
			if i := divs.Find(m.st.Diverts, a.Path); i >= 0 {
				if m.st.Diverts[i] != v {
					return api.ESCRIPT
				}
				continue
			}
			m.st.Diverts = divs.Put(m.st.Diverts, v)
		}
		m.now()
	}
	if len(m.codes) > 0 {
		code := m.codes[0]
		if m.codes = m.codes[1:]; code != 0 {
			return api.ESCRIPT
		}
	}
	return api.OK
}

func (m *model) fire(triggers []string, by string) {
	for _, s := range triggers {
		m.st.Fired = trigs.Fire(m.st.Fired, s, by)
	}
	m.now()
}

func (m *model) record(name string) (api.Record, bool) {
	i := status.Find(m.st.Records, name)
	if i < 0 {
		return api.Record{}, false
	}
	return m.st.Records[i], true
}

func (m *model) note(x api.Record) {
	m.st.Records = status.Put(m.st.Records, x)
	m.now()
}

func (m *model) list(name string, paths []string) {
	m.st.Lists = lists.Put(m.st.Lists, api.List{Name: name, Paths: paths})
	m.now()
}

func (m *model) forget(name string) {
	m.st.Lists = lists.Drop(m.st.Lists, name)
	m.now()
	m.st.Records = status.Drop(m.st.Records, name)
	m.now()
}

// noteAndRelease notes a record, and that none awaits it any more.
func (m *model) noteAndRelease(x api.Record) {
	l := status.Put(m.st.Records, x)
	for i, r := range l {
		if r.Name != x.Name && slices.Contains(r.Awaited, x.Name) {
			r.Awaited = slices.DeleteFunc(slices.Clone(r.Awaited), func(s string) bool { return s == x.Name })
			r.State = status.Settled(r)
			l[i] = r
		}
	}
	m.st.Records = l
	m.now()
}

// clear lets paths go, from the last one on.
func (m *model) clear(name string, paths []string, confs []api.Conf, but string) {
	for i := len(paths) - 1; i >= 0; i-- {
		p := paths[i]
		at := divs.True(m.st.Diverts, p, name)
		if slices.ContainsFunc(confs, func(c api.Conf) bool { return divs.True(m.st.Diverts, c.Path, name) == at }) || check.Taken(m.st, at, but) {
			continue
		}
		if x, has := m.files[at]; has && x.Kind != api.KDir {
			delete(m.files, at)
			continue
		}
		if x, has := m.files[p]; has && x.Kind == api.KDir && !m.hasBelow(p) {
			delete(m.files, p)
		}
	}
}

func (m *model) hasBelow(dir string) bool {
	for p := range m.files {
		if path.Under(dir, p) {
			return true
		}
	}
	return false
}

func (m *model) firedBy(paths []string) []string {
	var out []string
	for _, p := range paths {
		out = append(out, trigs.Files(m.st.Interests, p)...)
	}
	return path.Sorted(out)
}

func (m *model) unpack(x api.Package) api.Errno {
	if len(check.Conflicts(m.st, x)) > 0 {
		return api.ECONFLICT
	}
	if len(check.Owned(m.st, x)) > 0 {
		return api.EOWNED
	}
	if _, e := place.Make(m.d, m.st, x); e != api.OK {
		return e
	}
	if e := m.script(x, api.PreInst); e != api.OK {
		return e
	}
	items, e := place.Make(m.d, m.st, x)
	if e != api.OK {
		return e
	}
	old, _ := m.record(x.Name)
	r := api.Record{Name: x.Name, Version: x.Version, State: api.SHalfInst, Depends: x.Depends, Conflicts: x.Conflicts, Replaces: x.Replaces, Confs: old.Confs}
	m.note(r)
	for _, y := range conf.Filter(m.d, old, items) {
		if y.Fresh || y.File.Kind != api.KDir {
			m.files[y.At] = api.Entry{Path: y.At, Kind: y.File.Kind, Meta: y.File.Meta, Text: y.File.Text}
		}
	}
	for _, l := range check.Lost(m.st, x) {
		had := m.st.Lists[lists.Find(m.st.Lists, l.Name)].Paths
		m.list(l.Name, slices.DeleteFunc(slices.Clone(had), func(p string) bool { return slices.Contains(l.Paths, p) }))
	}
	var had []string
	if i := lists.Find(m.st.Lists, x.Name); i >= 0 {
		had = m.st.Lists[i].Paths
	}
	m.list(x.Name, pack.Paths(x))
	m.st.Interests = trigs.Set(m.st.Interests, x.Name, pack.Own(x))
	m.now()
	r.State, r.Confs = api.SUnpacked, pack.Confs(x)
	m.note(r)
	m.clear(x.Name, slices.DeleteFunc(slices.Clone(had), func(p string) bool { return pack.File(x.Files, p) >= 0 }), old.Confs, "")
	var paths []string
	for _, f := range x.Files {
		if f.Kind != api.KDir {
			paths = append(paths, f.Path)
		}
	}
	m.fire(m.firedBy(paths), x.Name)
	return api.OK
}

func (m *model) configure(name string, pool []api.Package) api.Errno {
	r, has := m.record(name)
	switch {
	case !has:
		return api.ENOENT
	case r.State != api.SUnpacked && r.State != api.SHalfConf:
		return api.ESTATE
	case len(check.Missing(m.st, r.Depends)) > 0:
		return api.EDEPEND
	}
	r.State = api.SHalfConf
	m.note(r)
	if e := m.script(pack.Pick(pool, name, r.Version), api.PostInst); e != api.OK {
		return e
	}
	r.State = api.SInstalled
	m.noteAndRelease(r)
	return api.OK
}

func (m *model) remove(name string, pool []api.Package) api.Errno {
	r, has := m.record(name)
	switch {
	case !has:
		return api.ENOENT
	case r.State == api.SConfig:
		return api.ESTATE
	case r.State >= api.SAwaited && len(check.Needed(m.st, name)) > 0:
		return api.EDEPEND
	}
	if e := m.script(pack.Pick(pool, name, r.Version), api.PreRm); e != api.OK {
		return e
	}
	r.State, r.Pending, r.Awaited = api.SHalfInst, nil, nil
	m.noteAndRelease(r)
	m.st.Interests = slices.DeleteFunc(slices.Clone(m.st.Interests), func(x api.Interest) bool { return x.Package == name })
	m.now()
	var paths []string
	if i := lists.Find(m.st.Lists, name); i >= 0 {
		paths = m.st.Lists[i].Paths
	}
	m.clear(name, paths, r.Confs, name)
	m.fire(m.firedBy(paths), "")
	if e := m.script(pack.Pick(pool, name, r.Version), api.PostRm); e != api.OK {
		return e
	}
	there := false
	var left []string
	for _, c := range r.Confs {
		_, has := m.files[divs.True(m.st.Diverts, c.Path, name)]
		there = there || has
		left = append(left, c.Path)
	}
	if !there {
		m.forget(name)
		return api.OK
	}
	m.list(name, left)
	r.State = api.SConfig
	m.note(r)
	return api.OK
}

func (m *model) purge(name string, pool []api.Package) api.Errno {
	r, has := m.record(name)
	if !has {
		return api.ENOENT
	}
	if r.State != api.SConfig {
		return api.ESTATE
	}
	if e := m.script(pack.Pick(pool, name, r.Version), api.PostRm); e != api.OK {
		return e
	}
	var paths []string
	for _, c := range r.Confs {
		paths = append(paths, c.Path)
	}
	m.clear(name, paths, nil, name)
	m.forget(name)
	return api.OK
}

// reached tells whether databases are as they were at some time.
func (m *model) reached(st api.State) bool {
	return slices.ContainsFunc(m.trace, func(x api.State) bool { return same(x, st) })
}
