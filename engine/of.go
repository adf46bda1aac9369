package engine

import (
	"slices"

	"cellarer/api"
	"cellarer/lists"
	"cellarer/pack"
	"cellarer/status"
)

// record is what is to be known of a package.
func record(x api.Package, state int, confs []api.Conf) api.Record {
	return api.Record{
		Name:      x.Name,
		Version:   x.Version,
		State:     state,
		Depends:   x.Depends,
		Conflicts: x.Conflicts,
		Replaces:  x.Replaces,
		Confs:     confs,
	}
}

// recordOf is the record of a name, or an empty one.
func recordOf(l []api.Record, name string) api.Record {
	if i := status.Find(l, name); i >= 0 {
		return l[i]
	}
	return api.Record{}
}

// pathsOf is the paths of the list of a name.
func pathsOf(l []api.List, name string) []string {
	if i := lists.Find(l, name); i >= 0 {
		return l[i].Paths
	}
	return nil
}

// filePaths is a package's paths, but for directories.
func filePaths(x api.Package) []string {
	var out []string
	for _, f := range x.Files {
		if f.Kind != api.KDir {
			out = append(out, f.Path)
		}
	}
	return out
}

// confPaths is the paths of a package's conffiles.
func confPaths(x api.Record) []string {
	var out []string
	for _, c := range x.Confs {
		out = append(out, c.Path)
	}
	return out
}

// picked is the package that a record is of.
func picked(pool []api.Package, x api.Record) api.Package {
	return pack.Pick(pool, x.Name, x.Version)
}

// without is texts, of which some are left out.
func without(l, some []string) []string {
	var out []string
	for _, s := range l {
		if !slices.Contains(some, s) {
			out = append(out, s)
		}
	}
	return out
}

// configured tells whether a package in a state may be leant on.
func configured(state int) bool {
	return state == api.SInstalled || state == api.SPending || state == api.SAwaited
}

// unawaited is records of which none awaits another one's name any more.
func unawaited(l []api.Record, name string) []api.Record {
	var out []api.Record
	for _, x := range l {
		if x.Name != name {
			x.Awaited = without(x.Awaited, []string{name})
			if x.State == api.SAwaited {
				x.State = status.Settled(x)
			}
		}
		out = append(out, x)
	}
	return out
}
