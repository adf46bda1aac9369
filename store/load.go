package store

import (
	"slices"
	"strings"

	"cellarer/alts"
	"cellarer/api"
	"cellarer/disk"
	"cellarer/divs"
	"cellarer/lists"
	"cellarer/overs"
	"cellarer/path"
	"cellarer/status"
	"cellarer/trigs"
)

// Load is all databases.
func Load(d *disk.Disk) (api.State, api.Errno) {
	// The root is always there: what it can't tell is a matter of the disk.
	if _, e := d.Stat(root); e != api.OK {
		return api.State{}, e
	}
	var st api.State
	e := perform(
		load(d, recordsAt, status.Parse, &st.Records),
		load(d, divertsAt, divs.Parse, &st.Diverts),
		load(d, oversAt, overs.Parse, &st.Overs),
		load(d, intsAt, trigs.Parse, &st.Interests),
		load(d, firedAt, trigs.ParseFired, &st.Fired),
		loadAll(d, altsAt, "", alts.Parse, alts.Check, &st.Alts),
		loadAll(d, listsAt, listEnding, lists.Parse, lists.Check, &st.Lists),
	)
	if e != api.OK {
		return api.State{}, api.ECORRUPT
	}
	return st, api.OK
}

// load is the step that reads the file of a database into a place.
func load[T any](d *disk.Disk, p string, parse func(string) (T, api.Errno), to *T) step {
	return func() api.Errno {
		text, e := d.Read(p)
		if e != api.OK {
			return e
		}
		x, e := parse(text)
		*to = x
		return e
	}
}

// loadAll is the step that reads a directory, which has a file for each element
// of a database, into a place.
func loadAll[T any](d *disk.Disk, dir, ending string, parse func(name, s string) (T, api.Errno), check func([]T) api.Errno, to *[]T) step {
	return func() api.Errno {
		names, e := named(d, dir, ending)
		if e != api.OK {
			return e
		}
		for _, name := range names {
			var x T
			one := func(text string) (T, api.Errno) { return parse(name, text) }
			if e := load(d, path.Join(dir, name+ending), one, &x)(); e != api.OK {
				return e
			}
			*to = append(*to, x)
		}
		return check(*to)
	}
}

// named is the names, rising, of the files of a directory, which all have an
// ending behind their names.
func named(d *disk.Disk, dir, ending string) ([]string, api.Errno) {
	files, e := d.List(dir)
	if e != api.OK {
		return nil, e
	}
	var out []string
	for _, file := range files {
		name, ok := strings.CutSuffix(file, ending)
		if !ok || !path.Name(name) {
			return nil, api.EFORM
		}
		out = append(out, name)
	}
	// With the ending, a name that begins another one may stand behind it.
	slices.Sort(out)
	return out, api.OK
}
