package admin

import (
	"cellarer/alts"
	"cellarer/api"
	"cellarer/choose"
	"cellarer/divs"
	"cellarer/lists"
	"cellarer/path"
	"cellarer/status"
	"cellarer/store"
)

// query does a line that asks the databases.
func (w *World) query(x api.Line) (string, api.Errno) {
	st, e := store.Load(w.d)
	if e != api.OK {
		return "", e
	}
	switch x.Kind {
	case api.LTrue:
		return place(st, x.Text, x.Name)
	case api.LShow:
		return show(st, x.Name)
	case api.LOwner:
		return owners(st, x.Text)
	}
	return alternative(st, x.Name)
}

// place is where a path is, for a package.
func place(st api.State, p, name string) (string, api.Errno) {
	if !path.Right(p) {
		return "", api.EARG
	}
	return divs.True(st.Diverts, p, name) + feed, api.OK
}

// show is a package's record.
func show(st api.State, name string) (string, api.Errno) {
	i := status.Find(st.Records, name)
	if i < 0 {
		return "", api.ENOENT
	}
	return status.Print(st.Records[i : i+1])
}

// owners is whose a path is.
func owners(st api.State, p string) (string, api.Errno) {
	names := lists.Owners(st.Lists, p)
	if len(names) == 0 {
		return "", api.ENOENT
	}
	return lines("", names), api.OK
}

// alternative is what is known of an alternative, and what its names lead to.
func alternative(st api.State, name string) (string, api.Errno) {
	i := alts.Find(st.Alts, name)
	if i < 0 {
		return "", api.ENOENT
	}
	x := st.Alts[i]
	text, e := alts.Print(x)
	targets := []string{choose.Target(x, x.Name)}
	for _, s := range x.Slaves {
		targets = append(targets, choose.Target(x, s.Name))
	}
	return text + lines("", targets), e
}
