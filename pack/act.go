package pack

import (
	"math"
	"strings"

	"cellarer/api"
	"cellarer/bits"
	"cellarer/path"
	"cellarer/status"
)

const (
	root       = "/"
	databases  = "/var/lib/dpkg"
	adminLinks = "/etc/alternatives"

	// A link is placed under its path with .dpkg-tmp behind it, which is to be
	// a path too.
	maxLink = api.MaxPath - len(".dpkg-tmp")

	maxSlaves = 8
)

// endings is those of files that are there for a while, or beside a conffile.
var endings = [3]string{".dpkg-new", ".dpkg-tmp", ".dpkg-dist"}

func hasEnding(s string) bool {
	for _, ending := range endings {
		if strings.HasSuffix(s, ending) {
			return true
		}
	}
	return false
}

// Reserved tells whether a path is where databases, admin links or files of ours are.
func Reserved(p string) bool {
	return within(databases, p) || within(adminLinks, p) || hasEnding(p)
}

func within(dir, p string) bool { return p == dir || path.Under(dir, p) }

func place(p string) bool { return path.Right(p) && p != root && !Reserved(p) }

func link(p string) bool { return place(p) && len(p) <= maxLink }

// name tells whether an alternative, or a slave, may be called so. Its admin link
// has that name, and is not to be taken for a file that is there for a while.
func name(s string) bool { return path.Name(s) && !hasEnding(s) }

// orNothing tells whether a text is right, or empty.
func orNothing(s string, right func(string) bool) bool { return s == "" || right(s) }

// Act tells whether a command may be in a script.
func Act(a api.Act) bool {
	switch a.Kind {
	case api.CDivert:
		if !orNothing(a.To, place) {
			return false
		}
		fallthrough
	case api.CUndiv:
		if !orNothing(a.Name, path.Name) {
			return false
		}
		fallthrough
	case api.CUnover:
		return place(a.Path)
	case api.COver:
		return place(a.Path) && bits.Right(a.Meta)
	case api.CInstall:
		if !link(a.To) || !prio(a.Prio) || !slaves(a) {
			return false
		}
		fallthrough
	case api.CRemove, api.CSet:
		if !place(a.Path) {
			return false
		}
		fallthrough
	case api.CAll, api.CAuto:
		return name(a.Name)
	case api.CFire:
		return status.Trigger(a.Name)
	}
	return false
}

func prio(n int) bool { return math.MinInt32 <= n && n <= math.MaxInt32 }

// slaves tells whether what is installed may have its slaves, and paths for them.
func slaves(a api.Act) bool {
	return len(a.Slaves) <= maxSlaves && len(a.Paths) == len(a.Slaves) &&
		every(a.Slaves, func(s api.Slave) bool { return name(s.Name) && link(s.Link) }) &&
		every(a.Paths, func(p string) bool { return orNothing(p, place) })
}
