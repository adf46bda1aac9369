package place

import (
	"strings"

	"cellarer/api"
	"cellarer/disk"
	"cellarer/path"
)

// Sweep takes away what a crash left.
func Sweep(d *disk.Disk) api.Errno {
	before := d.Steps()
	if e := sweep(d, newEnding, unlink); e != api.OK {
		return e
	}
	if e := sweep(d, tmpEnding, restore); e != api.OK {
		return e
	}
	if d.Steps() == before {
		return api.OK
	}
	return d.Sync(root)
}

// sweep does something with each path of an ending, but for directories, till
// there is an error.
func sweep(d *disk.Disk, ending string, do func(d *disk.Disk, p string) api.Errno) api.Errno {
	for _, x := range d.Image() {
		if x.Kind == api.KDir || !strings.HasSuffix(x.Path, ending) {
			continue
		}
		if e := do(d, x.Path); e != api.OK {
			return e
		}
	}
	return api.OK
}

// restore puts what was somewhere back, unless something is there again, or
// nothing can be.
func restore(d *disk.Disk, p string) api.Errno {
	was := bare(p)
	if exists(d, was) || !path.Right(was) {
		return unlink(d, p)
	}
	return rename(d, p, was)
}

// bare is what precedes all endings.
func bare(p string) string {
	for {
		s := strings.TrimSuffix(strings.TrimSuffix(p, newEnding), tmpEnding)
		if s == p {
			return s
		}
		p = s
	}
}
