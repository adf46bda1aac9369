package place

import (
	"iter"
	"slices"

	"cellarer/api"
	"cellarer/disk"
)

// What is behind an item's place.
const (
	newEnding = ".dpkg-new" // of what is to come there
	tmpEnding = ".dpkg-tmp" // of what was there
)

func (x Item) newAt() string { return x.At + newEnding }

func (x Item) tmpAt() string { return x.At + tmpEnding }

// step is what is done with an item.
type step func(x Item, d *disk.Disk) api.Errno

// each does a step with one item after the other, till there is an error.
func each(d *disk.Disk, l iter.Seq[Item], do step) api.Errno {
	for x := range l {
		if e := do(x, d); e != api.OK {
			return e
		}
	}
	return api.OK
}

// backwards is items from the last one on.
func backwards(l []Item) iter.Seq[Item] {
	return func(yield func(Item) bool) {
		for i := len(l) - 1; i >= 0; i-- {
			if !yield(l[i]) {
				return
			}
		}
	}
}

// Stage makes all files beside where they are to be.
func Stage(d *disk.Disk, l []Item) api.Errno { return each(d, slices.Values(l), Item.stage) }

// Swap puts all files in the place of those that are there.
func Swap(d *disk.Disk, l []Item) api.Errno { return each(d, slices.Values(l), Item.swap) }

// Commit lets all go that was there.
func Commit(d *disk.Disk, l []Item) api.Errno {
	// What was there may go only when what came in its place is sure to last.
	if e := d.Sync(root); e != api.OK {
		return e
	}
	if e := each(d, slices.Values(l), Item.commit); e != api.OK {
		return e
	}
	return d.Sync(root)
}

// Undo takes back all that was done.
func Undo(d *disk.Disk, l []Item) api.Errno {
	if e := each(d, slices.Values(l), Item.undo); e != api.OK {
		return e
	}
	// A directory is empty only when those below it are gone.
	if e := each(d, backwards(l), Item.undoDir); e != api.OK {
		return e
	}
	return onlyOff(d.Sync(root))
}

// onlyOff forgets each error but that there is no power: nothing else keeps the
// rest from being done.
func onlyOff(e api.Errno) api.Errno {
	if e == api.EOFF {
		return e
	}
	return api.OK
}

func (x Item) stage(d *disk.Disk) api.Errno {
	if x.dir() {
		return x.makeDir(d)
	}
	at, f := x.newAt(), x.File
	if exists(d, at) {
		if e := unlink(d, at); e != api.OK {
			return e
		}
	}
	if f.Kind == api.KLink {
		return d.Do(api.Op{Kind: api.OSymlink, Path: at, Text: f.Text, Meta: f.Meta})
	}
	return create(d, at, f)
}

func (x Item) makeDir(d *disk.Disk) api.Errno {
	if !x.Fresh {
		return api.OK
	}
	return d.Do(api.Op{Kind: api.OMkdir, Path: x.At, Meta: x.File.Meta})
}

// create makes a file at a path, and lets its text last.
func create(d *disk.Disk, at string, f api.File) api.Errno {
	if e := d.Do(api.Op{Kind: api.OCreate, Path: at, Meta: f.Meta}); e != api.OK {
		return e
	}
	if f.Text != "" {
		if e := d.Do(api.Op{Kind: api.OWrite, Path: at, Text: f.Text}); e != api.OK {
			return e
		}
	}
	return d.Sync(at)
}

func (x Item) swap(d *disk.Disk) api.Errno {
	if x.dir() {
		return api.OK
	}
	if !x.Fresh {
		if e := rename(d, x.At, x.tmpAt()); e != api.OK {
			return e
		}
	}
	return rename(d, x.newAt(), x.At)
}

func (x Item) commit(d *disk.Disk) api.Errno {
	if x.dir() || x.Fresh {
		return api.OK
	}
	return unlink(d, x.tmpAt())
}

func (x Item) undo(d *disk.Disk) api.Errno {
	if x.dir() {
		return api.OK
	}
	if e := onlyOff(x.withdraw(d)); e != api.OK {
		return e
	}
	return onlyOff(x.putBack(d))
}

// withdraw takes away what came for an item, as far as it came.
func (x Item) withdraw(d *disk.Disk) api.Errno {
	switch {
	case exists(d, x.newAt()):
		return unlink(d, x.newAt())
	case x.Fresh && exists(d, x.At):
		return unlink(d, x.At)
	}
	return api.OK
}

// putBack puts what was there where it was.
func (x Item) putBack(d *disk.Disk) api.Errno {
	if !exists(d, x.tmpAt()) {
		return api.OK
	}
	return rename(d, x.tmpAt(), x.At)
}

func (x Item) undoDir(d *disk.Disk) api.Errno {
	if !x.dir() || !x.Fresh {
		return api.OK
	}
	return onlyOff(d.Do(api.Op{Kind: api.ORmdir, Path: x.At}))
}

func unlink(d *disk.Disk, p string) api.Errno {
	return d.Do(api.Op{Kind: api.OUnlink, Path: p})
}

func rename(d *disk.Disk, p, to string) api.Errno {
	return d.Do(api.Op{Kind: api.ORename, Path: p, To: to})
}
