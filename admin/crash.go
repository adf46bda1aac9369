package admin

import "cellarer/repair"

const maxCrashes = 8

// crash is behind how many steps power goes off, and what remains then.
type crash struct {
	steps, keep int
	cuts        []int
}

// crashes are those that are to come, one after the other.
type crashes struct {
	coming []crash
	armed  bool // whether the disk knows of the first one
}

// arm lets the disk know of the first crash.
func (w *World) arm() {
	if len(w.coming) > 0 && !w.armed {
		w.armed = true
		w.d.Fuse(w.coming[0].steps)
	}
}

// strike lets the first crash come over the disk, and arms the next one. If
// power went off without any, nothing remains of what was not kept.
func (w *World) strike() {
	var x crash
	if len(w.coming) > 0 {
		x, w.coming = w.coming[0], w.coming[1:]
	}
	w.armed = false
	w.d.Crash(x.keep, x.cuts)
	w.arm()
}

// reboot lets a world recover if power is off. It ends, as each crash strikes
// once.
func (w *World) reboot() {
	for !w.d.On() {
		w.strike()
		// What can't be put in order now is left to the next time.
		repair.Repair(w.d)
	}
}
