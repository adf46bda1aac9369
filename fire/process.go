package fire

import (
	"slices"

	"cellarer/api"
	"cellarer/disk"
	"cellarer/pack"
	"cellarer/path"
	"cellarer/run"
	"cellarer/status"
	"cellarer/store"
	"cellarer/trigs"
)

// Result is what became of all that was due.
type Result struct {
	Runs   []string
	Cycles []string
	Failed []string
	Rounds int
}

// edge leads from the package whose script fired a trigger to one that is
// interested in it.
type edge [2]string

// process is a call of Process, and what it reached.
type process struct {
	d     *disk.Disk
	st    api.State
	pool  []api.Package
	codes []int
	out   Result
	edges map[edge]struct{}
}

// Process processes all that is pending.
func Process(d *disk.Disk, st api.State, pool []api.Package, codes []int) (api.State, []int, Result, api.Errno) {
	p := &process{d: d, st: st, pool: pool, codes: codes, edges: map[edge]struct{}{}}
	e := p.rounds()
	if e != api.OK && e != api.EOFF {
		p.reload()
	}
	return p.st, p.codes, p.out, e
}

// reload takes the state that the disk has: behind an error that may be another
// one than that which was reached.
func (p *process) reload() {
	if st, e := store.Load(p.d); e == api.OK {
		p.st = st
	}
}

// rounds ends, as what a script fires anew leads either to ever other packages
// or into a cycle, and who is in a cycle takes no triggers any more.
func (p *process) rounds() api.Errno {
	for {
		st, e := TakeIn(p.d, p.st)
		p.st = st
		if e != api.OK {
			return e
		}
		names := due(st.Records)
		if len(names) == 0 {
			return api.OK
		}
		p.out.Rounds++
		for _, name := range names {
			if e := p.turn(name); e != api.OK {
				return e
			}
		}
	}
}

// due is the names of those that have something to do.
func due(l []api.Record) []string {
	var out []string
	for _, x := range l {
		if Ready(x.State) && len(x.Pending) > 0 {
			out = append(out, x.Name)
		}
	}
	return path.Sorted(out)
}

// turn is what is done for a package that is due.
func (p *process) turn(name string) api.Errno {
	x := p.st.Records[status.Find(p.st.Records, name)]
	awaited := x.Awaited
	x.State, x.Pending, x.Awaited = api.SHalfConf, nil, nil
	if e := p.note(status.Put(p.st.Records, x)); e != api.OK {
		return e
	}
	if p.inCycle(name) {
		p.out.Cycles = append(p.out.Cycles, name)
		return api.OK
	}
	p.out.Runs = append(p.out.Runs, name)
	switch e := p.script(x); e {
	case api.OK:
	case api.ESCRIPT:
		p.out.Failed = append(p.out.Failed, name)
		return api.OK
	default:
		return e
	}
	x.State, x.Awaited = api.SInstalled, awaited
	return p.note(unawaited(status.Put(p.st.Records, x), name))
}

// note replaces the records.
func (p *process) note(l []api.Record) api.Errno {
	e := store.Records(p.d, l)
	if e == api.OK {
		p.st.Records = l
	}
	return e
}

// script does a package's script, and keeps in mind whom it led to.
func (p *process) script(x api.Record) api.Errno {
	before := p.st.Fired
	l := pack.Pick(p.pool, x.Name, x.Version).Scripts[api.PostInst]
	var e api.Errno
	p.st, p.codes, e = run.Script(p.d, p.st, l, x.Name, p.codes)
	for _, f := range p.st.Fired {
		if has(before, f) {
			continue
		}
		for _, in := range trigs.For(p.st.Interests, f.Trigger) {
			p.edges[edge{x.Name, in.Package}] = struct{}{}
		}
	}
	return e
}

// has tells whether a trigger was fired already, by the same ones.
func has(l []api.Fired, f api.Fired) bool {
	return slices.ContainsFunc(l, func(x api.Fired) bool {
		return x.Trigger == f.Trigger && slices.Equal(x.By, f.By)
	})
}

// inCycle tells whether a path leads from a package to itself. Who has no record
// has no script that would lead on.
func (p *process) inCycle(name string) bool {
	seen := map[string]struct{}{}
	var leads func(from string) bool
	leads = func(from string) bool {
		if _, back := p.edges[edge{from, name}]; back {
			return true
		}
		seen[from] = struct{}{}
		for _, x := range p.st.Records {
			_, on := p.edges[edge{from, x.Name}]
			_, before := seen[x.Name]
			if on && !before && leads(x.Name) {
				return true
			}
		}
		return false
	}
	return leads(name)
}

// unawaited is records of which none awaits a name any more.
func unawaited(l []api.Record, name string) []api.Record {
	out := slices.Clone(l)
	for i, x := range out {
		out[i].Awaited = slices.DeleteFunc(slices.Clone(x.Awaited), func(s string) bool { return s == name })
	}
	settle(out)
	return out
}
