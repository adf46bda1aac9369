package fire_test

import (
	"fmt"
	"math/rand/v2"
	"slices"
	"testing"

	"cellarer/api"
	"cellarer/disk"
	"cellarer/fire"
	"cellarer/path"
	"cellarer/repair"
	"cellarer/status"
	"cellarer/store"
)

func pick[T any](r *rand.Rand, l ...T) T { return l[r.IntN(len(l))] }

// some is some of a list.
func some[T any](r *rand.Rand, l []T, n int) []T {
	var out []T
	for _, x := range l {
		if r.IntN(n) == 0 {
			out = append(out, x)
		}
	}
	return out
}

// game is random packages, and what is known of them: who awaits another one has
// a reason.
type game struct {
	names, triggers []string
	st              api.State
	pool            []api.Package
	codes           []int
}

func newGame(r *rand.Rand) game {
	g := game{names: many(1+r.IntN(6), "p%d"), triggers: many(1+r.IntN(6), "t%d")}
	for _, name := range g.names {
		x := rec(name, api.SInstalled)
		if r.IntN(6) == 0 {
			x.State = pick(r, api.SHalfConf, api.SUnpacked, api.SConfig, api.SHalfInst)
		}
		if fire.Ready(x.State) && r.IntN(3) == 0 {
			x.Pending = some(r, g.triggers, 3)
		}
		g.st.Records = append(g.st.Records, x)
	}
	for i, x := range g.st.Records {
		if !fire.Ready(x.State) {
			continue
		}
		for _, y := range append(slices.Clone(g.st.Records), rec("q", api.SConfig)) {
			if r.IntN(4) == 0 && (!fire.Ready(y.State) || len(y.Pending) > 0) {
				x.Awaited = append(x.Awaited, y.Name)
			}
		}
		x.State = status.Settled(x)
		g.st.Records[i] = x
	}
	for _, trigger := range g.triggers {
		for _, name := range some(r, append(g.names, "q"), 3) {
			g.st.Interests = append(g.st.Interests, api.Interest{Trigger: trigger, Package: name, Noawait: r.IntN(3) == 0})
		}
		if r.IntN(3) == 0 {
			g.st.Fired = append(g.st.Fired, by(trigger, some(r, append(g.names, "q"), 3)...))
		}
	}
	for _, name := range g.names {
		g.pool = append(g.pool, pack(name, g.script(r)...))
	}
	for range r.IntN(6) {
		g.codes = append(g.codes, pick(r, 0, 0, 0, 0, 0, 0, 1))
	}
	return g
}

func (g game) script(r *rand.Rand) []api.Act {
	var out []api.Act
	for len(out) < api.MaxActs && r.IntN(2) > 0 {
		trigger := pick(r, g.triggers...)
		out = append(out, pick(r, fires(trigger), quiet(trigger)))
		if r.IntN(6) == 0 {
			out = append(out, pick(r,
				api.Act{Kind: api.COver, Path: "/" + trigger, Force: true},
				api.Act{Kind: api.CUnover, Path: "/" + trigger},
				api.Act{Kind: api.CInstall, Name: "x", To: "/x", Path: "/etc", Prio: len(out)},
			))
		}
	}
	return out
}

// P25.3, P25.4, P25.6

// sound sees that what Process told and left is what follows from its words.
func (g game) sound(t *testing.T, what string, got answer, steps int) {
	t.Helper()
	n := len(g.st.Records)
	if got.out.Rounds > n+1 || len(got.out.Runs) > n*n || steps > 4000*(n*n+n+1) {
		t.Fatalf("%s: %v in %d steps", what, got.out, steps)
	}
	if len(path.Sorted(got.out.Cycles)) != len(got.out.Cycles) {
		t.Fatalf("%s: %v", what, got.out)
	}
	for _, name := range append(slices.Clone(got.out.Cycles), got.out.Failed...) {
		i := status.Find(got.st.Records, name)
		if x := got.st.Records[i]; !same(x, api.Record{Name: name, Version: "1", State: api.SHalfConf}) {
			t.Fatalf("%s: %v in a cycle, or failed", what, x)
		}
	}
	for _, name := range got.out.Cycles {
		if !g.mayLead(name, name, nil) {
			t.Fatalf("%s: nothing leads %s to itself", what, name)
		}
	}
	if got.e == api.OK {
		g.settled(t, what, got)
	}
}

// mayLead tells whether what scripts may fire leads from one to another one.
func (g game) mayLead(from, to string, seen []string) bool {
	if slices.Contains(seen, from) {
		return false
	}
	for _, x := range g.pool {
		if x.Name != from {
			continue
		}
		for _, a := range x.Scripts[api.PostInst] {
			for _, in := range g.st.Interests {
				if a.Kind != api.CFire || a.Name != in.Trigger {
					continue
				}
				if in.Package == to || g.mayLead(in.Package, to, append(seen, from)) {
					return true
				}
			}
		}
	}
	return false
}

// settled sees that no one is left with something to do, and that whoever waits
// has a reason.
func (g game) settled(t *testing.T, what string, got answer) {
	t.Helper()
	for _, x := range got.st.Records {
		if !fire.Ready(x.State) {
			continue
		}
		if len(x.Pending) > 0 || x.State != status.Settled(x) {
			t.Fatalf("%s: %v", what, x)
		}
		for _, y := range x.Awaited {
			i := status.Find(got.st.Records, y)
			if i >= 0 && fire.Ready(got.st.Records[i].State) {
				t.Fatalf("%s: %v awaits %v", what, x, got.st.Records[i])
			}
		}
	}
	if len(got.st.Fired) > 0 {
		t.Fatalf("%s: %v is fired", what, got.st.Fired)
	}
}

func TestRandom(t *testing.T) {
	t.Parallel()
	seen := map[string]int{}
	for seed := range uint64(1000) {
		r := rand.New(rand.NewPCG(25, seed))
		g := newGame(r)
		c := trial{what: fmt.Sprint(seed, g), st: g.st, pool: g.pool, codes: g.codes}
		got, d := c.held(t, "", func(*disk.Disk) {})
		seen[fmt.Sprintf("%d rounds", got.out.Rounds)]++
		seen[fmt.Sprintf("%d cycles", len(got.out.Cycles))]++
		seen["failed"] += len(got.out.Failed)
		g.sound(t, c.what, got, d.Steps())
		n := r.IntN(d.Steps() + 1)
		got, _ = c.held(t, fmt.Sprintf("with %d steps", n), func(d *disk.Disk) { d.Fuse(n) })
		g.sound(t, c.what, got, n)
		limits := pick(r, bounds(d)...)
		got, _ = c.held(t, fmt.Sprintf("with %v", limits), func(d *disk.Disk) { d.Bound(limits) })
		g.sound(t, c.what, got, d.Steps())
		seen[fmt.Sprintf("limited %d", got.e)]++
	}
	for what, n := range map[string]int{"0 rounds": 50, "1 rounds": 50, "2 rounds": 50, "3 rounds": 20, "4 rounds": 5, "1 cycles": 50, "2 cycles": 5, "failed": 50, "limited 0": 50, "limited 9": 20} {
		if seen[what] < n {
			t.Errorf("%d times %s: %v", seen[what], what, seen)
		}
	}
}

// P25.5

// If no script fires anything, or fails, all is done in one round.
func TestQuiet(t *testing.T) {
	t.Parallel()
	for seed := range uint64(300) {
		r := rand.New(rand.NewPCG(255, seed))
		g := newGame(r)
		g.codes = slices.Repeat([]int{0}, r.IntN(4))
		for i := range g.pool {
			g.pool[i].Scripts[api.PostInst] = pick(r, nil, acts(api.Act{Kind: api.COver, Path: "/f", Force: true}))
		}
		got := process(t, laid(t, g.st), g.st, g.pool, g.codes)
		if got.e != api.OK || got.out.Rounds > 1 || len(got.out.Cycles)+len(got.out.Failed) > 0 {
			t.Fatalf("%v: %v", g, got)
		}
		g.settled(t, fmt.Sprint(g), got)
		for i, x := range got.st.Records {
			if was := g.st.Records[i]; fire.Ready(was.State) != fire.Ready(x.State) || !fire.Ready(was.State) && !same(x, was) {
				t.Fatalf("%v: %v is %v", g, was, x)
			}
		}
	}
}

// P25.3, P25.6

// Rings of packages, of which each one fires the next one's trigger: the rounds
// are as many as the packages, and one more, in which the first one is in a cycle.
func TestRings(t *testing.T) {
	t.Parallel()
	for _, n := range []int{1, 2, 3, 10, 64} {
		g := game{names: many(n, "p%02d")}
		for i, name := range g.names {
			g.st.Records = append(g.st.Records, rec(name, api.SInstalled))
			g.st.Interests = append(g.st.Interests, in(name, name))
			g.pool = append(g.pool, pack(name, fires(g.names[(i+1)%n])))
		}
		g.st.Fired = []api.Fired{by(g.names[n/2])}
		d := laid(t, g.st)
		got := process(t, d, g.st, g.pool, nil)
		first := g.names[n/2]
		runs := append(slices.Clone(g.names[n/2:]), g.names[:n/2]...)
		if got.e != api.OK || !same(got.out, fire.Result{Runs: runs, Cycles: []string{first}, Rounds: n + 1}) {
			t.Errorf("%d: %v", n, got)
		}
		for _, x := range got.st.Records {
			before := g.names[(n/2+n-1)%n]
			if x.Name == first && !same(x, rec(first, api.SHalfConf)) ||
				x.Name != first && x.Name == before && !same(x, awaiting(x.Name, first)) ||
				x.Name != first && x.Name != before && !same(x, rec(x.Name, api.SInstalled)) {
				t.Errorf("%d: %v", n, x)
			}
		}
		g.sound(t, fmt.Sprint(n), got, d.Steps())
		// All at once, all are in the cycle.
		for _, name := range g.names {
			g.st.Fired = trigger(g.st.Fired, name)
		}
		got = process(t, laid(t, g.st), g.st, g.pool, nil)
		if got.e != api.OK || got.out.Rounds != 2 || !slices.Equal(got.out.Runs, g.names) || !slices.Equal(got.out.Cycles, g.names) {
			t.Errorf("%d at once: %v", n, got)
		}
	}
}

func trigger(l []api.Fired, s string) []api.Fired {
	if slices.ContainsFunc(l, func(x api.Fired) bool { return x.Trigger == s }) {
		return l
	}
	l = append(slices.Clone(l), by(s))
	slices.SortFunc(l, func(a, b api.Fired) int { return slices.Compare([]string{a.Trigger}, []string{b.Trigger}) })
	return l
}

// Whatever a crash leaves of Process, all that is there can be read, and was
// reached; from there processing goes on, and ends as it is to.
func TestCrashes(t *testing.T) {
	t.Parallel()
	l := trials()
	for seed := range uint64(24) {
		g := newGame(rand.New(rand.NewPCG(26, seed)))
		l = append(l, trial{what: fmt.Sprint(seed, g), st: g.st, pool: g.pool, codes: g.codes})
	}
	for i, c := range l {
		m := &model{d: laid(t, c.st), st: c.st, pool: c.pool, codes: c.codes}
		end := m.process()
		must(t, end.e)
		reached := map[string]bool{}
		for _, st := range m.trace {
			reached[show(st)] = true
		}
		r := rand.New(rand.NewPCG(27, uint64(i)))
		for n := range m.d.Steps() + 1 {
			d := laid(t, c.st)
			d.Fuse(n)
			got := process(t, d, c.st, c.pool, c.codes)
			d.Crash(r.IntN(d.Pending()+1), []int{r.IntN(4), int(r.Uint64())})
			now := loads(t, d)
			if !reached[show(now)] || got.e == api.OK && !same(now, end.st) {
				t.Fatalf("%s with %d steps: %v", c.what, n, now)
			}
			if again, e := repair.Repair(d); e != api.OK || !same(again, now) || !same(loads(t, d), now) {
				t.Fatalf("%s with %d steps: recovered %d %v, was %v", c.what, n, e, again, now)
			}
			if got := process(t, d, now, c.pool, nil); got.e != api.OK || slices.ContainsFunc(got.st.Records, func(x api.Record) bool { return x.State == api.SPending }) {
				t.Fatalf("%s with %d steps: again %v", c.what, n, got)
			}
		}
	}
}

// The same packages, processed again and again with power going off ever later,
// and all that is pending lost: at each time all can be read, and in the end
// nothing is left to do.
func TestAgainAfterCrashes(t *testing.T) {
	t.Parallel()
	for seed := range uint64(100) {
		g := newGame(rand.New(rand.NewPCG(28, seed)))
		d, st := laid(t, g.st), g.st
		for n := 0; ; n++ {
			d.Fuse(n)
			_, _, _, e := fire.Process(d, st, g.pool, nil)
			if d.On() {
				must(t, e)
				break
			}
			d.Crash(0, nil)
			var f api.Errno
			if st, f = repair.Repair(d); f != api.OK {
				t.Fatal(f)
			}
		}
		d.Crash(0, nil)
		st, e := store.Load(d)
		must(t, e)
		g.settled(t, fmt.Sprint(seed), answer{st: st})
	}
}
