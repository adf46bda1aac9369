package order_test

import (
	"fmt"
	"math/rand/v2"
	"reflect"
	"slices"
	"strings"
	"testing"

	"cellarer/api"
	"cellarer/check"
	"cellarer/disk"
	"cellarer/engine"
	"cellarer/order"
	"cellarer/relation"
	"cellarer/repair"
	"cellarer/status"
	"cellarer/store"
)

// rec is a record, of version 1, that needs each of some groups, as they are
// written: "b | c (>= 1)".
func rec(name string, state int, groups ...string) api.Record {
	l, e := relation.ParseAll(strings.Join(groups, ", "))
	if e != api.OK {
		panic(groups)
	}
	return api.Record{Name: name, Version: "1", State: state, Depends: l}
}

func open(name string, groups ...string) api.Record { return rec(name, api.SUnpacked, groups...) }

func done(name string, groups ...string) api.Record { return rec(name, api.SInstalled, groups...) }

func list(l ...api.Record) []api.Record { return l }

func words(s string) []string { return strings.Fields(s) }

func must(t *testing.T, e api.Errno) {
	t.Helper()
	if e != api.OK {
		t.Fatal(e)
	}
}

// spared is records of which each list has something behind its end, which nobody
// may touch; whole is all of them, with that.
func spared(l []api.Record) []api.Record {
	out := make([]api.Record, 0, len(l)+1)
	for _, x := range l {
		x.Depends = append(make([][]api.Rel, 0, len(x.Depends)+1), x.Depends...)
		x.Awaited = append(make([]string, 0, len(x.Awaited)+1), x.Awaited...)
		out = append(out, x)
	}
	return out
}

func whole(l []api.Record) string {
	var out strings.Builder
	for _, x := range l[:cap(l)] {
		fmt.Fprintf(&out, "%q %q\n", fmt.Sprint(x), fmt.Sprint(x.Depends[:cap(x.Depends)], x.Awaited[:cap(x.Awaited)]))
	}
	return out.String()
}

// P31.1

func TestOpen(t *testing.T) {
	t.Parallel()
	for state := -2; state <= 9; state++ {
		if got, want := order.Open(state), state == api.SUnpacked || state == api.SHalfConf; got != want {
			t.Errorf("Open(%d) is %t", state, got)
		}
	}
}

func TestPlan(t *testing.T) {
	t.Parallel()
	for _, c := range []struct {
		what        string
		l           []api.Record
		plan, stuck string
	}{
		{"nothing", nil, "", ""},
		{"one that needs nothing", list(open("a")), "a", ""},
		{"half-configured", list(rec("a", api.SHalfConf)), "a", ""},
		{"those that are not open", list(rec("a", api.SConfig), rec("b", api.SHalfInst), rec("c", api.SAwaited), rec("d", api.SPending), done("e"), rec("f", 0), rec("g", 8)), "", ""},
		{"each for itself", list(open("a"), rec("b", api.SHalfConf), open("c")), "a b c", ""},
		{"in the order of the list", list(open("c"), open("a"), open("b")), "c a b", ""},
		{"a needs b", list(open("a", "b"), open("b")), "b a", ""},
		{"b needs a", list(open("a"), open("b", "a")), "a b", ""},
		{"the first one that can be, again from the first one on", list(open("a", "c"), open("b"), open("c"), open("d")), "b c a d", ""},
		{"a chain", list(open("a", "b"), open("b", "c"), open("c", "d"), open("d")), "d c b a", ""},
		{"each other", list(open("a", "b"), open("b", "a")), "", "a b"},
		{"itself", list(open("a", "a"), open("b", "a")), "", "a b"},
		{"three in a ring, and one beside it", list(open("a", "b"), open("b", "c"), open("c", "a"), open("d")), "d", "a b c"},
		{"one that leans on a ring", list(open("a", "b"), open("b", "a"), open("c", "b")), "", "a b c"},
		{"a ring that has a way out", list(open("a", "b | d"), open("b", "a"), done("d")), "a b", ""},
		{"what is installed", list(open("a", "b"), done("b")), "a", ""},
		{"what is pending", list(open("a", "b"), rec("b", api.SPending)), "a", ""},
		{"what awaits triggers is not there", list(open("a", "b"), rec("b", api.SAwaited)), "", "a"},
		{"what is half-installed is not there", list(open("a", "b"), rec("b", api.SHalfInst)), "", "a"},
		{"its conffiles alone are not there", list(open("a", "b"), rec("b", api.SConfig)), "", "a"},
		{"none", list(open("a", "z")), "", "a"},
		{"one of a group", list(open("a", "z | c | b"), open("b"), open("c", "b")), "b a c", ""},
		{"the second one of a group", list(open("a", "b | c"), open("b", "z"), done("c")), "a", "b"},
		{"all groups", list(open("a", "b", "c"), open("b"), open("c", "d"), open("d")), "b d c a", ""},
		{"all groups but one", list(open("a", "b", "z"), open("b")), "b", "a"},
		{"a version that is there", list(open("a", "b (>= 1)"), open("b")), "b a", ""},
		{"another version", list(open("a", "b (>> 1)"), open("b")), "b", "a"},
		{"its own version, when it is there", list(open("a", "b (= 2)"), api.Record{Name: "b", Version: "2", State: api.SUnpacked}), "b a", ""},
		{"no more of a name that was selected", list(open("a"), open("a"), open("b")), "a b", ""},
		{"the second one of a name", list(open("a", "z"), open("a")), "a", ""},
		{"the first one of a name is no more", list(open("a", "b"), open("a"), open("b")), "a b", ""},
		{"what is open of two of a name", list(done("a"), open("a"), open("b", "a")), "a b", ""},
		{"two of a name that are stuck", list(open("a", "z"), rec("a", api.SHalfConf, "y"), open("b", "x")), "", "a a b"},
		{"two of a name of which one is there", list(open("a", "b (= 2)"), open("b"), api.Record{Name: "b", Version: "2", State: api.SInstalled}), "a b", ""},
	} {
		l := spared(c.l)
		before := whole(l)
		if got := order.Plan(l); !slices.Equal(got, words(c.plan)) {
			t.Errorf("%s: Plan is %q, want %q", c.what, got, c.plan)
		}
		if got := order.Stuck(l); !slices.Equal(got, words(c.stuck)) {
			t.Errorf("%s: Stuck is %q, want %q", c.what, got, c.stuck)
		}
		if whole(l) != before {
			t.Errorf("%s: what was given was changed", c.what)
		}
	}
}

func pick[T any](r *rand.Rand, l ...T) T { return l[r.IntN(len(l))] }

// randomRecords are of a few names, which need some of each other.
func randomRecords(r *rand.Rand, names string) []api.Record {
	var out []api.Record
	for _, c := range names {
		x := rec(string(c), pick(r, api.SConfig, api.SHalfInst, api.SUnpacked, api.SUnpacked, api.SUnpacked, api.SUnpacked, api.SHalfConf, api.SAwaited, api.SPending, api.SInstalled))
		x.Version = pick(r, "1", "2")
		for range r.IntN(3) {
			var g []api.Rel
			for range 1 + r.IntN(2) {
				rel := api.Rel{Name: string(pick(r, []rune(names+"q")...))}
				if r.IntN(4) == 0 {
					rel.Op, rel.Version = pick(r, ">=", "=", "<<"), pick(r, "1", "2")
				}
				g = append(g, rel)
			}
			x.Depends = append(x.Depends, g)
		}
		out = append(out, x)
	}
	return out
}

// model is what the document says of Plan: who lacks nothing, with what is there
// and those that were selected.
func model(l []api.Record) []string {
	var names []string
	there := check.There(l)
	for more := true; more; {
		more = false
		for _, x := range l {
			if (x.State != 3 && x.State != 4) || slices.Contains(names, x.Name) {
				continue
			}
			lacks := slices.ContainsFunc(x.Depends, func(g []api.Rel) bool {
				return !slices.ContainsFunc(g, func(want api.Rel) bool {
					return slices.ContainsFunc(there, func(is api.Rel) bool { return relation.Fits(want, is.Name, is.Version) })
				})
			})
			if !lacks {
				names, there, more = append(names, x.Name), append(there, api.Rel{Name: x.Name, Version: x.Version}), true
				break
			}
		}
	}
	return names
}

// P31.3

// It also holds Plan to the model.
func TestPlans(t *testing.T) {
	t.Parallel()
	seen := map[int]int{}
	for seed := range uint64(5000) {
		r := rand.New(rand.NewPCG(31, seed))
		l := randomRecords(r, pick(r, "abcdef", "abcd", "fbdacebb", "aabbcc"))
		plan, stuck := order.Plan(l), order.Stuck(l)
		if want := model(l); !slices.Equal(plan, want) {
			t.Fatalf("%v: %q, want %q", l, plan, want)
		}
		seen[len(plan)]++
		there := check.There(l)
		for _, name := range plan {
			i := slices.IndexFunc(l, func(x api.Record) bool {
				return x.Name == name && order.Open(x.State) && len(relation.Lacks(x.Depends, there)) == 0
			})
			if i < 0 {
				t.Fatalf("%v: %s has not everything", l, name)
			}
			there = append(there, api.Rel{Name: name, Version: l[i].Version})
		}
		var others []string
		for _, x := range l {
			if order.Open(x.State) && !slices.Contains(plan, x.Name) {
				others = append(others, x.Name)
				if len(relation.Lacks(x.Depends, there)) == 0 {
					t.Fatalf("%v: %s has everything", l, x.Name)
				}
			}
		}
		if !slices.Equal(stuck, others) {
			t.Fatalf("%v: %q, want %q", l, stuck, others)
		}
	}
	for n := range 6 {
		if seen[n] < 20 {
			t.Errorf("%d plans of %d: %v", seen[n], n, seen)
		}
	}
}

// P31.2

// laid is a disk with databases, of which nothing is pending or dirty.
func laid(t *testing.T, st api.State) *disk.Disk {
	t.Helper()
	d := disk.New(api.Limits{})
	must(t, store.Format(d))
	must(t, store.Records(d, st.Records))
	must(t, store.Interests(d, st.Interests))
	return d
}

func loads(t *testing.T, d *disk.Disk) api.State {
	t.Helper()
	st, e := store.Load(d)
	must(t, e)
	return st
}

// look is all that a disk tells.
func look(d *disk.Disk) string {
	return fmt.Sprint(d.Image(), d.Kept(), d.Dirty(), d.Steps(), d.Pending(), d.On())
}

// answer is what All answers.
type answer struct {
	st    api.State
	codes []int
	steps []order.Step
	e     api.Errno
}

func (x answer) String() string {
	return fmt.Sprintf("%+v %v %v %d", x.st, x.codes, x.steps, x.e)
}

// trial is packages that are configured, and what comes of it.
type trial struct {
	what  string
	st    api.State
	pool  []api.Package
	codes []int
	names string // that are configured
	want  []order.Step
	left  []int
	e     api.Errno
}

// twin does on a disk what All is to do, and tells which states it reached.
func (c trial) twin(d *disk.Disk) (answer, []api.State) {
	out := answer{st: c.st, codes: c.codes}
	trace := []api.State{c.st}
	for _, name := range words(c.names) {
		var e api.Errno
		// Its record is half-configured for a while.
		half := out.st
		if i := status.Find(half.Records, name); i >= 0 {
			x := half.Records[i]
			x.State = api.SHalfConf
			half.Records = status.Put(half.Records, x)
		}
		out.st, out.codes, e = engine.Configure(d, out.st, name, c.pool, out.codes)
		trace = append(trace, half, out.st)
		out.steps = append(out.steps, order.Step{Name: name, Code: e})
		switch e {
		case api.OK, api.ENOENT, api.ESTATE, api.EDEPEND, api.ESCRIPT:
		default:
			out.e = e
			return out, trace
		}
	}
	return out, trace
}

func (c trial) held(t *testing.T, how string, ready func(d *disk.Disk)) (answer, *disk.Disk) {
	t.Helper()
	d, twin := laid(t, loadable(c.st)), laid(t, loadable(c.st))
	ready(twin)
	ready(d)
	want, _ := c.twin(twin)
	st := c.st
	st.Records = spared(c.st.Records)
	pool, codes := append(make([]api.Package, 0, 9), c.pool...), append(make([]int, 0, 9), c.codes...)
	before := whole(st.Records) + fmt.Sprint(pool[:9], codes[:9])
	var got answer
	got.st, got.codes, got.steps, got.e = order.All(d, st, pool, codes)
	if got.String() != want.String() || look(d) != look(twin) {
		t.Fatalf("%s %s:\n%v\nwant\n%v\n\n%s\nwant\n%s", c.what, how, got, want, look(d), look(twin))
	}
	if now := whole(st.Records) + fmt.Sprint(pool[:9], codes[:9]); now != before {
		t.Fatalf("%s %s: what was given was changed: %s, was %s", c.what, how, now, before)
	}
	return got, d
}

// loadable is a state, or an empty one where it can't be written.
func loadable(st api.State) api.State {
	if status.Check(st.Records) != api.OK {
		return api.State{}
	}
	return st
}

func does(name string, l ...api.Act) api.Package {
	x := api.Package{Name: name, Version: "1"}
	x.Scripts[api.PostInst] = l
	return x
}

func fires(trigger string) api.Act { return api.Act{Kind: api.CFire, Name: trigger} }

func trials() []trial {
	steps := func(names string, codes ...api.Errno) []order.Step {
		var out []order.Step
		for i, s := range words(names) {
			out = append(out, order.Step{Name: s, Code: codes[i]})
		}
		return out
	}
	state := func(l ...api.Record) api.State { return api.State{Records: l} }
	awaiting := api.Record{Name: "z", Version: "1", State: api.SAwaited, Awaited: []string{"a", "b"}}
	return []trial{
		{what: "nothing"},
		{what: "none that is open", st: state(done("a"), rec("b", api.SConfig)), codes: []int{1}, left: []int{1}},
		{what: "one", st: state(open("a")), names: "a", want: steps("a", api.OK)},
		{what: "one behind the other", st: state(open("a", "b"), open("b"), awaiting), pool: []api.Package{does("a", fires("t")), does("b", fires("u"))}, codes: []int{0, 0, 1}, names: "b a", want: steps("b a", api.OK, api.OK), left: []int{1}},
		{what: "those that are stuck stay", st: state(open("a", "b"), open("b", "a"), rec("c", api.SHalfConf)), names: "c", want: steps("c", api.OK)},
		{what: "a script that fails does not end it", st: state(open("a"), open("b")), codes: []int{7}, names: "a b", want: steps("a b", api.ESCRIPT, api.OK)},
		{what: "who leans on one that fails lacks it", st: state(open("a", "c"), open("b", "a"), open("c"), open("d")), codes: []int{1, 0}, names: "c a b d", want: steps("c a b d", api.ESCRIPT, api.EDEPEND, api.EDEPEND, api.OK)},
		{what: "a command that fails", st: state(open("a"), open("b", "a")), pool: []api.Package{does("a", api.Act{Kind: api.CUnover, Path: "/x"})}, codes: []int{5}, names: "a b", want: steps("a b", api.ESCRIPT, api.EDEPEND), left: []int{5}},
		{what: "no state to configure it in", st: state(done("a"), open("a"), open("b")), names: "a b", want: steps("a b", api.ESTATE, api.ENOENT)},
		{what: "records that can't be written", st: state(open("b"), open("a")), codes: []int{1}, names: "b", want: steps("b", api.EARG), left: []int{1}, e: api.EARG},
	}
}

// bounds are limits of all kinds that a disk just keeps, or may not keep soon.
func bounds(d *disk.Disk) []api.Limits {
	size, files := 0, len(d.Image())
	for _, x := range d.Image() {
		size += len(x.Text)
	}
	out := []api.Limits{{Name: 2}}
	for n := range 14 {
		out = append(out, api.Limits{Bytes: size + 20*n}, api.Limits{Files: files + n})
	}
	return out
}

func TestAll(t *testing.T) {
	t.Parallel()
	ended := map[api.Errno]int{}
	for _, c := range trials() {
		got, d := c.held(t, "", func(*disk.Disk) {})
		if !slices.Equal(got.steps, c.want) || !slices.Equal(got.codes, c.left) || got.e != c.e {
			t.Errorf("%s: %v, want %v %v %d", c.what, got, c.want, c.left, c.e)
		}
		if now := loads(t, d); loadable(c.st).Records != nil && fmt.Sprint(now) != fmt.Sprint(got.st) {
			t.Errorf("%s: %v, on the disk %v", c.what, got.st, now)
		}
		for n := 0; ; n++ {
			got, d := c.held(t, fmt.Sprintf("with %d steps", n), func(d *disk.Disk) { d.Fuse(n) })
			if d.On() {
				break
			}
			ended[got.e]++
		}
		struck := map[string]bool{}
		for _, limits := range bounds(laid(t, loadable(c.st))) {
			got, d := c.held(t, fmt.Sprintf("with %v", limits), func(d *disk.Disk) { d.Bound(limits) })
			ended[got.e]++
			// Limits that strike at one step do alike.
			at := fmt.Sprint(got.e, d.Steps())
			if struck[at] {
				continue
			}
			struck[at] = true
			for n := range d.Steps() {
				c.held(t, fmt.Sprintf("with %v and %d steps", limits, n), func(d *disk.Disk) { d.Bound(limits); d.Fuse(n) })
			}
		}
	}
	for _, e := range []api.Errno{api.EOFF, api.ENOSPC, api.ENFILE, api.ELONG, api.EARG} {
		if ended[e] == 0 {
			t.Errorf("%d never ends it: %v", e, ended)
		}
	}
}

// Errors end it by their numbers: what is not there is no error of the disk, even
// if it is where the databases are written.
func TestAllNumbers(t *testing.T) {
	t.Parallel()
	const updates = "/var/lib/dpkg/updates"
	for _, c := range []struct {
		make api.Op
		want api.Errno
		n    int
	}{
		{api.Op{}, api.ENOENT, 2},
		{api.Op{Kind: api.OCreate, Path: updates}, api.ENOTDIR, 1},
	} {
		st := api.State{Records: list(open("a"), open("b"))}
		d := laid(t, st)
		must(t, d.Do(api.Op{Kind: api.ORmdir, Path: updates}))
		d.Do(c.make)
		got, codes, steps, e := order.All(d, st, nil, []int{1})
		want := api.OK
		if c.n == 1 {
			want = c.want
		}
		if e != want || len(steps) != c.n || !slices.Equal(codes, []int{1}) || fmt.Sprint(got) != fmt.Sprint(st) || steps[0].Code != c.want {
			t.Errorf("%d %v %v", e, steps, got)
		}
	}
}

func TestAllWithout(t *testing.T) {
	t.Parallel()
	for _, c := range trials() {
		off := laid(t, api.State{})
		off.Fuse(0)
		off.Sync("/")
		for d, e := range map[*disk.Disk]api.Errno{nil: api.ENIL, {}: api.ENIL, off: api.EOFF} {
			want, _ := c.twin(d)
			var got answer
			got.st, got.codes, got.steps, got.e = order.All(d, c.st, c.pool, c.codes)
			if got.String() != want.String() {
				t.Errorf("%s: %v, want %v", c.what, got, want)
			}
			if len(c.want) > 0 && c.e == api.OK && c.want[0].Code != api.ESTATE && (got.e != e || len(got.steps) != 1) {
				t.Errorf("%s: %d after %v", c.what, got.e, got.steps)
			}
			if len(c.want) == 0 && got.e != api.OK {
				t.Errorf("%s: %d", c.what, got.e)
			}
		}
	}
}

// Whenever power goes off, and whatever is kept: each package is as before, as
// afterwards, or half-configured, and those ahead of it are done.
func TestAllCrashes(t *testing.T) {
	t.Parallel()
	for _, c := range trials() {
		if loadable(c.st).Records == nil {
			continue
		}
		twin := laid(t, c.st)
		end, trace := c.twin(twin)
		reached := map[string]bool{}
		for _, st := range trace {
			reached[fmt.Sprint(st.Records)] = true
		}
		for n := range twin.Steps() + 1 {
			d := laid(t, c.st)
			d.Fuse(n)
			order.All(d, c.st, c.pool, c.codes)
			for keep := range d.Pending() + 1 {
				d := laid(t, c.st)
				d.Fuse(n)
				_, _, _, e := order.All(d, c.st, c.pool, c.codes)
				d.Crash(keep, []int{keep})
				now := loads(t, d)
				if !reached[fmt.Sprint(now.Records)] || e == api.OK && fmt.Sprint(now) != fmt.Sprint(end.st) {
					t.Fatalf("%s with %d steps, %d kept: %v", c.what, n, keep, now)
				}
				if again, e := repair.Repair(d); e != api.OK || fmt.Sprint(again) != fmt.Sprint(now) {
					t.Fatalf("%s: recovered %d %v, was %v", c.what, e, again, now)
				}
				// From there it goes on.
				if got, _, _, e := order.All(d, now, c.pool, nil); e != api.OK || len(order.Plan(got.Records)) > 0 && c.left == nil {
					t.Fatalf("%s with %d steps, %d kept, again: %d %v", c.what, n, keep, e, got)
				}
			}
		}
	}
}

// P31.4

// If no script does anything or fails, those that are planned are installed, and
// all others as they were, but for what they await.
func TestAllInstalled(t *testing.T) {
	t.Parallel()
	planned := 0
	for seed := range uint64(400) {
		r := rand.New(rand.NewPCG(314, seed))
		l := randomRecords(r, "abcdef")
		for i := range l {
			if l[i].State == api.SAwaited {
				l[i].Awaited = pick(r, []string{"a"}, []string{"a", "b", "c"}, []string{"c", "q"}, []string{"d"})
			}
			if l[i].State == api.SPending || l[i].State == api.SAwaited && r.IntN(2) == 0 {
				l[i].Pending = []string{"t"}
			}
		}
		st := api.State{Records: l}
		plan := order.Plan(l)
		planned += len(plan)
		d := laid(t, st)
		got, _, steps, e := order.All(d, st, nil, slices.Repeat([]int{0}, r.IntN(9)))
		if e != api.OK || len(steps) != len(plan) {
			t.Fatalf("%v: %d %v", l, e, steps)
		}
		for i, x := range got.Records {
			want := l[i]
			if slices.Contains(plan, x.Name) {
				want.State = api.SInstalled
			}
			want.Awaited = slices.DeleteFunc(slices.Clone(want.Awaited), func(s string) bool { return slices.Contains(plan, s) })
			if want.State == api.SAwaited {
				want.State = status.Settled(want)
			}
			if len(want.Awaited)+len(x.Awaited) == 0 {
				want.Awaited, x.Awaited = nil, nil
			}
			if !reflect.DeepEqual(x, want) {
				t.Fatalf("%v: %v, want %v", l, x, want)
			}
		}
		for i, x := range steps {
			if x != (order.Step{Name: plan[i]}) {
				t.Fatalf("%v: %v, want %v", l, steps, plan)
			}
		}
		if now := loads(t, d); fmt.Sprint(now.Records) != fmt.Sprint(got.Records) {
			t.Fatalf("%v: on the disk %v, want %v", l, now, got)
		}
	}
	if planned < 500 {
		t.Errorf("%d are planned", planned)
	}
}
