package fire_test

import (
	"fmt"
	"maps"
	"slices"
	"testing"

	"cellarer/api"
	"cellarer/disk"
	"cellarer/fire"
	"cellarer/run"
	"cellarer/store"
)

// P25.2

// model is what the document says of Process, done on a disk of its own: who is
// in a cycle is seen from a table of all that leads anywhere.
type model struct {
	d     *disk.Disk
	st    api.State
	pool  []api.Package
	codes []int
	out   fire.Result
	leads map[string]map[string]bool
	trace []api.State // all states that were reached
}

func (m *model) process() answer {
	m.leads = map[string]map[string]bool{}
	m.reach()
	e := m.rounds()
	if e != api.OK && e != api.EOFF {
		if st, f := store.Load(m.d); f == api.OK {
			m.st = st
		}
	}
	return answer{m.st, m.codes, m.out, e}
}

func (m *model) reach() { m.trace = append(m.trace, m.st) }

func (m *model) note(l []api.Record) api.Errno {
	e := store.Records(m.d, l)
	if e == api.OK {
		m.st.Records = l
		m.reach()
	}
	return e
}

func (m *model) takeIn() api.Errno {
	if len(m.st.Fired) == 0 {
		return api.OK
	}
	if l := modelTaken(m.st); !same(l, m.st.Records) {
		if e := m.note(l); e != api.OK {
			return e
		}
	}
	if e := store.Fired(m.d, nil); e != api.OK {
		return e
	}
	m.st.Fired = nil
	m.reach()
	return api.OK
}

func (m *model) rounds() api.Errno {
	for {
		if e := m.takeIn(); e != api.OK {
			return e
		}
		due := map[string]bool{}
		for _, x := range m.st.Records {
			if slices.Contains([]int{api.SInstalled, api.SPending, api.SAwaited}, x.State) && len(x.Pending) > 0 {
				due[x.Name] = true
			}
		}
		if len(due) == 0 {
			return api.OK
		}
		m.out.Rounds++
		for _, name := range slices.Sorted(maps.Keys(due)) {
			if e := m.turn(name); e != api.OK {
				return e
			}
		}
	}
}

func (m *model) turn(name string) api.Errno {
	var x api.Record
	change := func(do func(x *api.Record)) []api.Record {
		l := slices.Clone(m.st.Records)
		for i := range l {
			do(&l[i])
		}
		return l
	}
	e := m.note(change(func(y *api.Record) {
		if y.Name == name {
			x = *y
			y.State, y.Pending, y.Awaited = api.SHalfConf, nil, nil
		}
	}))
	switch {
	case e != api.OK:
		return e
	case m.leads[name][name]:
		m.out.Cycles = append(m.out.Cycles, name)
		return api.OK
	}
	m.out.Runs = append(m.out.Runs, name)
	switch e := m.script(x); e {
	case api.OK:
	case api.ESCRIPT:
		m.out.Failed = append(m.out.Failed, name)
		return api.OK
	default:
		return e
	}
	return m.note(change(func(y *api.Record) {
		if y.Name == name {
			y.State, y.Awaited = api.SInstalled, x.Awaited
		}
		y.Awaited = slices.DeleteFunc(slices.Clone(y.Awaited), func(s string) bool { return s == name })
		switch {
		case y.State < api.SAwaited:
		case len(y.Awaited) > 0:
			y.State = api.SAwaited
		case len(y.Pending) > 0:
			y.State = api.SPending
		default:
			y.State = api.SInstalled
		}
	}))
}

// script does a script, command by command, and enters whom that leads to.
func (m *model) script(x api.Record) api.Errno {
	var l []api.Act
	for _, y := range slices.Backward(m.pool) {
		if y.Name == x.Name && y.Version == x.Version {
			l = y.Scripts[api.PostInst]
		}
	}
	before := map[string]string{}
	for _, f := range m.st.Fired {
		before[f.Trigger] = fmt.Sprint(f.By)
	}
	e := m.commands(x.Name, l)
	for _, f := range m.st.Fired {
		if was, has := before[f.Trigger]; has && was == fmt.Sprint(f.By) {
			continue
		}
		for _, in := range m.st.Interests {
			if in.Trigger == f.Trigger {
				m.lead(x.Name, in.Package)
			}
		}
	}
	return e
}

// commands does a script, command by command.
func (m *model) commands(name string, l []api.Act) api.Errno {
	for _, a := range l {
		st, e := run.Do(m.d, m.st, a, name)
		m.st = st
		switch e {
		case api.OK:
			m.reach()
		case api.EOFF:
			return e
		default:
			return api.ESCRIPT
		}
	}
	if len(m.codes) == 0 {
		return api.OK
	}
	code := m.codes[0]
	if m.codes = m.codes[1:]; code != 0 {
		return api.ESCRIPT
	}
	return api.OK
}

// lead enters that one leads to another one, and so do all that lead to the one,
// to all that the other one leads to.
func (m *model) lead(from, to string) {
	froms, tos := []string{from}, []string{to}
	for x, l := range m.leads {
		if l[from] {
			froms = append(froms, x)
		}
	}
	for x := range m.leads[to] {
		tos = append(tos, x)
	}
	for _, x := range froms {
		if m.leads[x] == nil {
			m.leads[x] = map[string]bool{}
		}
		for _, y := range tos {
			m.leads[x][y] = true
		}
	}
}

// trial is a state that is processed, and what comes of it.
type trial struct {
	what  string
	st    api.State
	pool  []api.Package
	codes []int
	want  []api.Record
	fired []api.Fired // that are left
	left  []int
	out   fire.Result
	e     api.Errno
}

// result is what came of it: Runs, Cycles, Failed, each with blanks between.
func result(rounds int, runs, cycles, failed string) fire.Result {
	var l [3][]string
	for i, s := range []string{runs, cycles, failed} {
		for _, c := range s {
			l[i] = append(l[i], string(c))
		}
	}
	return fire.Result{Runs: l[0], Cycles: l[1], Failed: l[2], Rounds: rounds}
}

func trials() []trial {
	list := func(l ...api.Record) []api.Record { return l }
	told := func(l ...api.Interest) []api.Interest { return l }
	fired := func(l ...api.Fired) []api.Fired { return l }
	inst := func(l string) []api.Record {
		var out []api.Record
		for _, c := range l {
			out = append(out, rec(string(c), api.SInstalled))
		}
		return out
	}
	half := func(name string) api.Record { return rec(name, api.SHalfConf) }
	two := func(x, y api.Record) []api.Record { return list(x, y) }
	a, b := told(in("t", "a")), inst("ab")
	each := told(in("a", "a"), in("b", "b"), in("c", "c"))
	return []trial{
		{what: "nothing at all"},
		{what: "nothing is fired or pending", st: api.State{Records: b, Interests: a}, codes: []int{1}, want: b, left: []int{1}},
		{what: "nothing is fired, and none is settled", st: api.State{Records: list(half("a"), awaiting("b", "a"))}, want: list(half("a"), awaiting("b", "a"))},
		{what: "what nobody is interested in", st: api.State{Records: b, Fired: fired(by("t", "b"))}, want: b},
		{what: "one waits for another one", st: api.State{Records: b, Interests: a, Fired: fired(by("t", "b"))}, codes: []int{0, 7}, want: b, left: []int{7}, out: result(1, "a", "", "")},
		{what: "pending from before", st: api.State{Records: two(pending("a", "t"), awaiting("b", "a"))}, want: b, out: result(1, "a", "", "")},
		{what: "two triggers are one run", st: api.State{Records: list(pending("a", "t", "u"))}, want: inst("a"), out: result(1, "a", "", "")},
		{what: "two in the order of their names", st: api.State{Records: two(pending("a", "u"), pending("b", "t"))}, codes: []int{0, 1}, want: two(rec("a", api.SInstalled), half("b")), out: result(1, "ab", "", "b")},
		{what: "one fails", st: api.State{Records: b, Interests: a, Fired: fired(by("t", "b"))}, codes: []int{1, 2}, want: two(half("a"), awaiting("b", "a")), left: []int{2}, out: result(1, "a", "", "a")},
		{what: "one fails whom none awaits", st: api.State{Records: b, Interests: told(noawait("t", "a")), Fired: fired(by("t", "b"))}, codes: []int{-1}, want: two(half("a"), rec("b", api.SInstalled)), out: result(1, "a", "", "a")},
		{what: "a command fails, and no code is taken", st: api.State{Records: b, Interests: told(in("t", "a"), in("u", "b")), Fired: fired(by("t", "b"))}, pool: []api.Package{pack("a", fires("u"), wrong(), fires("t"))}, codes: []int{3, 4},
			want: two(half("a"), half("b")), left: []int{4}, out: result(2, "ab", "", "ab")},
		{what: "it keeps what else it awaits", st: api.State{Records: list(both("a", "t", "c"), awaiting("b", "a", "c"), half("c"))}, want: list(awaiting("a", "c"), awaiting("b", "c"), half("c")), out: result(1, "a", "", "")},
		{what: "one that fails awaits none", st: api.State{Records: list(both("a", "t", "c"), awaiting("b", "a", "c"), half("c"))}, codes: []int{1}, want: list(half("a"), awaiting("b", "a", "c"), half("c")), out: result(1, "a", "", "a")},
		{what: "it awaits itself", st: api.State{Records: list(both("a", "t", "a"))}, want: inst("a"), out: result(1, "a", "", "")},
		{what: "each waits for the other one", st: api.State{Records: two(both("a", "t", "b"), both("b", "t", "a"))}, want: b, out: result(1, "ab", "", "")},
		{what: "the version that is there", st: api.State{Records: list(pending("a", "t")), Interests: told(in("x", "a"))}, pool: []api.Package{{Name: "a", Version: "2", Scripts: [4][]api.Act{nil, acts(wrong())}}, pack("b", wrong()), pack("a"), pack("a", wrong())},
			want: inst("a"), out: result(1, "a", "", "")},
		{what: "no other script", st: api.State{Records: list(pending("a", "t"))}, pool: []api.Package{{Name: "a", Version: "1", Scripts: [4][]api.Act{acts(wrong()), nil, acts(wrong()), acts(wrong())}}}, want: inst("a"), out: result(1, "a", "", "")},
		{what: "what a script fires is the package's", st: api.State{Records: inst("abc"), Interests: each, Fired: fired(by("a"))}, pool: []api.Package{pack("a", fires("b"), quiet("c"))}, codes: []int{0, 1, 1},
			want: list(awaiting("a", "b"), half("b"), half("c")), out: result(2, "abc", "", "bc")},
		{what: "one after the other", st: api.State{Records: inst("abc"), Interests: each, Fired: fired(by("a", "c"))}, pool: []api.Package{pack("a", fires("b")), pack("b", fires("c"))},
			want: inst("abc"), out: result(3, "abc", "", "")},
		{what: "twice in one call", st: api.State{Records: inst("abc"), Interests: each, Fired: fired(by("b"), by("c"))}, pool: []api.Package{pack("c", fires("b"))},
			want: inst("abc"), out: result(2, "bcb", "", "")},
		{what: "it fires what it takes", st: api.State{Records: b, Interests: a, Fired: fired(by("t", "b"))}, pool: []api.Package{pack("a", fires("t"))},
			want: two(half("a"), rec("b", api.SInstalled)), out: result(2, "a", "a", "")},
		{what: "it fires what it takes, and fails", st: api.State{Records: b, Interests: a, Fired: fired(by("t", "b"))}, pool: []api.Package{pack("a", fires("t"), wrong())},
			want: two(half("a"), awaiting("b", "a")), out: result(1, "a", "", "a")},
		{what: "two fire each other", st: api.State{Records: b, Interests: each[:2], Fired: fired(by("a"))}, pool: []api.Package{pack("a", fires("b")), pack("b", fires("a"))},
			want: two(half("a"), awaiting("b", "a")), out: result(3, "ab", "a", "")},
		{what: "three fire each other", st: api.State{Records: inst("abc"), Interests: each, Fired: fired(by("b"))}, pool: []api.Package{pack("a", quiet("b")), pack("b", quiet("c")), pack("c", quiet("a"))},
			want: list(rec("a", api.SInstalled), half("b"), rec("c", api.SInstalled)), out: result(4, "bca", "b", "")},
		{what: "a cycle that one leads to", st: api.State{Records: inst("abc"), Interests: each, Fired: fired(by("a"))}, pool: []api.Package{pack("a", fires("b")), pack("b", fires("c")), pack("c", fires("b"))},
			want: list(rec("a", api.SInstalled), half("b"), awaiting("c", "b")), out: result(4, "abc", "b", "")},
		{what: "a cycle that leads to another one", st: api.State{Records: inst("abc"), Interests: each, Fired: fired(by("a"))}, pool: []api.Package{pack("a", quiet("b"), quiet("a"))}, codes: []int{0, 1},
			want: list(half("a"), half("b"), rec("c", api.SInstalled)), out: result(2, "ab", "a", "b")},
		{what: "two that are in a cycle", st: api.State{Records: b, Interests: each[:2], Fired: fired(by("a"), by("b"))}, pool: []api.Package{pack("a", quiet("b")), pack("b", quiet("a"))},
			want: two(half("a"), half("b")), out: result(2, "ab", "ab", "")},
		{what: "what was fired in this round already leads nowhere", st: api.State{Records: inst("abc"), Interests: told(in("b", "b"), in("x", "a"), in("x", "c")), Fired: fired(by("x"))}, pool: []api.Package{pack("a", quiet("b")), pack("c", quiet("b"))},
			want: inst("abc"), out: result(2, "acb", "", "")},
		{what: "fired by another one too, it leads on", st: api.State{Records: inst("abc"), Interests: told(in("b", "b"), in("b", "c"), in("x", "a"), in("x", "c")), Fired: fired(by("x"))}, pool: []api.Package{pack("a", fires("b")), pack("c", fires("b"))},
			want: list(awaiting("a", "c"), rec("b", api.SInstalled), half("c")), out: result(2, "acb", "c", "")},
		{what: "fired already, it leads nowhere", st: api.State{Records: inst("abc"), Interests: told(in("b", "b"), in("x", "a"), in("x", "c"), in("y", "c")), Fired: fired(by("x"))}, pool: []api.Package{pack("a", fires("b")), pack("b", quiet("y")), pack("c", quiet("b"))},
			want: list(rec("a", api.SInstalled), half("b"), rec("c", api.SInstalled)), out: result(4, "acbc", "b", "")},
		{what: "a path by one that failed", st: api.State{Records: b, Interests: each[:2], Fired: fired(by("a"))}, pool: []api.Package{pack("a", fires("b")), pack("b", fires("a"), wrong())},
			want: two(half("a"), half("b")), out: result(3, "ab", "a", "b")},
		{what: "what was fired by others before is no edge", st: api.State{Records: b, Interests: each[:2], Fired: fired(by("a", "b"), by("b", "a"))}, want: b, out: result(1, "ab", "", "")},
		{what: "another package is interested that is not there", st: api.State{Records: inst("a"), Interests: each[:2], Fired: fired(by("a"))}, pool: []api.Package{pack("a", fires("b")), pack("b", fires("a"))},
			want: inst("a"), out: result(1, "a", "", "")},
	}
}

// held holds Process to the model, and hands on both.
func (c trial) held(t *testing.T, how string, ready func(d *disk.Disk)) (answer, *disk.Disk) {
	t.Helper()
	m := &model{d: laid(t, c.st), st: c.st, pool: c.pool, codes: c.codes}
	ready(m.d)
	want := m.process()
	d := laid(t, c.st)
	ready(d)
	got := process(t, d, c.st, c.pool, c.codes)
	if !same(got, want) || look(d) != look(m.d) {
		t.Fatalf("%s %s:\n%v\nwant\n%v\n\n%s\nwant\n%s", c.what, how, got, want, look(d), look(m.d))
	}
	return got, d
}

func TestProcess(t *testing.T) {
	t.Parallel()
	for _, c := range trials() {
		got, d := c.held(t, "", func(*disk.Disk) {})
		want := answer{c.st, c.left, c.out, c.e}
		want.st.Records, want.st.Fired = c.want, c.fired
		if !same(got, want) || !same(loads(t, d), want.st) {
			t.Errorf("%s: %v, want %v", c.what, got, want)
		}
	}
}

// Wherever power goes off, and whichever limit strikes, what is done and told is
// what the model does and tells.
func TestProcessCutShort(t *testing.T) {
	t.Parallel()
	struck := map[api.Errno]int{}
	for _, c := range trials() {
		for n := 0; ; n++ {
			if _, d := c.held(t, fmt.Sprintf("with %d steps", n), func(d *disk.Disk) { d.Fuse(n) }); d.On() {
				break
			}
		}
		for _, limits := range bounds(laid(t, c.st)) {
			got, _ := c.held(t, fmt.Sprintf("with %v", limits), func(d *disk.Disk) { d.Bound(limits) })
			struck[got.e]++
		}
	}
	for _, e := range []api.Errno{api.ELONG, api.ENOSPC, api.ENFILE} {
		if struck[e] < 20 {
			t.Errorf("%d strikes %d times", e, struck[e])
		}
	}
}

// Where a limit strikes, and power goes off too.
func TestProcessCutTwice(t *testing.T) {
	t.Parallel()
	for i, c := range trials() {
		if i%4 != 0 {
			continue
		}
		struck := map[string]bool{}
		for _, limits := range bounds(laid(t, c.st)) {
			got, d := c.held(t, "", func(d *disk.Disk) { d.Bound(limits) })
			// Limits that strike at one step do alike.
			at := fmt.Sprint(got.e, d.Steps())
			if got.e == api.OK || struck[at] {
				continue
			}
			struck[at] = true
			for n := range d.Steps() {
				c.held(t, fmt.Sprintf("with %v and %d steps", limits, n), func(d *disk.Disk) { d.Bound(limits); d.Fuse(n) })
			}
		}
	}
}

// What is told with an error is what was reached: a round begins with who is due,
// a run with the script, and a cycle is one when it is noted.
func TestProcessReached(t *testing.T) {
	t.Parallel()
	const write = 5 // steps in which a database is written
	st := api.State{Records: []api.Record{pending("a", "t"), rec("b", api.SInstalled)}, Interests: []api.Interest{in("a", "a"), in("t", "a"), in("u", "b")}, Fired: []api.Fired{by("t", "b")}}
	pool := []api.Package{pack("a", fires("a"), fires("u"))}
	for _, c := range []struct {
		steps int
		out   fire.Result
	}{
		{0, result(0, "", "", "")},
		{2*write - 1, result(0, "", "", "")},   // what is fired is to be taken in
		{2 * write, result(1, "", "", "")},     // a is to be half-configured
		{3*write - 1, result(1, "", "", "")},   //
		{3 * write, result(1, "a", "", "")},    // its script begins
		{5 * write, result(1, "a", "", "")},    // and is done; it is to be installed
		{6 * write, result(1, "a", "", "")},    // what it fired is to be taken in
		{8*write - 1, result(1, "a", "", "")},  //
		{8 * write, result(2, "a", "", "")},    // it is in a cycle
		{9*write - 1, result(2, "a", "", "")},  // which is not noted yet
		{9 * write, result(2, "a", "a", "")},   // but now
		{10 * write, result(2, "ab", "a", "")}, // b's script does nothing: it is to be installed
	} {
		d := laid(t, st)
		d.Fuse(c.steps)
		got := process(t, d, st, pool, []int{0, 0, 5})
		if got.e != api.EOFF || !same(got.out, c.out) {
			t.Errorf("with %d steps: %d %v, want %v", c.steps, got.e, got.out, c.out)
		}
	}
}

// Without a disk, or power, there is an error where something is to be done; what
// was reached is told.
func TestProcessWithout(t *testing.T) {
	t.Parallel()
	for _, c := range trials() {
		for d, off := range without(t, api.State{}) {
			want := answer{st: c.st, codes: c.codes}
			switch {
			case len(c.st.Fired) > 0:
				want.e = off
			case c.out.Rounds > 0:
				want.e, want.out.Rounds = off, 1
			}
			if got := process(t, d, c.st, c.pool, c.codes); !same(got, want) {
				t.Errorf("%s: %v, want %v", c.what, got, want)
			}
		}
	}
}

// With an error other than EOFF the state is what the disk has; if that can't be
// read, what was reached.
func TestProcessLoads(t *testing.T) {
	t.Parallel()
	other := api.State{Records: []api.Record{rec("z", api.SInstalled)}}
	st := api.State{Records: []api.Record{pending("a", "t")}, Interests: []api.Interest{in("u", "a")}, Fired: []api.Fired{by("u")}}
	d := laid(t, other)
	d.Bound(api.Limits{Files: 1})
	if got := process(t, d, st, nil, []int{1}); got.e != api.ENFILE || !same(got.st, other) || !same(got.codes, []int{1}) {
		t.Errorf("%v", got)
	}
	d = laid(t, other)
	must(t, d.Do(api.Op{Kind: api.OUnlink, Path: "/var/lib/dpkg/diversions"}))
	d.Bound(api.Limits{Files: len(d.Image())})
	if got := process(t, d, st, nil, nil); got.e != api.ENFILE || !same(got.st, st) {
		t.Errorf("%v", got)
	}
	d = laid(t, other)
	d.Fuse(0)
	if got := process(t, d, st, nil, nil); got.e != api.EOFF || !same(got.st, st) {
		t.Errorf("%v", got)
	}
}

// States that may not be are refused when they are to be written, and end.
func TestProcessWrong(t *testing.T) {
	t.Parallel()
	for what, l := range map[string][]api.Record{
		"two of one name":               {pending("a", "t"), pending("a", "t")},
		"the second of one name is due": {rec("a", api.SHalfConf), pending("a", "t")},
		"names that fall":               {pending("b", "t"), pending("a", "t")},
		"no name":                       {pending("", "t")},
		"no version":                    {{Name: "a", State: api.SPending, Pending: []string{"t"}}},
		"many": func() (l []api.Record) {
			for _, s := range many(65, "a%02d") {
				l = append(l, pending(s, "t"))
			}
			return l
		}(),
	} {
		d := laid(t, api.State{})
		got := process(t, d, api.State{Records: l}, nil, []int{1})
		want := api.EARG
		if what == "many" {
			want = api.EFULL
		}
		if got.e != want || !same(got.out, result(1, "", "", "")) || !same(got.st, api.State{}) || !same(got.codes, []int{1}) {
			t.Errorf("%s: %v", what, got)
		}
	}
	// Who is not Ready is not due.
	for _, state := range []int{-1, 0, api.SConfig, api.SHalfInst, api.SUnpacked, api.SHalfConf, 8} {
		st := api.State{Records: []api.Record{{Name: "a", Version: "1", State: state, Pending: []string{"t"}}}}
		d := laid(t, api.State{})
		before := look(d)
		if got := process(t, d, st, nil, []int{1}); !same(got, answer{st: st, codes: []int{1}}) || look(d) != before {
			t.Errorf("in state %d: %v", state, got)
		}
	}
	// A state that its lists do not ask for becomes one that they do.
	d := laid(t, api.State{})
	got := process(t, d, api.State{Records: []api.Record{{Name: "a", Version: "1", State: api.SInstalled, Pending: []string{"t"}}}}, nil, nil)
	if got.e != api.OK || !same(got.st.Records, []api.Record{rec("a", api.SInstalled)}) || !same(got.out, result(1, "a", "", "")) {
		t.Errorf("%v", got)
	}
}
