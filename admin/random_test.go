package admin_test

import (
	"fmt"
	"math/rand/v2"
	"slices"
	"strings"
	"testing"

	"cellarer/admin"
	"cellarer/api"
	"cellarer/repair"
	"cellarer/script"
)

// dice makes lines at random.
type dice struct{ *rand.Rand }

func (r dice) pick(l ...string) string { return l[r.IntN(len(l))] }

// words puts something at random in the place of each word that stands for more.
func (r dice) words(s string) string {
	l := strings.Split(s, " ")
	for i, word := range l {
		switch word {
		case "NAME":
			l[i] = r.pick("a", "b", "c", "d")
		case "VERSION":
			l[i] = r.pick("1", "2")
		case "PATH":
			l[i] = r.pick("/a", "/b", "/d/a", "/d/b", "/d/e/f")
		case "THERE":
			l[i] = r.pick("/d", "/var", "/d/a", "/a")
		case "TRIGGER":
			l[i] = r.pick("t", "u", "/d", "/d/a")
		case "ALT":
			l[i] = r.pick("x", "y")
		case "MODE":
			l[i] = r.pick("0644", "4755")
		case "TEXT":
			l[i] = r.pick("-", "61", "6262", strings.Repeat("63", 100))
		case "WAIT":
			l[i] = r.pick("await", "noawait")
		case "MOVE":
			l[i] = r.pick("keep", "rename")
		case "BY":
			l[i] = r.pick("-", "a", "b")
		case "PRIO":
			l[i] = fmt.Sprint(r.IntN(5))
		case "FEW":
			l[i] = fmt.Sprint(r.IntN(4))
		case "STEPS":
			l[i] = fmt.Sprint(r.IntN(40))
		case "SLAVE":
			l[i] = r.pick("x.1 /d/x.1", "y.1 /y.1", "z /z") + " " + r.pick("-", "/a", "/d/b")
		case "ACT":
			l[i] = r.words(r.pick(commands...))
		}
	}
	return strings.Join(l, " ")
}

var commands = []string{
	"divert PATH - BY MOVE", "divert PATH PATH BY MOVE", "undivert PATH BY MOVE", "override PATH MODE 0 FEW once update", "override PATH MODE 5 0 force later", "unoverride PATH",
	"install x /x THERE PRIO", "install y /d/y THERE PRIO SLAVE", "install ALT /x THERE PRIO SLAVE SLAVE", "withdraw ALT THERE", "remove-all ALT", "set ALT THERE", "auto ALT", "fire TRIGGER WAIT", "fire TRIGGER WAIT",
}

// packages are lines that make a package.
func (r dice) packages() string {
	s := r.words("package NAME VERSION") + "\ndir /d 0755 0 0\n"
	if r.IntN(4) > 0 {
		s += "dir /d/e 0755 0 0\n"
	}
	for range r.IntN(8) {
		s += r.words(r.pick("depends NAME", "depends NAME | a, NAME | b", "depends", "conflicts NAME", "conflicts", "conflicts", "replaces NAME",
			"file PATH MODE 0 0 TEXT", "file PATH MODE 0 0 TEXT", "conffile PATH MODE 1 2 TEXT", "conffile PATH MODE 1 2 TEXT", "link PATH 0777 0 0 61",
			"interest TRIGGER WAIT", "preinst fire TRIGGER WAIT", "postinst fire TRIGGER WAIT", "prerm override PATH MODE 0 0 force update", "postrm ACT")) + "\n"
	}
	return s
}

// script is lines of all kinds; the first ones make packages.
func (r dice) script(n int) []api.Line {
	text := ""
	for range 1 + r.IntN(6) {
		text += r.packages()
	}
	for range n {
		text += r.words(r.pick("ACT", "ACT", "ACT", "unpack NAME VERSION", "unpack NAME VERSION", "unpack NAME VERSION", "configure NAME", "configure NAME", "configure NAME", "remove NAME", "remove NAME", "purge NAME", "purge NAME", "purge NAME", "process",
			"true PATH BY", "show NAME", "owner PATH", "query ALT", "query ALT", "crash STEPS FEW FEW", "crash FEW STEPS", "codes 0 0 FEW", "codes", "nothing")) + "\n"
		switch r.IntN(30) {
		case 0:
			text += fmt.Sprintf("limits 0 %d 0\n", 20+r.IntN(20))
		case 1:
			text += fmt.Sprintf("limits %d 0 0\n", r.IntN(900))
		case 2:
			text += fmt.Sprintf("limits 0 0 %d\n", 1+r.IntN(12))
		case 3, 4, 5, 6, 7:
			text += "limits 0 0 0\n"
		}
	}
	// More than Parse reads may be there.
	var out []api.Line
	for s := range strings.Lines(text) {
		x, _ := script.Line(strings.TrimSuffix(s, "\n"))
		out = append(out, x)
	}
	return out
}

// P28.3, P28.6

// Random scripts, each line held against the model; behind each of them all
// databases can be read.
func TestRandom(t *testing.T) {
	t.Parallel()
	seen := map[api.Errno]int{}
	kinds := [21]int{}
	for seed := range uint64(80) {
		r := dice{rand.New(rand.NewPCG(28, seed))}
		p := newPair()
		for i, x := range r.script(60 + r.IntN(200)) {
			if !script.Right(x) {
				if got := p.w.Do(x); got != code(api.EFORM) {
					t.Errorf("%v", got)
				}
				continue
			}
			got := p.do(t, fmt.Sprintf("of %d, line %d", seed, i), x)
			seen[got.Code]++
			if got.Code == api.OK {
				kinds[x.Kind]++
			}
			loads(t, p.w)
		}
	}
	for _, e := range []api.Errno{api.OK, api.ENOENT, api.EEXIST, api.ENOSPC, api.ENFILE, api.ELONG, api.EOFF, api.ESTATE, api.EDEPEND, api.ECONFLICT, api.EOWNED, api.EDIVERT, api.EALT, api.ESCRIPT} {
		if seen[e] < 5 {
			t.Errorf("error %d was seen %d times", e, seen[e])
		}
	}
	for kind, n := range kinds[1:] {
		if n < 5 {
			t.Errorf("lines of kind %d went well %d times", kind+1, n)
		}
	}
}

// P28.5

// Whatever is kept of what is pending behind a line that went well, it is done.
// Links of alternatives are left out: some are placed by the recovery alone, as
// their directories came later.
func TestLasts(t *testing.T) {
	t.Parallel()
	done := 0
	for seed := range uint64(80) {
		r := dice{rand.New(rand.NewPCG(285, seed))}
		lines := r.script(40)
		twin := admin.New()
		for i, x := range lines {
			if got := twin.Do(x); got.Code != api.OK || x.Kind > api.LProcess || x.Kind == 0 {
				continue
			}
			done++
			want, there := loads(t, twin), files(twin.Disk())
			for keep := range twin.Disk().Pending() + 1 {
				w := admin.New()
				for _, x := range lines[:i+1] {
					w.Do(x)
				}
				w.Disk().Bound(api.Limits{})
				w.Disk().Crash(keep, nil)
				st, e := repair.Repair(w.Disk())
				if e != api.OK || !same(st, want) || !same(unlinked(files(w.Disk())), unlinked(there)) {
					t.Fatalf("of %d, line %d, %s: %d %v %v, want %v %v", seed, i, script.Text(x), e, st, files(w.Disk()), want, there)
				}
			}
		}
	}
	if done < 300 {
		t.Errorf("only %d lines went well", done)
	}
}

// links is where those of alternatives are that others lead to.
const links = "/etc/alternatives/"

// unlinked is files without links of alternatives, in order.
func unlinked(l map[string]api.Entry) []api.Entry {
	var out []api.Entry
	for _, x := range l {
		if !strings.HasPrefix(x.Path, links) && !strings.HasPrefix(x.Text, links) {
			out = append(out, x)
		}
	}
	slices.SortFunc(out, func(x, y api.Entry) int { return strings.Compare(x.Path, y.Path) })
	return out
}

// What went well is there in the end, whatever crashes came later; what did not
// may be there or not, if it was power that went off.
func TestLastsInTheEnd(t *testing.T) {
	t.Parallel()
	lost, there := 0, 0
	for seed := range uint64(60) {
		r := dice{rand.New(rand.NewPCG(2850, seed))}
		w := admin.New()
		var want [60]api.Errno
		for i := range want {
			for range r.IntN(3) {
				w.Do(line(t, r.words("crash STEPS FEW FEW")))
			}
			want[i] = w.Do(line(t, fmt.Sprintf("override /%02d 0%03o 0 %d once later", i, i, i))).Code
			loads(t, w)
		}
		st := loads(t, w)
		for i, e := range want {
			x := api.Over{Path: fmt.Sprintf("/%02d", i), Meta: api.Meta{Mode: i, Gid: i}}
			has := slices.Contains(st.Overs, x)
			if e != api.OK && e != api.EOFF || e == api.OK && !has {
				t.Errorf("of %d, %v: %d, there is %t", seed, x, e, has)
			}
			if e == api.EOFF && has {
				there++
			} else if e == api.EOFF {
				lost++
			}
		}
	}
	if lost < 50 || there < 50 {
		t.Errorf("%d were lost, %d were there", lost, there)
	}
}
