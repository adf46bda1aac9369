package trigs

import (
	"strings"

	"cellarer/api"
	"cellarer/stanza"
)

const (
	feed    = "\n"
	blank   = " "
	noawait = "/noawait" // behind a package that is not awaited
	nobody  = "-"        // what stands for a By that is empty
)

// Print is interests as a text.
func Print(l []api.Interest) (string, api.Errno) {
	if e := Check(l); e != api.OK {
		return "", e
	}
	var out strings.Builder
	for _, x := range l {
		out.WriteString(x.Trigger + blank + x.Package)
		if x.Noawait {
			out.WriteString(noawait)
		}
		out.WriteString(feed)
	}
	return out.String(), api.OK
}

// Parse is the interests of a text. Whatever is read is printed again: so only
// what Print makes comes through, however much the reading takes.
func Parse(s string) ([]api.Interest, api.Errno) {
	lines, e := stanza.Lines(s)
	if e != api.OK {
		return nil, e
	}
	var l []api.Interest
	for _, line := range lines {
		l = append(l, read(line))
	}
	if text, e := Print(l); e != api.OK || text != s {
		return nil, api.EFORM
	}
	return l, api.OK
}

func read(line string) api.Interest {
	trigger, rest, _ := strings.Cut(line, blank)
	pkg, unawaited := strings.CutSuffix(rest, noawait)
	return api.Interest{Trigger: trigger, Package: pkg, Noawait: unawaited}
}

// PrintFired is fired triggers as a text.
func PrintFired(l []api.Fired) (string, api.Errno) {
	if e := CheckFired(l); e != api.OK {
		return "", e
	}
	var out strings.Builder
	for _, x := range l {
		by := x.By
		if len(by) == 0 {
			by = []string{nobody}
		}
		out.WriteString(x.Trigger + blank + strings.Join(by, blank) + feed)
	}
	return out.String(), api.OK
}

// ParseFired is the fired triggers of a text. It is printed again, as in Parse.
func ParseFired(s string) ([]api.Fired, api.Errno) {
	lines, e := stanza.Lines(s)
	if e != api.OK {
		return nil, e
	}
	var l []api.Fired
	for _, line := range lines {
		l = append(l, readFired(line))
	}
	if text, e := PrintFired(l); e != api.OK || text != s {
		return nil, api.EFORM
	}
	return l, api.OK
}

func readFired(line string) api.Fired {
	trigger, rest, _ := strings.Cut(line, blank)
	if rest == nobody {
		rest = ""
	}
	return api.Fired{Trigger: trigger, By: stanza.Words(rest)}
}
