package alts

import (
	"strings"

	"cellarer/api"
	"cellarer/bits"
	"cellarer/stanza"
)

const (
	feed   = "\n"
	auto   = "auto"
	manual = "manual " // ahead of the choice
	ended  = ""        // the line after the slaves, and after the choices
)

// Print is an alternative as a text.
func Print(x api.Alt) (string, api.Errno) {
	if !Right(x) {
		return "", api.EARG
	}
	lines := []string{auto, x.Link}
	if x.Manual {
		lines[0] = manual + x.Cur
	}
	for _, s := range x.Slaves {
		lines = append(lines, s.Name, s.Link)
	}
	lines = append(lines, ended)
	for _, c := range x.Choices {
		lines = append(lines, c.Path, bits.Text(c.Prio))
		lines = append(lines, c.Slaves...)
	}
	lines = append(lines, ended)
	return strings.Join(lines, feed) + feed, api.OK
}

// Parse is the alternative of a text. Whatever is read is printed again: so only
// what Print makes comes through, however much the reading takes.
func Parse(name, s string) (api.Alt, api.Errno) {
	lines, e := stanza.Lines(s)
	if e != api.OK {
		return api.Alt{}, e
	}
	x := read(name, lines)
	if text, e := Print(x); e != api.OK || text != s {
		return api.Alt{}, api.EFORM
	}
	return x, api.OK
}

// read is the alternative of a name and lines; lines that are lacking are taken
// as empty ones.
func read(name string, lines []string) api.Alt {
	next := func() string {
		if len(lines) == 0 {
			return ""
		}
		line := lines[0]
		lines = lines[1:]
		return line
	}
	x := api.Alt{Name: name}
	x.Cur, x.Manual = strings.CutPrefix(next(), manual)
	x.Link = next()
	for slave := next(); slave != ended; slave = next() {
		x.Slaves = append(x.Slaves, api.Slave{Name: slave, Link: next()})
	}
	for p := next(); p != ended; p = next() {
		prio, _ := bits.Int(next())
		c := api.Choice{Path: p, Prio: prio}
		// By number: a choice may have an empty line for a slave.
		for range x.Slaves {
			c.Slaves = append(c.Slaves, next())
		}
		x.Choices = append(x.Choices, c)
	}
	if best := Best(x.Choices); best >= 0 && !x.Manual {
		x.Cur = x.Choices[best].Path
	}
	return x
}
