package glob

import "strings"

const (
	maxPattern = 200
	special    = `*?[]\` // what Plain puts an escape ahead of
	escape     = '\\'
	setEnd     = "]"
	hyphen     = "-"
	not        = "!"
)

// step is what one piece of a pattern stands for: any bytes, or one that fits.
type step struct {
	star bool
	fits func(byte) bool
}

// steps is the steps of a pattern, if it is one.
func steps(p string) ([]step, bool) {
	if len(p) > maxPattern {
		return nil, false
	}
	var out []step
	for p != "" {
		x, rest, ok := first(p)
		if !ok {
			return nil, false
		}
		out, p = append(out, x), rest
	}
	return out, true
}

// first is the first step of a pattern that is not empty, and what is behind it.
func first(p string) (step, string, bool) {
	switch p[0] {
	case '*':
		return step{star: true}, p[1:], true
	case '?':
		return step{fits: func(byte) bool { return true }}, p[1:], true
	case '[':
		return set(p[1:])
	}
	c, rest, ok := literal(p)
	return step{fits: func(b byte) bool { return b == c }}, rest, ok
}

// literal is the byte that a pattern begins with, or the one behind a backslash.
func literal(p string) (byte, string, bool) {
	if p != "" && p[0] == escape {
		p = p[1:]
	}
	if p == "" {
		return 0, "", false
	}
	return p[0], p[1:], true
}

// set is the step of the set whose members a pattern begins with.
func set(p string) (step, string, bool) {
	p, negated := strings.CutPrefix(p, not)
	var in [256]bool
	// As its first member, what ends a set is a byte like others.
	for begins := true; begins || !strings.HasPrefix(p, setEnd); begins = false {
		from, to, rest, ok := member(p)
		if !ok {
			return step{}, "", false
		}
		for b := int(from); b <= int(to); b++ {
			in[b] = true
		}
		p = rest
	}
	return step{fits: func(b byte) bool { return in[b] != negated }}, p[len(setEnd):], true
}

// member is the first and the last byte of the member of a set that a pattern
// begins with, and what is behind it.
func member(p string) (from, to byte, rest string, ok bool) {
	from, p, ok = literal(p)
	if !ok {
		return 0, 0, "", false
	}
	behind, ranged := strings.CutPrefix(p, hyphen)
	if !ranged || strings.HasPrefix(behind, setEnd) {
		return from, from, p, true
	}
	to, rest, ok = literal(behind)
	return from, to, rest, ok
}
