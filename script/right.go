package script

import (
	"cellarer/api"
	"cellarer/bits"
	"cellarer/relation"
)

const (
	maxNumber = 1 << 30
	maxNums   = 16
	maxNames  = 16
	maxText   = 4096 // bytes of a file's text

	// Words are of these bytes.
	firstByte = '!'
	lastByte  = '~'
)

// Right tells whether a line may be.
func Right(x api.Line) bool {
	c := checker{x}
	return c.stated() && bare(c.line)
}

// checker checks the fields that a line's words state, and empties each that it
// has checked: so what is left is what they do not state.
type checker struct{ line api.Line }

func (c *checker) stated() bool {
	switch c.line.Kind {
	case api.LAct:
		return c.act()
	case api.LUnpack, api.LPackage:
		return c.name() && c.text(api.MaxVersion)
	case api.LConfigure, api.LRemove, api.LPurge, api.LShow, api.LQuery:
		return c.name()
	case api.LProcess:
		return true
	case api.LTrue:
		return c.text(api.MaxPath) && c.owner()
	case api.LOwner:
		return c.text(api.MaxPath)
	case api.LCodes:
		return c.nums()
	case api.LLimits:
		return c.limits()
	case api.LCrash:
		return number(emptied(&c.line.N)) && number(emptied(&c.line.Keep)) && c.nums()
	case api.LDepends:
		return c.depends()
	case api.LConflicts:
		return c.conflicts()
	case api.LReplaces:
		return c.names()
	case api.LFile:
		return rightFile(emptied(&c.line.File))
	case api.LInterest:
		emptied(&c.line.Flag)
		return c.name()
	case api.LScript:
		return scriptWord(emptied(&c.line.N)) != "" && c.act()
	}
	return false
}

// emptied is what stood in a field.
func emptied[T any](field *T) T {
	var empty T
	x := *field
	*field = empty
	return x
}

func (c *checker) act() bool { return ActText(emptied(&c.line.Act)) != "" }

func (c *checker) name() bool { return name(emptied(&c.line.Name)) }

// owner checks a name in whose place a hyphen stands if it is empty.
func (c *checker) owner() bool {
	s := emptied(&c.line.Name)
	return s == "" || name(s) && s != none
}

func (c *checker) text(most int) bool { return word(emptied(&c.line.Text), most) }

func (c *checker) nums() bool { return list(emptied(&c.line.Nums), maxNums, number) }

func (c *checker) names() bool { return list(emptied(&c.line.Names), maxNames, name) }

func (c *checker) limits() bool {
	l := emptied(&c.line.Limits)
	return number(l.Bytes) && number(l.Files) && number(l.Name)
}

func (c *checker) depends() bool {
	_, e := relation.All(emptied(&c.line.Depends))
	return e == api.OK
}

func (c *checker) conflicts() bool {
	_, e := relation.List(emptied(&c.line.Conflicts))
	return e == api.OK
}

// bare tells whether nothing of a line is set but its kind.
func bare(x api.Line) bool {
	return bareAct(x.Act) && x.Name == "" && x.Text == "" && !x.Flag && x.N == 0 && x.Keep == 0 && len(x.Nums) == 0 &&
		x.Limits == api.Limits{} && len(x.Depends) == 0 && len(x.Conflicts) == 0 && len(x.Names) == 0 && x.File == api.File{}
}

func number(n int) bool { return 0 <= n && n <= maxNumber }

func name(s string) bool { return word(s, api.MaxName) }

// word tells whether a text can stand between blanks, and is not too long.
func word(s string, most int) bool {
	if s == "" || len(s) > most {
		return false
	}
	for i := range len(s) {
		if s[i] < firstByte || s[i] > lastByte {
			return false
		}
	}
	return true
}

// list tells whether a list is not too long, and has what may be.
func list[T any](l []T, most int, right func(T) bool) bool {
	if len(l) > most {
		return false
	}
	for _, x := range l {
		if !right(x) {
			return false
		}
	}
	return true
}

func rightFile(f api.File) bool {
	return word(f.Path, api.MaxPath) && bits.Right(f.Meta) && rightText(f) && (f.Kind == api.KFile || !f.Conf)
}

func rightText(f api.File) bool {
	switch f.Kind {
	case api.KDir:
		return f.Text == ""
	case api.KFile, api.KLink:
		return len(f.Text) <= maxText
	}
	return false
}
