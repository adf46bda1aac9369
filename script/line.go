package script

import (
	"strings"

	"cellarer/api"
	"cellarer/relation"
)

// Line is the line of a text. Whatever is read is printed again: so only what
// Text makes comes through, however much the reading takes.
func Line(s string) (api.Line, bool) {
	r := lineReader{words: words{rest: s}}
	r.read()
	if s == "" || Text(r.line) != s {
		return api.Line{}, false
	}
	return r.line, true
}

// lineReader takes words into the fields of a line.
type lineReader struct {
	words
	line api.Line
}

func (r *lineReader) read() {
	whole := r.rest
	switch word := r.take(); word {
	case "unpack":
		r.as(api.LUnpack, r.name, r.text)
	case "configure":
		r.as(api.LConfigure, r.name)
	case "remove":
		r.as(api.LRemove, r.name)
	case "purge":
		r.as(api.LPurge, r.name)
	case "process":
		r.as(api.LProcess)
	case "true":
		r.as(api.LTrue, r.text, r.owner)
	case "show":
		r.as(api.LShow, r.name)
	case "owner":
		r.as(api.LOwner, r.text)
	case "query":
		r.as(api.LQuery, r.name)
	default:
		r.readWorld(word, whole)
	}
}

// readWorld reads a line about the world; any other one can only be a command.
func (r *lineReader) readWorld(word, whole string) {
	switch word {
	case "codes":
		r.as(api.LCodes, r.nums)
	case "limits":
		r.as(api.LLimits, r.limits)
	case "crash":
		r.as(api.LCrash, r.steps, r.keep, r.nums)
	case "package":
		r.as(api.LPackage, r.name, r.text)
	case "depends":
		r.as(api.LDepends, r.depends)
	case "conflicts":
		r.as(api.LConflicts, r.conflicts)
	case "replaces":
		r.as(api.LReplaces, r.names)
	case "dir":
		r.as(api.LFile, r.file(api.KDir, false))
	case "file":
		r.as(api.LFile, r.file(api.KFile, false), r.content)
	case "conffile":
		r.as(api.LFile, r.file(api.KFile, true), r.content)
	case "link":
		r.as(api.LFile, r.file(api.KLink, false), r.content)
	case "interest":
		r.as(api.LInterest, r.name, r.flag)
	case "preinst":
		r.as(api.LScript, r.script(api.PreInst))
	case "postinst":
		r.as(api.LScript, r.script(api.PostInst))
	case "prerm":
		r.as(api.LScript, r.script(api.PreRm))
	case "postrm":
		r.as(api.LScript, r.script(api.PostRm))
	default:
		r.rest = whole
		r.as(api.LAct, r.act)
	}
}

// as reads a line of a kind by what takes its words.
func (r *lineReader) as(kind int, takes ...func()) {
	r.line.Kind = kind
	for _, take := range takes {
		take()
	}
}

func (r *lineReader) act() { r.line.Act, _ = Act(r.rest) }

func (r *lineReader) name() { r.line.Name = r.take() }

func (r *lineReader) owner() { r.line.Name = r.orEmpty() }

func (r *lineReader) text() { r.line.Text = r.take() }

func (r *lineReader) flag() { r.line.Flag = r.take() == "noawait" }

func (r *lineReader) steps() { r.line.N = r.number() }

func (r *lineReader) keep() { r.line.Keep = r.number() }

// nums, and names, take no more than there may be: what is left shows then.
func (r *lineReader) nums() {
	for r.more && len(r.line.Nums) < maxNums {
		r.line.Nums = append(r.line.Nums, r.number())
	}
}

func (r *lineReader) names() {
	for r.more && len(r.line.Names) < maxNames {
		r.line.Names = append(r.line.Names, r.take())
	}
}

func (r *lineReader) limits() {
	r.line.Limits = api.Limits{Bytes: r.number(), Files: r.number(), Name: r.number()}
}

func (r *lineReader) depends() { r.line.Depends, _ = relation.ParseAll(r.rest) }

func (r *lineReader) conflicts() { r.line.Conflicts, _ = relation.ParseList(r.rest) }

func (r *lineReader) script(n int) func() {
	return func() {
		r.line.N = n
		r.act()
	}
}

func (r *lineReader) file(kind int, conf bool) func() {
	return func() { r.line.File = api.File{Kind: kind, Path: r.take(), Meta: r.meta(), Conf: conf} }
}

func (r *lineReader) content() { r.line.File.Text = unhex(r.orEmpty()) }

// unhex is the text of digits, or of as many as there may be. Where something
// else stands, it is some text, whose digits are others.
func unhex(digits string) string {
	var out []byte
	for i := 0; i+1 < len(digits) && len(out) < maxText; i += 2 {
		high, low := strings.IndexByte(hexDigits, digits[i]), strings.IndexByte(hexDigits, digits[i+1])
		out = append(out, byte(high<<4|low))
	}
	return string(out)
}
