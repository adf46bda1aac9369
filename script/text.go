package script

import (
	"strings"

	"cellarer/api"
	"cellarer/bits"
	"cellarer/relation"
)

const hexDigits = "0123456789abcdef"

// Text is a line as a text.
func Text(x api.Line) string {
	if !Right(x) {
		return ""
	}
	return joined(lineWords(x)...)
}

// lineWords is the words of a line that may be.
func lineWords(x api.Line) []string {
	switch x.Kind {
	case api.LAct:
		return []string{ActText(x.Act)}
	case api.LUnpack:
		return []string{"unpack", x.Name, x.Text}
	case api.LConfigure:
		return []string{"configure", x.Name}
	case api.LRemove:
		return []string{"remove", x.Name}
	case api.LPurge:
		return []string{"purge", x.Name}
	case api.LProcess:
		return []string{"process"}
	case api.LTrue:
		return []string{"true", x.Text, orNone(x.Name)}
	case api.LShow:
		return []string{"show", x.Name}
	case api.LOwner:
		return []string{"owner", x.Text}
	case api.LQuery:
		return []string{"query", x.Name}
	}
	return worldWords(x)
}

// worldWords is the words of a line about the world.
func worldWords(x api.Line) []string {
	switch x.Kind {
	case api.LCodes:
		return append([]string{"codes"}, numberWords(x.Nums)...)
	case api.LLimits:
		return append([]string{"limits"}, numberWords([]int{x.Limits.Bytes, x.Limits.Files, x.Limits.Name})...)
	case api.LCrash:
		return append([]string{"crash", bits.Text(x.N), bits.Text(x.Keep)}, numberWords(x.Nums)...)
	case api.LPackage:
		return []string{"package", x.Name, x.Text}
	case api.LDepends:
		text, _ := relation.All(x.Depends)
		return unlessEmpty("depends", text)
	case api.LConflicts:
		text, _ := relation.List(x.Conflicts)
		return unlessEmpty("conflicts", text)
	case api.LReplaces:
		return append([]string{"replaces"}, x.Names...)
	case api.LFile:
		return fileWords(x.File)
	case api.LInterest:
		return []string{"interest", x.Name, either(x.Flag, "noawait", "await")}
	case api.LScript:
		return []string{scriptWord(x.N), ActText(x.Act)}
	}
	return nil
}

func numberWords(l []int) []string {
	var out []string
	for _, n := range l {
		out = append(out, bits.Text(n))
	}
	return out
}

// unlessEmpty is a word, and a text behind it unless that is empty.
func unlessEmpty(word, text string) []string {
	if text == "" {
		return []string{word}
	}
	return []string{word, text}
}

func fileWords(f api.File) []string {
	out := []string{fileWord(f), f.Path, metaWords(f.Meta)}
	if f.Kind == api.KDir {
		return out
	}
	return append(out, hex(f.Text))
}

func fileWord(f api.File) string {
	switch {
	case f.Kind == api.KDir:
		return "dir"
	case f.Kind == api.KLink:
		return "link"
	case f.Conf:
		return "conffile"
	}
	return "file"
}

// scriptWord is the word of a script; a number that is none's has none.
func scriptWord(n int) string {
	switch n {
	case api.PreInst:
		return "preinst"
	case api.PostInst:
		return "postinst"
	case api.PreRm:
		return "prerm"
	case api.PostRm:
		return "postrm"
	}
	return ""
}

// hex is a text's bytes in digits.
func hex(s string) string {
	var out strings.Builder
	for i := range len(s) {
		out.WriteByte(hexDigits[s[i]>>4])
		out.WriteByte(hexDigits[s[i]&15])
	}
	return orNone(out.String())
}
