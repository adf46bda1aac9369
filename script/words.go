package script

import (
	"strings"

	"cellarer/api"
	"cellarer/bits"
)

// words is a text from whose beginning words are taken. There is always one
// more to take, if only an empty one: what was read is printed again, so that a
// text which lacks words, or has others, is found out then.
type words struct {
	rest string
	more bool // whether a word is left behind the one that was taken
}

// take takes a word.
func (w *words) take() string {
	var word string
	word, w.rest, w.more = strings.Cut(w.rest, blank)
	return word
}

// orEmpty takes a word that may stand for an empty text.
func (w *words) orEmpty() string {
	s := w.take()
	if s == none {
		return ""
	}
	return s
}

// number takes a number.
func (w *words) number() int {
	n, _ := bits.Int(w.take())
	return n
}

// meta takes a mode and two ids.
func (w *words) meta() api.Meta {
	mode, _ := bits.ParseOctal(w.take())
	return api.Meta{Mode: mode, Uid: w.number(), Gid: w.number()}
}

// metaWords is a meta as words.
func metaWords(m api.Meta) string {
	return joined(bits.Octal(m.Mode), bits.Text(m.Uid), bits.Text(m.Gid))
}
