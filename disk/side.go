package disk

import (
	"cellarer/api"
	"cellarer/tree"
)

// side is a tree, and which of its files are dirty, by their numbers.
type side struct {
	tree  *tree.Tree
	dirty map[int]struct{}
}

func newSide(t *tree.Tree) side { return side{t, map[int]struct{}{}} }

// do does an operation that the tree allows.
func (s side) do(x api.Op) {
	// What is written, or may go with this name.
	p := x.Path
	if x.Kind == api.ORename {
		p = x.To
	}
	at, _ := s.tree.Stat(p)
	files := s.tree.Files()
	s.tree.Do(x)
	if x.Kind == api.OWrite {
		s.dirty[at.Node] = struct{}{}
	}
	if s.tree.Files() < files {
		s.clean(at.Node)
	}
}

func (s side) clean(n int) { delete(s.dirty, n) }

// firsts is the first path of each dirty file, rising.
func (s side) firsts() []string {
	if len(s.dirty) == 0 {
		return nil
	}
	var out []string
	told := 0
	for _, x := range s.tree.Image() {
		// An image numbers files as they first occur.
		if x.Node <= told {
			continue
		}
		told = x.Node
		at, _ := s.tree.Stat(x.Path)
		if _, dirty := s.dirty[at.Node]; dirty {
			out = append(out, x.Path)
		}
	}
	return out
}

// cut leaves of each dirty file's text what a crash leaves.
func (s side) cut(cuts []int) {
	for i, p := range s.firsts() {
		text, _ := s.tree.Read(p)
		n := 0
		if i < len(cuts) {
			n = modulo(cuts[i], len(text)+1)
		}
		s.tree.Do(api.Op{Kind: api.OWrite, Path: p, Text: text[:n]})
	}
	clear(s.dirty)
}
