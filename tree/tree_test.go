package tree

import (
	"slices"
	"strings"
	"testing"

	"cellarer/api"
)

var (
	dirMeta  = api.Meta{Mode: 0o755}
	fileMeta = api.Meta{Mode: 0o640, Uid: 1, Gid: 2}
	badMeta  = api.Meta{Mode: 0o10000}
)

// must does operations that have no error.
func must(t *testing.T, tr *Tree, l ...api.Op) {
	t.Helper()
	for _, x := range l {
		if e := tr.Do(x); e != api.OK {
			t.Fatalf("%v: %d", x, e)
		}
	}
}

func mkdir(p string) api.Op  { return api.Op{Kind: api.OMkdir, Path: p, Meta: dirMeta} }
func create(p string) api.Op { return api.Op{Kind: api.OCreate, Path: p, Meta: fileMeta} }
func write(p, text string) api.Op {
	return api.Op{Kind: api.OWrite, Path: p, Text: text}
}
func symlink(p, text string) api.Op {
	return api.Op{Kind: api.OSymlink, Path: p, Text: text, Meta: fileMeta}
}
func link(p, to string) api.Op   { return api.Op{Kind: api.OLink, Path: p, To: to} }
func rename(p, to string) api.Op { return api.Op{Kind: api.ORename, Path: p, To: to} }
func unlink(p string) api.Op     { return api.Op{Kind: api.OUnlink, Path: p} }
func rmdir(p string) api.Op      { return api.Op{Kind: api.ORmdir, Path: p} }

// sample is a tree with an empty directory /d, a directory /e with a file, a
// directory and a link in it, a file /f that is also /g, and a link /l to /d.
func sample(t *testing.T) *Tree {
	t.Helper()
	tr := New()
	must(t, tr,
		mkdir("/d"), mkdir("/e"), create("/e/f"), mkdir("/e/d"), symlink("/e/l", "f"),
		create("/f"), write("/f", "text"), link("/f", "/g"), symlink("/l", "/d"),
	)
	return tr
}

// seen is all that a tree tells.
type seen struct {
	image, stats []api.Entry
	bytes, files int
}

func look(tr *Tree) seen {
	s := seen{image: tr.Image(), bytes: tr.Bytes(), files: tr.Files()}
	for _, x := range s.image {
		at, _ := tr.Stat(x.Path)
		s.stats = append(s.stats, at)
	}
	return s
}

func (s seen) same(o seen) bool {
	return slices.Equal(s.image, o.image) && slices.Equal(s.stats, o.stats) && s.bytes == o.bytes && s.files == o.files
}

// P3.1

func TestNew(t *testing.T) {
	tr := New()
	want := []api.Entry{{Path: "/", Kind: api.KDir, Meta: api.Meta{Mode: 493}, Node: 1}}
	if l := tr.Image(); !slices.Equal(l, want) {
		t.Errorf("image: %v", l)
	}
	if x, e := tr.Stat("/"); x != want[0] || e != api.OK {
		t.Errorf("Stat: %v %d", x, e)
	}
	if tr.Files() != 1 || tr.Bytes() != 0 {
		t.Errorf("%d files, %d bytes", tr.Files(), tr.Bytes())
	}
	if New() == tr {
		t.Error("twice the same tree")
	}
}

func TestExample(t *testing.T) {
	tr := New()
	if e := tr.Do(mkdir("/a/b")); e != api.ENOENT {
		t.Errorf("without /a: %d", e)
	}
	must(t, tr, mkdir("/a"), mkdir("/a/b"))
	if tr.Files() != 3 {
		t.Errorf("%d files", tr.Files())
	}
}

// noPosition is paths whose position has an error in the sample, whether
// something is to be there or not.
var noPosition = []struct {
	p string
	e api.Errno
}{
	{"", api.EARG},
	{"/", api.EARG},
	{"x", api.EARG},
	{"//", api.EARG},
	{"/x/", api.EARG},
	{"/d//x", api.EARG},
	{"/d/.", api.EARG},
	{"/no/../x", api.EARG},
	{"/d/x y", api.EARG},
	{"/d/\x7f", api.EARG},
	{"/" + strings.Repeat("x", 200), api.EARG},
	{"/no/x", api.ENOENT},
	{"/no/x/y", api.ENOENT},
	{"/d/no/x", api.ENOENT},
	{"/no/f/x", api.ENOENT},
	{"/f/x", api.ENOTDIR},
	{"/f/x/y", api.ENOTDIR},
	{"/l/x", api.ENOTDIR},
	{"/l/x/y", api.ENOTDIR},
	{"/e/f/x", api.ENOTDIR},
	{"/e/l/x/y", api.ENOTDIR},
}

// noFile is paths that can't be looked up in the sample.
var noFile = append([]struct {
	p string
	e api.Errno
}{
	{"/no", api.ENOENT},
	{"/d/no", api.ENOENT},
	{"/e/no", api.ENOENT},
	{"/ff", api.ENOENT},
}, slices.DeleteFunc(slices.Clone(noPosition), func(c struct {
	p string
	e api.Errno
}) bool {
	return c.p == "/"
})...)

// refuse holds an operation, on the sample, to an error, which leaves the tree
// as it was (P3.5).
func refuse(t *testing.T, x api.Op, want api.Errno) {
	t.Helper()
	tr := sample(t)
	before := look(tr)
	if e := tr.Check(x); e != want {
		t.Errorf("Check of %v: %d, want %d", x, e, want)
	}
	if e := tr.Do(x); e != want {
		t.Errorf("Do of %v: %d, want %d", x, e, want)
	}
	if !look(tr).same(before) {
		t.Errorf("%v changed the tree", x)
	}
}

func TestKindRefused(t *testing.T) {
	for _, kind := range []int{-1, 0, 11, 1 << 40, -1 << 63} {
		refuse(t, api.Op{Kind: kind, Path: "/x", To: "/y", Meta: fileMeta, Text: "x"}, api.EARG)
	}
}

// Each operation here would have every later error too.
func TestNewFileRefused(t *testing.T) {
	long := strings.Repeat("x", 201)
	for _, kind := range []int{api.OMkdir, api.OCreate, api.OSymlink} {
		for _, c := range noPosition {
			refuse(t, api.Op{Kind: kind, Path: c.p, Meta: badMeta, Text: long}, c.e)
		}
		for _, p := range []string{"/d", "/f", "/g", "/l", "/e/f", "/e/d", "/e/l"} {
			refuse(t, api.Op{Kind: kind, Path: p, Meta: badMeta, Text: long}, api.EEXIST)
			refuse(t, api.Op{Kind: kind, Path: p, Meta: badMeta}, api.EEXIST)
		}
		for _, m := range []api.Meta{badMeta, {Mode: -1}, {Uid: -1}, {Gid: -1}, {Uid: api.MaxId + 1}, {Gid: api.MaxId + 1}} {
			refuse(t, api.Op{Kind: kind, Path: "/x", Meta: m, Text: long}, api.EARG)
			refuse(t, api.Op{Kind: kind, Path: "/d/x", Meta: m, Text: "x"}, api.EARG)
		}
	}
	refuse(t, symlink("/x", ""), api.EARG)
	refuse(t, symlink("/x", long), api.ELONG)
}

func TestNewFile(t *testing.T) {
	most := api.Meta{Mode: 4095, Uid: api.MaxId, Gid: api.MaxId}
	target := strings.Repeat("y", 200)
	for _, c := range []struct {
		op   api.Op
		want api.Entry
	}{
		{api.Op{Kind: api.OMkdir, Path: "/x", Meta: most}, api.Entry{Kind: api.KDir, Meta: most}},
		{api.Op{Kind: api.OCreate, Path: "/x", Meta: most}, api.Entry{Kind: api.KFile, Meta: most}},
		{api.Op{Kind: api.OSymlink, Path: "/x", Meta: most, Text: target}, api.Entry{Kind: api.KLink, Meta: most, Text: target}},
		{api.Op{Kind: api.OSymlink, Path: "/d/x", Text: " \n\xff"}, api.Entry{Kind: api.KLink, Text: " \n\xff"}},
		// What the kind does not ask for is of no matter.
		{api.Op{Kind: api.OMkdir, Path: "/d/x", To: "/", Text: "y"}, api.Entry{Kind: api.KDir}},
		{api.Op{Kind: api.OCreate, Path: "/e/d/x", To: "y", Text: strings.Repeat("y", 70000)}, api.Entry{Kind: api.KFile}},
	} {
		tr := sample(t)
		files, bytes := tr.Files(), tr.Bytes()
		c.want.Path, c.want.Node = c.op.Path, files+1
		must(t, tr, c.op)
		if x, e := tr.Stat(c.op.Path); x != c.want || e != api.OK {
			t.Errorf("%v: %v %d", c.op, x, e)
		}
		if tr.Files() != files+1 || tr.Bytes() != bytes+len(c.want.Text) {
			t.Errorf("%v: %d files, %d bytes", c.op, tr.Files(), tr.Bytes())
		}
	}
}

// The numbers of files that went are not given again.
func TestNumbers(t *testing.T) {
	tr := New()
	number := func(p string) int {
		x, e := tr.Stat(p)
		if e != api.OK {
			t.Fatal(p, e)
		}
		return x.Node
	}
	must(t, tr, create("/b"), mkdir("/a"))
	if number("/b") != 2 || number("/a") != 3 {
		t.Error(tr.Image())
	}
	must(t, tr, unlink("/b"), rmdir("/a"))
	if e := tr.Do(create("/no/x")); e != api.ENOENT {
		t.Error(e)
	}
	must(t, tr, symlink("/b", "x"), link("/b", "/c"), rename("/b", "/d"))
	if number("/c") != 4 || number("/d") != 4 {
		t.Error(tr.Image())
	}
	if l := tr.Image(); len(l) != 3 || l[0].Node != 1 || l[1].Node != 2 || l[2].Node != 2 {
		t.Error(l)
	}
}

func TestWrite(t *testing.T) {
	long := strings.Repeat("x", api.MaxText+1)
	for _, c := range noFile {
		refuse(t, write(c.p, long), c.e)
	}
	refuse(t, write("/", long), api.EISDIR)
	refuse(t, write("/d", long), api.EISDIR)
	refuse(t, write("/l", long), api.EARG)
	refuse(t, write("/e/l", "x"), api.EARG)
	refuse(t, write("/f", long), api.ELONG)
	tr := sample(t)
	before := tr.Bytes()
	for _, text := range []string{long[1:], "\x00\xff\n", "", "abc"} {
		must(t, tr, write("/g", text))
		// Both names are of the same file.
		for _, p := range []string{"/f", "/g"} {
			if s, e := tr.Read(p); s != text || e != api.OK {
				t.Errorf("%d bytes, %d", len(s), e)
			}
		}
		if tr.Bytes() != before-len("text")+len(text) {
			t.Errorf("%d bytes in all", tr.Bytes())
		}
	}
	if x, _ := tr.Stat("/f"); x.Meta != fileMeta {
		t.Error(x)
	}
}

func TestLink(t *testing.T) {
	for _, c := range noFile {
		refuse(t, link(c.p, "no"), c.e)
	}
	refuse(t, link("/", "no"), api.EISDIR)
	refuse(t, link("/d", "no"), api.EISDIR)
	for _, c := range noPosition {
		refuse(t, link("/f", c.p), c.e)
		refuse(t, link("/l", c.p), c.e)
	}
	for _, p := range []string{"/f", "/g", "/d", "/l", "/e/f"} {
		refuse(t, link("/f", p), api.EEXIST)
	}
	tr := sample(t)
	files, bytes := tr.Files(), tr.Bytes()
	must(t, tr, link("/f", "/d/x"), link("/l", "/e/d/x"))
	if tr.Files() != files || tr.Bytes() != bytes {
		t.Errorf("%d files, %d bytes", tr.Files(), tr.Bytes())
	}
	for _, pair := range [][2]string{{"/f", "/d/x"}, {"/l", "/e/d/x"}} {
		x, _ := tr.Stat(pair[0])
		y, e := tr.Stat(pair[1])
		x.Path = pair[1]
		if x != y || e != api.OK {
			t.Error(x, y, e)
		}
	}
}

func TestUnlink(t *testing.T) {
	for _, c := range noFile {
		refuse(t, unlink(c.p), c.e)
	}
	refuse(t, unlink("/"), api.EISDIR)
	refuse(t, unlink("/d"), api.EISDIR)
	tr := sample(t)
	files, bytes := tr.Files(), tr.Bytes()
	must(t, tr, unlink("/f"))
	if s, e := tr.Read("/g"); s != "text" || e != api.OK || tr.Files() != files || tr.Bytes() != bytes {
		t.Error("with the first of two names the file went", s, e)
	}
	must(t, tr, unlink("/g"))
	if tr.Files() != files-1 || tr.Bytes() != bytes-len("text") {
		t.Errorf("%d files, %d bytes", tr.Files(), tr.Bytes())
	}
	must(t, tr, unlink("/l"))
	if _, e := tr.Stat("/d"); e != api.OK || tr.Files() != files-2 || tr.Bytes() != bytes-len("text/d") {
		t.Error(e, tr.Files(), tr.Bytes())
	}
}

func TestRmdir(t *testing.T) {
	for _, c := range noFile {
		refuse(t, rmdir(c.p), c.e)
	}
	refuse(t, rmdir("/"), api.EARG)
	refuse(t, rmdir("/f"), api.ENOTDIR)
	refuse(t, rmdir("/l"), api.ENOTDIR)
	refuse(t, rmdir("/e"), api.ENOTEMPTY)
	if e := New().Do(rmdir("/")); e != api.EARG {
		t.Error(e)
	}
	tr := sample(t)
	files := tr.Files()
	must(t, tr, unlink("/e/f"), unlink("/e/l"), rmdir("/e/d"), rmdir("/e"), rmdir("/d"))
	if _, e := tr.Stat("/e"); e != api.ENOENT || tr.Files() != files-5 {
		t.Error(e, tr.Files())
	}
	must(t, tr, create("/e"))
}

func TestRenameRefused(t *testing.T) {
	for _, c := range noFile {
		refuse(t, rename(c.p, "no"), c.e)
	}
	refuse(t, rename("/", "no"), api.EARG)
	for _, c := range noPosition {
		refuse(t, rename("/f", c.p), c.e)
		refuse(t, rename("/d", c.p), c.e)
	}
	for _, c := range []struct {
		p, to string
		e     api.Errno
	}{
		{"/d", "/d/x", api.EARG},
		{"/e", "/e/d", api.EARG},
		{"/e", "/e/f", api.EARG},
		{"/e", "/e/d/x", api.EARG},
		{"/e", "/e/no/x", api.ENOENT},
		{"/f", "/f/x", api.ENOTDIR},
		{"/d", "/f", api.ENOTDIR},
		{"/d", "/l", api.ENOTDIR},
		{"/e/d", "/e/f", api.ENOTDIR},
		{"/f", "/d", api.EISDIR},
		{"/f", "/e", api.EISDIR},
		{"/l", "/d", api.EISDIR},
		{"/e/f", "/e", api.EISDIR},
		{"/d", "/e", api.ENOTEMPTY},
		{"/e/d", "/e", api.ENOTEMPTY},
	} {
		refuse(t, rename(c.p, c.to), c.e)
	}
}

// ELONG is the last of the errors: all others come ahead of it.
func TestRenameLong(t *testing.T) {
	dir := "/" + strings.Repeat("x", 150)
	deep := "/e/" + strings.Repeat("y", 60)
	tr := sample(t)
	must(t, tr, mkdir(dir), mkdir(deep), create(deep+"/z"), create(dir+"/f"), mkdir(dir+"/full"), create(dir+"/full/f"), mkdir(dir+"/e"))
	before := look(tr)
	for _, c := range []struct {
		p, to string
		e     api.Errno
	}{
		{"/e", dir + "/new", api.ELONG},
		{"/e", dir + "/e", api.ELONG}, // an empty directory is there
		{"/e", dir + "/f", api.ENOTDIR},
		{"/e", dir + "/full", api.ENOTEMPTY},
		{"/e", "/e/d/" + strings.Repeat("w", 190), api.EARG},
		{"/e", "/d/" + strings.Repeat("w", 135), api.ELONG}, // 138 + 61 + 2 are 201
	} {
		if e := tr.Do(rename(c.p, c.to)); e != c.e {
			t.Errorf("%s to %d bytes: %d, want %d", c.p, len(c.to), e, c.e)
		}
	}
	if !look(tr).same(before) {
		t.Error("changed")
	}
	to := "/d/" + strings.Repeat("w", 134)
	must(t, tr, rename("/e", to))
	if x, e := tr.Stat(to + deep[2:] + "/z"); e != api.OK || len(x.Path) != 200 {
		t.Error(len(x.Path), e)
	}
	// A file has nothing below it, whatever else is there.
	must(t, tr, rename("/f", "/"+strings.Repeat("v", 199)))
}

func TestRename(t *testing.T) {
	for _, c := range []struct {
		p, to  string
		files  int      // how many go
		gone   []string // these are not there
		before []string // the files of these ..
		after  []string // .. are there then
	}{
		{"/f", "/x", 0, []string{"/f"}, []string{"/f", "/g"}, []string{"/x", "/g"}},
		{"/f", "/e/d/x", 0, []string{"/f"}, []string{"/f"}, []string{"/e/d/x"}},
		{"/f", "/e/f", 1, []string{"/f"}, []string{"/f", "/g"}, []string{"/e/f", "/g"}},
		{"/e/f", "/g", 0, []string{"/e/f"}, []string{"/e/f", "/f"}, []string{"/g", "/f"}},
		{"/l", "/e/f", 1, []string{"/l"}, []string{"/l"}, []string{"/e/f"}},
		{"/f", "/l", 1, []string{"/f"}, []string{"/f"}, []string{"/l"}},
		{"/e", "/d", 1, []string{"/e", "/e/f"}, []string{"/e", "/e/f", "/e/d", "/e/l"}, []string{"/d", "/d/f", "/d/d", "/d/l"}},
		{"/e", "/d/e", 0, []string{"/e", "/e/f"}, []string{"/e", "/e/f", "/e/l"}, []string{"/d/e", "/d/e/f", "/d/e/l"}},
		{"/d", "/e/d", 1, []string{"/d"}, []string{"/d"}, []string{"/e/d"}},
		{"/e", "/ee", 0, []string{"/e"}, []string{"/e", "/e/d"}, []string{"/ee", "/ee/d"}},
		{"/e/d", "/x", 0, []string{"/e/d"}, []string{"/e", "/e/d"}, []string{"/e", "/x"}},
	} {
		tr := sample(t)
		files := tr.Files()
		var want []api.Entry
		for i, p := range c.before {
			x, _ := tr.Stat(p)
			x.Path = c.after[i]
			want = append(want, x)
		}
		must(t, tr, rename(c.p, c.to))
		for _, x := range want {
			if y, e := tr.Stat(x.Path); x != y || e != api.OK {
				t.Errorf("%s to %s: %v %d, want %v", c.p, c.to, y, e, x)
			}
		}
		for _, p := range c.gone {
			if _, e := tr.Stat(p); e != api.ENOENT {
				t.Errorf("%s to %s: %s is there: %d", c.p, c.to, p, e)
			}
		}
		if tr.Files() != files-c.files {
			t.Errorf("%s to %s: %d files", c.p, c.to, tr.Files())
		}
	}
}

func TestRenameToItself(t *testing.T) {
	tr := sample(t)
	before := look(tr)
	for _, p := range []string{"/d", "/e", "/f", "/l", "/e/f"} {
		must(t, tr, rename(p, p))
	}
	must(t, tr, rename("/f", "/g"), rename("/g", "/f"))
	if !look(tr).same(before) {
		t.Error("changed")
	}
}

func TestMeta(t *testing.T) {
	most := api.Meta{Mode: 4095, Uid: api.MaxId, Gid: api.MaxId}
	for _, kind := range []int{api.OChmod, api.OChown} {
		for _, c := range noFile {
			refuse(t, api.Op{Kind: kind, Path: c.p, Meta: badMeta}, c.e)
		}
		for _, p := range []string{"/", "/d", "/f", "/l"} {
			for _, m := range []api.Meta{badMeta, {Mode: -1}, {Uid: -1}, {Gid: -1}, {Uid: api.MaxId + 1}, {Gid: api.MaxId + 1}} {
				refuse(t, api.Op{Kind: kind, Path: p, Meta: m}, api.EARG)
			}
			tr := sample(t)
			want, _ := tr.Stat(p)
			if kind == api.OChmod {
				want.Meta.Mode = most.Mode
			} else {
				want.Meta.Uid, want.Meta.Gid = most.Uid, most.Gid
			}
			must(t, tr, api.Op{Kind: kind, Path: p, Meta: most, Text: "x", To: "/x"})
			if x, e := tr.Stat(p); x != want || e != api.OK {
				t.Errorf("kind %d: %v %d, want %v", kind, x, e, want)
			}
		}
	}
	// Of a link the link itself, not what it leads to; of a file all names.
	tr := sample(t)
	must(t, tr, api.Op{Kind: api.OChmod, Path: "/l", Meta: most}, api.Op{Kind: api.OChown, Path: "/g", Meta: most})
	if x, _ := tr.Stat("/d"); x.Meta != dirMeta {
		t.Error(x)
	}
	if x, _ := tr.Stat("/f"); x.Meta != (api.Meta{Mode: fileMeta.Mode, Uid: most.Uid, Gid: most.Gid}) {
		t.Error(x)
	}
}

// P3.2

// Check tells what Do would, and does nothing: where Do has no error too.
func TestCheckDoesNothing(t *testing.T) {
	tr := sample(t)
	before := look(tr)
	for _, x := range []api.Op{
		mkdir("/x"), create("/x"), symlink("/x", "y"), write("/f", "other"), link("/f", "/x"), unlink("/f"), rmdir("/d"),
		rename("/e", "/d"), rename("/f", "/e/f"),
		{Kind: api.OChmod, Path: "/f"}, {Kind: api.OChown, Path: "/f"},
	} {
		if e := tr.Check(x); e != api.OK {
			t.Errorf("%v: %d", x, e)
		}
		if !look(tr).same(before) {
			t.Fatalf("%v was done", x)
		}
		if e := tr.Clone().Do(x); e != api.OK {
			t.Errorf("%v: %d", x, e)
		}
	}
}

func TestReading(t *testing.T) {
	tr := sample(t)
	for _, c := range noFile {
		if x, e := tr.Stat(c.p); x != (api.Entry{}) || e != c.e {
			t.Errorf("Stat(%q): %v %d", c.p, x, e)
		}
		if l, e := tr.List(c.p); len(l) != 0 || e != c.e {
			t.Errorf("List(%q): %v %d", c.p, l, e)
		}
		if s, e := tr.Read(c.p); s != "" || e != c.e {
			t.Errorf("Read(%q): %q %d", c.p, s, e)
		}
	}
	for p, want := range map[string]api.Entry{
		"/":    {Kind: api.KDir, Meta: dirMeta, Node: 1},
		"/d":   {Kind: api.KDir, Meta: dirMeta, Node: 2},
		"/e/f": {Kind: api.KFile, Meta: fileMeta, Node: 4},
		"/f":   {Kind: api.KFile, Meta: fileMeta, Text: "text", Node: 7},
		"/g":   {Kind: api.KFile, Meta: fileMeta, Text: "text", Node: 7},
		"/l":   {Kind: api.KLink, Meta: fileMeta, Text: "/d", Node: 8},
	} {
		want.Path = p
		if x, e := tr.Stat(p); x != want || e != api.OK {
			t.Errorf("Stat(%q): %v %d, want %v", p, x, e, want)
		}
	}
	for p, want := range map[string][]string{"/": {"d", "e", "f", "g", "l"}, "/d": nil, "/e": {"d", "f", "l"}, "/e/d": nil} {
		if l, e := tr.List(p); !slices.Equal(l, want) || e != api.OK {
			t.Errorf("List(%q): %v %d", p, l, e)
		}
	}
	for _, p := range []string{"/f", "/l", "/e/f"} {
		if l, e := tr.List(p); len(l) != 0 || e != api.ENOTDIR {
			t.Errorf("List(%q): %v %d", p, l, e)
		}
	}
	for p, want := range map[string]api.Errno{"/": api.EISDIR, "/d": api.EISDIR, "/l": api.EARG, "/e/l": api.EARG} {
		if s, e := tr.Read(p); s != "" || e != want {
			t.Errorf("Read(%q): %q %d", p, s, e)
		}
	}
}

// Names rise byte by byte; so do paths, whatever directory they are in, and so
// do the numbers of the files as they first occur.
func TestOrder(t *testing.T) {
	tr := New()
	must(t, tr, create("/b"), mkdir("/a"), create("/a/c"), create("/a-c"), create("/a0"), create("/B"), create("/~"), link("/~", "/!"))
	if l, _ := tr.List("/"); !slices.Equal(l, []string{"!", "B", "a", "a-c", "a0", "b", "~"}) {
		t.Error(l)
	}
	var paths []string
	var nodes []int
	for _, x := range tr.Image() {
		paths, nodes = append(paths, x.Path), append(nodes, x.Node)
	}
	if !slices.Equal(paths, []string{"/", "/!", "/B", "/a", "/a-c", "/a/c", "/a0", "/b", "/~"}) {
		t.Error(paths)
	}
	if !slices.Equal(nodes, []int{1, 2, 3, 4, 5, 6, 7, 8, 2}) {
		t.Error(nodes)
	}
}

// What was returned is nobody's but the caller's.
func TestResultsAreNew(t *testing.T) {
	tr := sample(t)
	before := look(tr)
	l := tr.Image()
	clear(l)
	names, _ := tr.List("/")
	clear(names)
	if again, _ := tr.List("/"); !look(tr).same(before) || again[0] != "d" {
		t.Error("shared")
	}
}

// P3.3

func TestLoad(t *testing.T) {
	for _, tr := range []*Tree{New(), sample(t)} {
		must(t, tr, api.Op{Kind: api.OChmod, Path: "/", Meta: api.Meta{Mode: 0o700}}, api.Op{Kind: api.OChown, Path: "/", Meta: api.Meta{Uid: 3, Gid: 4}})
		l := tr.Image()
		got, e := Load(l)
		if e != api.OK || !slices.Equal(got.Image(), l) {
			t.Fatalf("%d: %v", e, got.Image())
		}
		if got.Bytes() != tr.Bytes() || got.Files() != tr.Files() {
			t.Error(got.Bytes(), got.Files())
		}
		for _, x := range l { // the numbers are those of the list
			if y, e := got.Stat(x.Path); x != y || e != api.OK {
				t.Error(x, y, e)
			}
		}
		must(t, got, create("/new"))
		if x, _ := got.Stat("/new"); x.Node != tr.Files()+1 {
			t.Error(x)
		}
	}
}

func TestLoadRefused(t *testing.T) {
	good := sample(t).Image() // / d e e/d e/f e/l f g l
	change := func(i int, f func(*api.Entry)) []api.Entry {
		l := slices.Clone(good)
		f(&l[i])
		return l
	}
	drop := func(i int) []api.Entry { return slices.Delete(slices.Clone(good), i, i+1) }
	lists := map[string][]api.Entry{
		"nothing":             nil,
		"no root":             good[1:],
		"a root that is none": change(0, func(x *api.Entry) { x.Kind = api.KFile }),
		"a root with a text":  change(0, func(x *api.Entry) { x.Text = "x" }),
		"a root's meta":       change(0, func(x *api.Entry) { x.Meta = badMeta }),
		"a root's number":     change(0, func(x *api.Entry) { x.Node = 2 }),
		"no number":           change(0, func(x *api.Entry) { x.Node = 0 }),
		"two roots":           append(slices.Clone(good[:1]), good...),
		"a number beyond":     change(1, func(x *api.Entry) { x.Node = 3 }),
		"a number below":      change(1, func(x *api.Entry) { x.Node = -1 }),
		"the last number":     change(8, func(x *api.Entry) { x.Node = 100 }),
		"no directory":        drop(2),
		"a gap of numbers":    drop(1),
		"a file as directory": change(2, func(x *api.Entry) { x.Kind = api.KFile }),
		"a kind 0":            change(8, func(x *api.Entry) { x.Kind = 0 }),
		"a kind 4":            change(8, func(x *api.Entry) { x.Kind = 4 }),
		"a kind below":        change(8, func(x *api.Entry) { x.Kind = -1 }),
		"a directory's text":  change(1, func(x *api.Entry) { x.Text = "x" }),
		"a long text":         change(4, func(x *api.Entry) { x.Text = strings.Repeat("x", api.MaxText+1) }),
		"a long target":       change(8, func(x *api.Entry) { x.Text = strings.Repeat("x", 201) }),
		"an empty target":     change(8, func(x *api.Entry) { x.Text = "" }),
		"a meta":              change(4, func(x *api.Entry) { x.Meta.Mode = 4096 }),
		"an id":               change(4, func(x *api.Entry) { x.Meta.Uid = -1 }),
		"a path":              change(8, func(x *api.Entry) { x.Path = "/x/" }),
		"another path":        change(8, func(x *api.Entry) { x.Path = "x" }),
		"a long path":         change(8, func(x *api.Entry) { x.Path = "/" + strings.Repeat("x", 200) }),
		"a name's text":       change(7, func(x *api.Entry) { x.Text = "other" }),
		"a name's kind":       change(7, func(x *api.Entry) { x.Kind = api.KLink }),
		"a name's meta":       change(7, func(x *api.Entry) { x.Meta.Mode = 0 }),
		"a directory's name":  change(7, func(x *api.Entry) { *x = good[1]; x.Path = "/g" }),
		"a path twice":        append(slices.Clone(good), good[8]),
		"another order":       append(slices.Clone(good[:8]), good[8], api.Entry{Path: "/h", Kind: api.KFile, Node: 9}),
		"a child ahead":       {good[0], {Path: "/a/b", Kind: api.KFile, Node: 2}, {Path: "/a", Kind: api.KDir, Node: 3}},
	}
	for what, l := range lists {
		before := slices.Clone(l)
		if tr, e := Load(l); tr != nil || e != api.EARG {
			t.Errorf("%s: %v %d", what, tr, e)
		}
		if !slices.Equal(before, l) {
			t.Errorf("%s: changed", what)
		}
	}
	if _, e := Load(good); e != api.OK {
		t.Error(e)
	}
}

// A tree of a list keeps none of it.
func TestLoadIsOwn(t *testing.T) {
	l := sample(t).Image()
	tr, _ := Load(l)
	before := look(tr)
	clear(l)
	if !look(tr).same(before) {
		t.Error("shared")
	}
}

func TestClone(t *testing.T) {
	tr := sample(t)
	must(t, tr, create("/x"), unlink("/x"), unlink("/e/f")) // numbers that are nobody's
	c := tr.Clone()
	before := look(tr)
	if c == tr || !look(c).same(before) {
		t.Fatal(c.Image())
	}
	l := []api.Op{
		create("/new"), write("/f", "longer"), unlink("/l"), rename("/e", "/d"), link("/f", "/h"),
		{Kind: api.OChmod, Path: "/", Meta: badMeta}, {Kind: api.OChmod, Path: "/g"}, {Kind: api.OChown, Path: "/"},
	}
	for _, x := range l {
		c.Do(x)
	}
	if !look(tr).same(before) {
		t.Error("what was done to the clone was done to the tree")
	}
	after := look(c)
	for _, x := range l { // the clone numbers files as the tree does
		tr.Do(x)
	}
	if !look(tr).same(after) {
		t.Error(tr.Image(), c.Image())
	}
	tr.Do(unlink("/h"))
	if !look(c).same(after) {
		t.Error("what was done to the tree was done to the clone")
	}
}

func TestNotMade(t *testing.T) {
	for _, tr := range []*Tree{nil, new(Tree), {}} {
		for _, kind := range []int{-1, 0, api.OMkdir, api.OWrite, api.OLink, api.OUnlink, api.ORmdir, api.ORename, api.OChmod, api.OChown} {
			for _, p := range []string{"", "/", "/a", "/a/b"} {
				x := api.Op{Kind: kind, Path: p, To: p, Meta: badMeta}
				if e := tr.Check(x); e != api.ENIL {
					t.Errorf("Check of %v: %d", x, e)
				}
				if e := tr.Do(x); e != api.ENIL {
					t.Errorf("Do of %v: %d", x, e)
				}
				if y, e := tr.Stat(p); y != (api.Entry{}) || e != api.ENIL {
					t.Errorf("Stat: %v %d", y, e)
				}
				if l, e := tr.List(p); len(l) != 0 || e != api.ENIL {
					t.Errorf("List: %v %d", l, e)
				}
				if s, e := tr.Read(p); s != "" || e != api.ENIL {
					t.Errorf("Read: %q %d", s, e)
				}
			}
		}
		if l := tr.Image(); len(l) != 0 || tr.Clone() != nil || tr.Bytes() != 0 || tr.Files() != 0 {
			t.Error(l, tr.Clone(), tr.Bytes(), tr.Files())
		}
	}
}
