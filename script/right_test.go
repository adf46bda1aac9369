package script_test

import (
	"math"
	"strings"
	"testing"

	"cellarer/api"
)

// named are the kinds of lines that have a name, and what is ahead of it and
// behind it.
var named = []struct {
	x             api.Line
	before, after string
}{
	{api.Line{Kind: api.LUnpack, Text: "1"}, "unpack ", " 1"},
	{api.Line{Kind: api.LConfigure}, "configure ", ""},
	{api.Line{Kind: api.LRemove}, "remove ", ""},
	{api.Line{Kind: api.LPurge}, "purge ", ""},
	{api.Line{Kind: api.LTrue, Text: "/a"}, "true /a ", ""},
	{api.Line{Kind: api.LShow}, "show ", ""},
	{api.Line{Kind: api.LQuery}, "query ", ""},
	{api.Line{Kind: api.LPackage, Text: "1"}, "package ", " 1"},
	{api.Line{Kind: api.LInterest}, "interest ", " await"},
	{api.Line{Kind: api.LInterest, Flag: true}, "interest ", " noawait"},
}

// texts are some that may stand as words if they are no longer than some limit
// allows, and some that may not.
func texts(limit int) map[string]bool {
	out := map[string]bool{
		"a": true, "!": true, "~": true, "A": true, "/": true, "--": true, "a!~b": true, strings.Repeat("~", limit): true,
		" ": false, "a ": false, " a": false, "a b": false, "\x7f": false, "a\x7f": false, "\n": false, "a\nb": false, "\x00": false, "\x1f": false, "\x80": false, "a\xff": false, "ä": false,
		strings.Repeat("~", limit+1): false, strings.Repeat("a", limit-1) + " ": false, strings.Repeat("a", 100*limit): false,
	}
	return out
}

// P27.3

func TestNames(t *testing.T) {
	for _, c := range named {
		for name, right := range texts(60) {
			c.x.Name = name
			held(t, c.x, right, c.before+name+c.after)
		}
		if c.x.Name = ""; c.x.Kind == api.LTrue {
			isLine(t, c.x, "true /a -")
		} else {
			noLine(t, c.x)
			noText(t, c.before+c.after)
		}
		// Where it stands for an empty text, it is no name.
		c.x.Name = "-"
		held(t, c.x, c.x.Kind != api.LTrue, c.before+"-"+c.after)
	}
	for name, right := range texts(60) {
		for _, l := range [][]string{{name}, {"a", name}, {name, "-", "a"}} {
			held(t, api.Line{Kind: api.LReplaces, Names: l}, right, "replaces "+strings.Join(l, " "))
		}
	}
	noLine(t, api.Line{Kind: api.LReplaces, Names: []string{""}})
	noLine(t, api.Line{Kind: api.LReplaces, Names: []string{"a", "", "b"}})
	isLine(t, api.Line{Kind: api.LReplaces, Names: []string{"-"}}, "replaces -")
	isLine(t, api.Line{Kind: api.LReplaces, Names: []string{"b", "a", "b"}}, "replaces b a b")
}

func TestVersionsAndPaths(t *testing.T) {
	for _, c := range []struct {
		x             api.Line
		limit         int
		before, after string
	}{
		{api.Line{Kind: api.LUnpack, Name: "a"}, 80, "unpack a ", ""},
		{api.Line{Kind: api.LPackage, Name: "a"}, 80, "package a ", ""},
		{api.Line{Kind: api.LTrue}, 200, "true ", " -"},
		{api.Line{Kind: api.LTrue, Name: "a"}, 200, "true ", " a"},
		{api.Line{Kind: api.LOwner}, 200, "owner ", ""},
	} {
		for text, right := range texts(c.limit) {
			c.x.Text = text
			held(t, c.x, right, c.before+text+c.after)
		}
		c.x.Text = "-"
		isLine(t, c.x, c.before+"-"+c.after)
		c.x.Text = ""
		noLine(t, c.x)
		noText(t, c.before+c.after)
	}
}

// numbers are some that may be, and some that may not.
var numbers = map[int]bool{
	0: true, 1: true, 9: true, 10: true, most - 1: true, most: true,
	-1: false, most + 1: false, math.MinInt: false, math.MaxInt: false, -most: false, 1 << 32: false,
}

func TestNumbers(t *testing.T) {
	for n, right := range numbers {
		digits := text(n)
		held(t, api.Line{Kind: api.LLimits, Limits: api.Limits{Bytes: n}}, right, "limits "+digits+" 0 0")
		held(t, api.Line{Kind: api.LLimits, Limits: api.Limits{Files: n}}, right, "limits 0 "+digits+" 0")
		held(t, api.Line{Kind: api.LLimits, Limits: api.Limits{Name: n}}, right, "limits 0 0 "+digits)
		held(t, api.Line{Kind: api.LCrash, N: n}, right, "crash "+digits+" 0")
		held(t, api.Line{Kind: api.LCrash, Keep: n}, right, "crash 0 "+digits)
		held(t, api.Line{Kind: api.LCrash, Nums: []int{n}}, right, "crash 0 0 "+digits)
		held(t, api.Line{Kind: api.LCrash, Nums: []int{5, n}}, right, "crash 0 0 5 "+digits)
		held(t, api.Line{Kind: api.LCodes, Nums: []int{n}}, right, "codes "+digits)
		held(t, api.Line{Kind: api.LCodes, Nums: []int{n, 5}}, right, "codes "+digits+" 5")
		if !right {
			for _, s := range []string{"limits X 0 0", "limits 0 X 0", "limits 0 0 X", "crash X 0", "crash 0 X", "crash 0 0 X", "codes X", "codes 5 X"} {
				noText(t, strings.Replace(s, "X", digits, 1))
			}
		}
	}
}

// Each list may be as long as this, and no longer.
func TestLists(t *testing.T) {
	for n := range 20 {
		nums, names := make([]int, n), make([]string, n)
		for i := range n {
			nums[i], names[i] = i, longestName
		}
		zeros, words := "", strings.Repeat(" "+longestName, n)
		for i := range n {
			zeros += " " + text(i)
		}
		held(t, api.Line{Kind: api.LCodes, Nums: nums}, n <= 16, "codes"+zeros)
		held(t, api.Line{Kind: api.LCrash, Nums: nums}, n <= 16, "crash 0 0"+zeros)
		held(t, api.Line{Kind: api.LReplaces, Names: names}, n <= 16, "replaces"+words)
		if n > 16 {
			noText(t, "codes"+zeros)
			noText(t, "crash 0 0"+zeros)
			noText(t, "replaces"+words)
		}
	}
}

func TestRelations(t *testing.T) {
	for rel, text := range map[api.Rel]string{
		{Name: "a"}: "a", {Name: longestName}: longestName, {Name: "a", Op: "<<", Version: "1"}: "a (<< 1)", {Name: "a", Op: ">=", Version: "0:1-0"}: "a (>= 0:1-0)",
		{}: "", {Name: "A"}: "", {Name: "-"}: "", {Name: "a b"}: "", {Name: longestName + "n"}: "", {Name: "a", Op: "<"}: "", {Name: "a", Op: "<", Version: "1"}: "",
		{Name: "a", Op: "="}: "", {Name: "a", Version: "1"}: "", {Name: "a", Op: "=", Version: "a"}: "", {Name: "a", Op: "=", Version: longestVersion}: "", {Name: "a\nb"}: "",
	} {
		right, more := text != "", api.Rel{Name: "b"}
		held(t, api.Line{Kind: api.LDepends, Depends: [][]api.Rel{{rel}}}, right, "depends "+text)
		held(t, api.Line{Kind: api.LDepends, Depends: [][]api.Rel{{more, rel}, {more}}}, right, "depends b | "+text+", b")
		held(t, api.Line{Kind: api.LConflicts, Conflicts: []api.Rel{rel}}, right, "conflicts "+text)
		held(t, api.Line{Kind: api.LConflicts, Conflicts: []api.Rel{more, rel, more}}, right, "conflicts b, "+text+", b")
	}
	isLine(t, api.Line{Kind: api.LDepends}, "depends")
	isLine(t, api.Line{Kind: api.LConflicts}, "conflicts")
	noLine(t, api.Line{Kind: api.LDepends, Depends: [][]api.Rel{{}}})
	noLine(t, api.Line{Kind: api.LDepends, Depends: [][]api.Rel{{{Name: "a"}}, {}}})
	for n := 63; n < 67; n++ {
		var group []api.Rel
		var groups [][]api.Rel
		var words []string
		for range n {
			group, groups, words = append(group, api.Rel{Name: "a"}), append(groups, []api.Rel{{Name: "a"}}), append(words, "a")
		}
		commas := strings.Join(words, ", ")
		held(t, api.Line{Kind: api.LDepends, Depends: groups}, n <= 64, "depends "+commas)
		held(t, api.Line{Kind: api.LDepends, Depends: [][]api.Rel{group}}, n <= 64, "depends "+strings.Join(words, " | "))
		held(t, api.Line{Kind: api.LConflicts, Conflicts: group}, n <= 64, "conflicts "+commas)
		if n > 64 {
			noText(t, "depends "+commas)
			noText(t, "conflicts "+commas)
		}
	}
}

func TestFiles(t *testing.T) {
	line := func(f api.File) api.Line { return api.Line{Kind: api.LFile, File: f} }
	words := map[int]string{api.KDir: "dir ", api.KFile: "file ", api.KLink: "link "}
	for kind := -1; kind < 6; kind++ {
		word, behind := words[kind], " 0000 0 0"
		if kind != api.KDir {
			behind += " -"
		}
		right := word != ""
		isFile := kind == api.KFile
		for path, has := range texts(200) {
			held(t, line(api.File{Path: path, Kind: kind}), right && has, word+path+behind)
		}
		held(t, line(api.File{Path: "-", Kind: kind}), right, word+"-"+behind)
		noLine(t, line(api.File{Kind: kind}))
		held(t, line(api.File{Path: "/a", Kind: kind, Conf: true}), isFile, "conf"+word+"/a"+behind)
		for meta, text := range map[api.Meta]string{
			{Mode: 4095, Uid: api.MaxId, Gid: api.MaxId}: "7777 67108863 67108863", {Mode: 1}: "0001 0 0", {Uid: 1}: "0000 1 0", {Gid: 1}: "0000 0 1",
			{Mode: 4096}: "", {Mode: -1}: "", {Uid: -1}: "", {Uid: api.MaxId + 1}: "", {Gid: -1}: "", {Gid: api.MaxId + 1}: "", {Mode: 4096 + 7}: "",
		} {
			held(t, line(api.File{Path: "/a", Kind: kind, Meta: meta}), right && text != "", strings.Replace(word+"/a"+behind, "0000 0 0", text, 1))
		}
		for _, s := range []string{"a", "-", "\x00", strings.Repeat("x", 4096)} {
			held(t, line(api.File{Path: "/a", Kind: kind, Text: s}), right && kind != api.KDir, word+"/a 0000 0 0 "+digits(s))
		}
		noLine(t, line(api.File{Path: "/a", Kind: kind, Text: strings.Repeat("x", 4097)}))
		held(t, line(api.File{Path: "/a", Kind: kind, Text: "\xffA\n", Conf: true}), isFile, "conf"+word+"/a 0000 0 0 ff410a")
	}
	noText(t, "file /a 0000 0 0 "+strings.Repeat("61", 4097))
	noText(t, "link /a 0000 0 0 "+strings.Repeat("61", 1<<20))
}

func TestScripts(t *testing.T) {
	words := map[int]string{0: "preinst ", 1: "postinst ", 2: "prerm ", 3: "postrm "}
	for _, n := range []int{math.MinInt, -1, 0, 1, 2, 3, 4, 5, 256, math.MaxInt} {
		for _, c := range acts {
			held(t, api.Line{Kind: api.LScript, N: n, Act: c.act}, words[n] != "", words[n]+c.text)
		}
		noLine(t, api.Line{Kind: api.LScript, N: n})
		noLine(t, api.Line{Kind: api.LScript, N: n, Act: api.Act{Kind: 1, Path: "a"}})
	}
	for _, c := range acts {
		isLine(t, api.Line{Kind: api.LAct, Act: c.act}, c.text)
	}
	noLine(t, api.Line{Kind: api.LAct})
	noLine(t, api.Line{Kind: api.LAct, Act: api.Act{Kind: 11, Name: "a"}})
}

func TestKinds(t *testing.T) {
	for _, kind := range []int{math.MinInt, -1, 0, 21, 22, 256 + 6, math.MaxInt} {
		noLine(t, api.Line{Kind: kind})
		for _, c := range lines {
			x := c.x
			x.Kind = kind
			noLine(t, x)
		}
	}
}

// states is which fields the words of each kind of line state.
var states = [21]string{
	api.LAct: " Act ", api.LUnpack: " Name Text ", api.LConfigure: " Name ", api.LRemove: " Name ", api.LPurge: " Name ", api.LProcess: " ",
	api.LTrue: " Text Name ", api.LShow: " Name ", api.LOwner: " Text ", api.LQuery: " Name ",
	api.LCodes: " Nums ", api.LLimits: " Limits ", api.LCrash: " N Keep Nums ", api.LPackage: " Name Text ",
	api.LDepends: " Depends ", api.LConflicts: " Conflicts ", api.LReplaces: " Names ", api.LFile: " File ",
	api.LInterest: " Name Flag ", api.LScript: " N Act ",
}

// A line that has a field set which its words do not state may not be.
func TestFields(t *testing.T) {
	seen := 0
	for _, c := range lines {
		fields(c.x, func(name string, x api.Line) {
			first, _, _ := strings.Cut(name, ".")
			if !strings.Contains(states[x.Kind], " "+first+" ") {
				seen++
				noLine(t, x)
			}
		})
	}
	if seen < 600 {
		t.Errorf("only %d fields", seen)
	}
}
