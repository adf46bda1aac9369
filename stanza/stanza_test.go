package stanza

import (
	"math/rand/v2"
	"regexp"
	"slices"
	"strconv"
	"strings"
	"testing"

	"cellarer/api"
)

// each gives every text that begins with s and has at most n of the letters
// after it.
func each(letters string, n int, s string, f func(string)) {
	f(s)
	for i := 0; n > 0 && i < len(letters); i++ {
		each(letters, n-1, s+letters[i:i+1], f)
	}
}

func field(name, text string) api.Field { return api.Field{Name: name, Text: text} }

// one is a stanza of fields, of which names and texts are given in turn.
func one(l ...string) []api.Field {
	var out []api.Field
	for i := 0; i < len(l); i += 2 {
		out = append(out, field(l[i], l[i+1]))
	}
	return out
}

func stanzas(l ...[]api.Field) [][]api.Field { return l }

func same(a, b [][]api.Field) bool {
	return slices.EqualFunc(a, b, func(x, y []api.Field) bool { return slices.Equal(x, y) })
}

// many is n fields of different names.
func many(n int) []api.Field {
	var out []api.Field
	for i := range n {
		out = append(out, field("A"+strconv.Itoa(i), "x"))
	}
	return out
}

// P6.1

func TestLines(t *testing.T) {
	for _, c := range []struct {
		s    string
		want []string
	}{
		{"", nil},
		{"\n", []string{""}},
		{"\n\n", []string{"", ""}},
		{"a\n", []string{"a"}},
		{"a\nb\n", []string{"a", "b"}},
		{"a\n\nb\n", []string{"a", "", "b"}},
		{"\na\n\n", []string{"", "a", ""}},
		{" a \r\n\t\x00\xff\n", []string{" a \r", "\t\x00\xff"}},
	} {
		if got, e := Lines(c.s); !slices.Equal(got, c.want) || e != api.OK {
			t.Errorf("Lines(%q): %q %d", c.s, got, e)
		}
	}
	for _, s := range []string{"a", " ", "a\nb", "\na", "a\n\nb", "\n ", "a\n\r", "a\x00"} {
		if got, e := Lines(s); len(got) != 0 || e != api.EFORM {
			t.Errorf("Lines(%q): %q %d", s, got, e)
		}
	}
	if got, e := Lines(strings.Repeat("\n", 1000000)); len(got) != 1000000 || e != api.OK {
		t.Errorf("Lines of a million: %d %d", len(got), e)
	}
}

func TestWords(t *testing.T) {
	for _, c := range []struct {
		s    string
		want []string
	}{
		{"", nil},
		{" ", nil},
		{"    ", nil},
		{"a", []string{"a"}},
		{"a b", []string{"a", "b"}},
		{"  a   b  ", []string{"a", "b"}},
		{"ab c ab", []string{"ab", "c", "ab"}},
		// A blank is no other byte.
		{"a\tb\nc\r d\u00a0e\x00\xff", []string{"a\tb\nc\r", "d\u00a0e\x00\xff"}},
		{"\n \t", []string{"\n", "\t"}},
	} {
		if got := Words(c.s); !slices.Equal(got, c.want) {
			t.Errorf("Words(%q): %q", c.s, got)
		}
	}
}

func TestFieldName(t *testing.T) {
	for _, s := range []string{"A", "Z", "Ab", "AB", "A0", "A-", "A--b", "Triggers-Pending", "Z9", strings.Repeat("A", 60)} {
		if !Field(s, "x") {
			t.Errorf("name %q: false", s)
		}
	}
	for _, s := range []string{"", "a", "aB", "0", "-", "-A", " A", "A ", "A:", "A b", "A_", "A.b", "A\n", "Ä", "Aä", "A\x00", strings.Repeat("A", 61)} {
		if Field(s, "x") {
			t.Errorf("name %q: true", s)
		}
	}
	for c := range 256 {
		b := string([]byte{byte(c)})
		first := 'A' <= c && c <= 'Z'
		further := first || 'a' <= c && c <= 'z' || '0' <= c && c <= '9' || c == '-'
		if Field(b, "") != first || Field(b+"a", "") != first || Field("A"+b, "") != further || Field("A"+b+"a", "") != further {
			t.Errorf("byte %d", c)
		}
	}
}

func TestFieldText(t *testing.T) {
	for _, s := range []string{
		"", "a", "a b", "a  b", ":", "a\nb", "a\n b", "a\n  b\n c", "\na", "\n a", "\na\nb", "!\n~", "a: b\nC: d",
		strings.Repeat("x", 65536), strings.Repeat("x\n", 32767) + "xx", "\n" + strings.Repeat("x", 65535),
	} {
		if !Field("A", s) {
			t.Errorf("text %.20q: false", s)
		}
	}
	for _, s := range []string{
		" ", " a", "a ", "  ", "\n", "a\n", "\n\n", "\n\na", "a\n\nb", "a\n ", "a\n b ", "a \nb", " \na", "\n ", "\n \na", "a\n \nb", "a\nb\n",
		"a\tb", "a\r", "a\r\nb", "ä", "a\x00", "a\x7f", "a\n\t",
		strings.Repeat("x", 65537), "\n" + strings.Repeat("x", 65536), strings.Repeat("x\n", 32768) + "x",
	} {
		if Field("A", s) {
			t.Errorf("text %.20q: true", s)
		}
	}
	for c := range 256 {
		b := string([]byte{byte(c)})
		printed := 32 < c && c < 127
		if Field("A", b) != printed || Field("A", "x"+b) != printed || Field("A", "x\nx"+b) != printed ||
			Field("A", b+"x") != (printed || c == '\n') || Field("A", "x\n"+b+"x") != (printed || c == ' ') ||
			Field("A", "x"+b+"x") != (printed || c == ' ' || c == '\n') {
			t.Errorf("byte %d", c)
		}
	}
}

// rightTexts are the texts of fields, but for their length.
var rightTexts = regexp.MustCompile(`^([!-~]([ -~]*[!-~])?)?(\n[ -~]*[!-~])*$`)

func TestFieldAll(t *testing.T) {
	each("a: \n\t", 7, "", func(s string) {
		if got := Field("A", s); got != rightTexts.MatchString(s) {
			t.Fatalf("Field(A, %q): %v", s, got)
		}
	})
}

// P6.2

// printed are stanzas, and what is printed of them.
var printed = []struct {
	l [][]api.Field
	s string
}{
	{nil, ""},
	{stanzas(one("A", "b")), "A: b\n"},
	{stanzas(one("A", "b\nc")), "A: b\n c\n"},
	{stanzas(one("A", "")), "A:\n"},
	{stanzas(one("A", "\nb")), "A:\n b\n"},
	{stanzas(one("A", "\n b\nc\n  d")), "A:\n  b\n c\n   d\n"},
	{stanzas(one("A", ":")), "A: :\n"},
	{stanzas(one("A", "b: c\nD: e")), "A: b: c\n D: e\n"},
	{stanzas(one("A", "b  c")), "A: b  c\n"},
	{stanzas(one("A", "b", "C", "d")), "A: b\nC: d\n"},
	{stanzas(one("B", "", "A", "x\ny", "C", "")), "B:\nA: x\n y\nC:\n"},
	{stanzas(one("A", "b"), one("A", "b")), "A: b\n\nA: b\n"},
	{stanzas(one("A", ""), one("B", ""), one("C", "d\ne")), "A:\n\nB:\n\nC: d\n e\n"},
	{stanzas(one("Package", "a", "Status", "installed", "Version", "1")), "Package: a\nStatus: installed\nVersion: 1\n"},
}

func TestPrint(t *testing.T) {
	for _, c := range printed {
		if got, e := Print(c.l); got != c.s || e != api.OK {
			t.Errorf("Print(%q): %q %d, want %q", c.l, got, e, c.s)
		}
	}
	if got, e := Print([][]api.Field{}); got != "" || e != api.OK {
		t.Errorf("Print of no stanzas: %q %d", got, e)
	}
}

func TestPrintLimits(t *testing.T) {
	full := slices.Repeat(stanzas(many(64)), 64)
	if s, e := Print(full); e != api.OK || strings.Count(s, "\n") != 64*64+63 {
		t.Errorf("64 stanzas of 64 fields: %d lines %d", strings.Count(s, "\n"), e)
	}
	long := one(strings.Repeat("A", 60), strings.Repeat("x", 65536))
	if s, e := Print(stanzas(long)); e != api.OK || len(s) != 60+2+65536+1 {
		t.Errorf("the longest field: %d bytes %d", len(s), e)
	}
	bad := one("", "")
	for _, l := range [][][]api.Field{
		slices.Repeat(stanzas(many(1)), 65),
		stanzas(many(65)),
		stanzas(many(64), many(65)),
		// Whatever else is wrong, wherever it is.
		make([][]api.Field, 65),
		slices.Repeat(stanzas(bad), 65),
		stanzas(nil, bad, many(65)),
		stanzas(slices.Repeat(one("A", "b"), 65)),
	} {
		if s, e := Print(l); s != "" || e != api.EFULL {
			t.Errorf("Print of %d stanzas: %d bytes %d", len(l), len(s), e)
		}
	}
}

func TestPrintRefuses(t *testing.T) {
	for _, l := range [][][]api.Field{
		stanzas(nil),
		stanzas(one()),
		stanzas(one("A", "b"), nil),
		make([][]api.Field, 64),
		stanzas(one("", "b")),
		stanzas(one("a", "b")),
		stanzas(one("A:", "b")),
		stanzas(one("A", " b")),
		stanzas(one("A", "b ")),
		stanzas(one("A", "b\n")),
		stanzas(one("A", "b\n\nc")),
		stanzas(one("A", "b\tc")),
		stanzas(one(strings.Repeat("A", 61), "b")),
		stanzas(one("A", strings.Repeat("x", 65537))),
		stanzas(one("A", "b"), one("B", "c", "D", "e\n")),
		stanzas(one("A", "b", "A", "b")),
		stanzas(one("A", "b", "C", "d", "A", "")),
		// Names that differ in case alone.
		stanzas(one("Ab", "c", "AB", "d")),
		stanzas(one("A", "b"), one("XZ-a", "c", "B", "d", "Xz-A", "e")),
	} {
		if s, e := Print(l); s != "" || e != api.EARG {
			t.Errorf("Print(%.60q): %q %d", l, s, e)
		}
	}
}

func TestParse(t *testing.T) {
	for _, c := range printed {
		if got, e := Parse(c.s); !same(got, c.l) || e != api.OK {
			t.Errorf("Parse(%q): %q %d, want %q", c.s, got, e, c.l)
		}
	}
}

func TestParseRefuses(t *testing.T) {
	for _, s := range []string{
		"A: b", "A", "A\n", "A b\n", ":\n", ": b\n", "a: b\n", "A:b\n", "A: \n", "A:  b\n", "A: b \n", "A:\tb\n", "A : b\n",
		"\n", "\n\n", "\nA: b\n", "A: b\n\n", "A: b\n\n\nB: c\n", "A: b\n\n\n", " \n", "A: b\n \nB: c\n",
		" A: b\n", " b\nA: b\n", "A: b\n\n c\n", "A: b\n c \n", "A: b\n \n", "A: b\n c", "A:\n\n b\n", "A: b\n\tc\n",
		"A: b\r\n", "A: b\x00\n", "A: ä\n", "A: b\n c\x7f\n",
		"A: b\nA: b\n", "A: b\nB:\nA:\n", "Ab: c\nAB: d\n",
		strings.Repeat("A", 61) + ": b\n", "A: " + strings.Repeat("x", 65537) + "\n",
	} {
		if got, e := Parse(s); len(got) != 0 || e != api.EFORM {
			t.Errorf("Parse(%.60q): %.60q %d", s, got, e)
		}
	}
}

func TestParseLimits(t *testing.T) {
	stanza := func(n int) string {
		var out strings.Builder
		for i := range n {
			out.WriteString("A" + strconv.Itoa(i) + ":\n")
		}
		return out.String()
	}
	for _, c := range []struct {
		s  string
		ok bool
	}{
		{strings.Repeat("A: b\n\n", 63) + "A: b\n", true},
		{strings.Repeat("A: b\n\n", 64) + "A: b\n", false},
		{stanza(64), true},
		{stanza(65), false},
		{strings.Repeat(stanza(64)+"\n", 63) + stanza(64), true},
		{stanza(1) + "\n" + stanza(65), false},
		{strings.Repeat("A", 60) + ": " + strings.Repeat("x", 65536) + "\n", true},
		{"A:\n" + strings.Repeat(" x\n", 32768), true}, // a text of 65536 bytes
		{"A:\n" + strings.Repeat(" x\n", 32767) + " xx\n", false},
		{strings.Repeat("A:\n\n", 500000) + "A:\n", false},
		{strings.Repeat("A:\n", 500000), false},
		{"A:\n" + strings.Repeat(" x\n", 500000), false},
	} {
		l, e := Parse(c.s)
		if c.ok && e != api.OK || !c.ok && (e != api.EFORM || len(l) != 0) {
			t.Errorf("Parse(%.30q), of %d bytes: %d stanzas %d", c.s, len(c.s), len(l), e)
		}
	}
}

// forms are the texts of stanzas, but for limits and names that occur twice.
var forms = func() *regexp.Regexp {
	const field = `([A-Z][A-Za-z0-9-]{0,59}:( [!-~]([ -~]*[!-~])?)?\n( [ -~]*[!-~]\n)*)`
	return regexp.MustCompile(`^(` + field + `+(\n` + field + `+)*)?$`)
}()

// twice tells whether a stanza has a name twice.
func twice(s string) bool {
	for stanza := range strings.SplitSeq(s, "\n\n") {
		names := map[string]bool{}
		for line := range strings.SplitSeq(strings.ToLower(stanza), "\n") {
			name, _, _ := strings.Cut(line, ":")
			if name != "" && name[0] != ' ' && names[name] {
				return true
			}
			names[name] = true
		}
	}
	return false
}

// Every text of a few bytes: what has the form is parsed, and nothing else.
func TestParseAll(t *testing.T) {
	count := 0
	each("Aa: \n", 9, "", func(s string) {
		want := forms.MatchString(s) && !twice(s)
		l, e := Parse(s)
		if want != (e == api.OK) || !want && (e != api.EFORM || l != nil) {
			t.Fatalf("Parse(%q): %q %d", s, l, e)
		}
		if !want {
			return
		}
		count++
		if again, e := Print(l); again != s || e != api.OK { // P6.4
			t.Fatalf("Print(%q): %q %d, want %q", l, again, e, s)
		}
	})
	if count < 1000 {
		t.Fatalf("only %d texts", count)
	}
}

// P6.3

func TestGet(t *testing.T) {
	l := one("Ab", "1", "A", "2", "aB", "3", "", "4", "K", "", "S-9[", "6", "Ä", "7", "\xff", "8")
	for _, c := range []struct {
		name, want string
		ok         bool
	}{
		{"Ab", "1", true},
		{"ab", "1", true},
		{"AB", "1", true},
		{"aB", "1", true},
		{"a", "2", true},
		{"", "4", true},
		{"k", "", true},
		{"s-9[", "6", true},
		{"Ä", "7", true},
		{"\xff", "8", true},
		{"b", "", false},
		{"Ab ", "", false},
		{"Abc", "", false},
		{"s-9{", "", false}, // [ is no letter
		{"S-Y[", "", false},
		// Only A to Z have a case.
		{"ä", "", false},
		{"\u212a", "", false}, // K, the unit
		{"\u017f-9[", "", false},
		{"\xfe", "", false},
		{"\ufffd", "", false},
	} {
		if got, ok := Get(l, c.name); got != c.want || ok != c.ok {
			t.Errorf("Get(%q): %q %v", c.name, got, ok)
		}
	}
	if got, ok := Get(nil, "A"); got != "" || ok {
		t.Errorf("Get of no fields: %q %v", got, ok)
	}
	for c := range 256 {
		for d := range 256 {
			a, b := string([]byte{byte(c)}), string([]byte{byte(d)})
			want := c == d || 'A' <= c && c <= 'Z' && d == c+32 || 'A' <= d && d <= 'Z' && c == d+32
			if _, ok := Get(one(a, ""), b); ok != want {
				t.Fatalf("Get of %q by %q: %v", a, b, ok)
			}
		}
	}
}

// P6.4 (see also TestParseAll)

// drawn is a text of at most n of the letters, without what no field's text has.
func drawn(r *rand.Rand, letters string, n int) string {
	for {
		out := make([]byte, r.IntN(n+1))
		for i := range out {
			out[i] = letters[r.IntN(len(letters))]
		}
		if rightTexts.Match(out) {
			return string(out)
		}
	}
}

func TestPrintedIsParsed(t *testing.T) {
	r := rand.New(rand.NewPCG(6, 4))
	for range 2000 {
		var l [][]api.Field
		for range r.IntN(5) {
			fields := many(1 + r.IntN(6))
			for i := range fields {
				fields[i].Text = drawn(r, "ab:A \n~!", 12)
			}
			l = append(l, fields)
		}
		s, e := Print(l)
		if e != api.OK {
			t.Fatalf("Print(%q): %d", l, e)
		}
		if again, e := Parse(s); !same(again, l) || e != api.OK {
			t.Fatalf("Parse(%q): %q %d, want %q", s, again, e, l)
		}
	}
}

// Arguments stay as they are, with what lies behind their ends (rule 4); what
// is added to one list that Parse gave is in none of its others.
func TestLists(t *testing.T) {
	fields := one("A", "b", "C", "d", "E", "f")
	l := stanzas(fields[:2], fields[:1], nil)
	Print(l[:2])
	Print(l)
	Get(fields[:1], "C")
	if !slices.Equal(fields, one("A", "b", "C", "d", "E", "f")) || !same(l, stanzas(fields[:2], fields[:1], nil)) {
		t.Errorf("changed: %q", l)
	}
	const s = "A: b\nC: d\n\nA: e\n"
	got, _ := Parse(s)
	_ = append(got[0], field("X", "y"))
	if again, e := Print(got); again != s || e != api.OK {
		t.Errorf("shared: %q", again)
	}
}
