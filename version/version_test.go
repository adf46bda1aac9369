package version

import (
	"cmp"
	"math"
	"math/big"
	"math/rand/v2"
	"regexp"
	"slices"
	"strconv"
	"strings"
	"testing"

	"cellarer/api"
)

// each gives every text that begins with s and has at most n of the letters
// after it.
func each(letters string, n int, s string, f func(string)) {
	f(s)
	for i := 0; n > 0 && i < len(letters); i++ {
		each(letters, n-1, s+letters[i:i+1], f)
	}
}

// drawn is a text of at most n of the letters.
func drawn(r *rand.Rand, letters string, n int) string {
	out := make([]byte, r.IntN(n+1))
	for i := range out {
		out[i] = letters[r.IntN(len(letters))]
	}
	return string(out)
}

func parses(t *testing.T, s string, want api.Version) {
	t.Helper()
	if got, e := Parse(s); got != want || e != api.OK {
		t.Errorf("Parse(%q): %+v %d, want %+v", s, got, e, want)
	}
}

func refuses(t *testing.T, s string, want api.Errno) {
	t.Helper()
	if got, e := Parse(s); got != (api.Version{}) || e != want {
		t.Errorf("Parse(%q): %+v %d, want %d", s, got, e, want)
	}
}

// P5.1

func TestParse(t *testing.T) {
	for _, c := range []struct {
		s    string
		want api.Version
	}{
		{"1", api.Version{Upstream: "1", Revision: "0"}},
		{"1.0-1", api.Version{Upstream: "1.0", Revision: "1"}},
		{"1.0~rc1", api.Version{Upstream: "1.0~rc1", Revision: "0"}},
		{"2:1", api.Version{Epoch: 2, Upstream: "1", Revision: "0"}},
		{"2:1.0+dfsg-3~bpo1", api.Version{Epoch: 2, Upstream: "1.0+dfsg", Revision: "3~bpo1"}},
		// What is written without need is read as what it means.
		{"0:1", api.Version{Upstream: "1", Revision: "0"}},
		{"1-0", api.Version{Upstream: "1", Revision: "0"}},
		{"007:1", api.Version{Epoch: 7, Upstream: "1", Revision: "0"}},
		{"1-00", api.Version{Upstream: "1", Revision: "00"}},
		// The first colon and the last hyphen count.
		{"1:2:3", api.Version{Epoch: 1, Upstream: "2:3", Revision: "0"}},
		{"0:2:3:", api.Version{Upstream: "2:3:", Revision: "0"}},
		{"1-2-3", api.Version{Upstream: "1-2", Revision: "3"}},
		{"1--3", api.Version{Upstream: "1-", Revision: "3"}},
		{"1-2-0", api.Version{Upstream: "1-2", Revision: "0"}},
		{"1:2-3:4-5", api.Version{Epoch: 1, Upstream: "2-3:4", Revision: "5"}},
		{"0.+~aZ-+.~zA9", api.Version{Upstream: "0.+~aZ", Revision: "+.~zA9"}},
		// The longest epoch, and the longest version.
		{"999999999:1", api.Version{Epoch: 999999999, Upstream: "1", Revision: "0"}},
		{"000000001:1", api.Version{Epoch: 1, Upstream: "1", Revision: "0"}},
		{strings.Repeat("1", 80), api.Version{Upstream: strings.Repeat("1", 80), Revision: "0"}},
		{"1:1-" + strings.Repeat("a", 76), api.Version{Epoch: 1, Upstream: "1", Revision: strings.Repeat("a", 76)}},
	} {
		parses(t, c.s, c.want)
	}
}

func TestParseRefuses(t *testing.T) {
	for _, s := range []string{
		"", "a", "a1", ".1", "~1", "-", "-1", "1-", "1--", "1-2-", ":", ":1", "1:", "1:-1", "1:a", "1::2", "1:-", "1:1-", "::1",
		"1000000000:1", "0000000001:1", "a:1", "1a:1", "-1:1", "+1:1", " 1:1", "1 :1", "1.0:1", "1_0:1", "0x1:1", "1-2:3", "٣:1",
		"1-2:3:4", "1:2-3:4", "1_", "1 ", " 1", "1\n", "1/2", "1-a_b", "1-a b", "1é", "1\x00", "1-\xff", "1@", "1[", "1`", "1{",
	} {
		refuses(t, s, api.EFORM)
	}
	for _, s := range []string{
		strings.Repeat("1", 81), "0:" + strings.Repeat("1", 79), strings.Repeat("_", 81), strings.Repeat(":", 1000),
	} {
		refuses(t, s, api.ELONG)
	}
	refuses(t, strings.Repeat("1", 79)+"_", api.EFORM)
}

// Any byte at each place: all that may be there is told here.
func TestParseBytes(t *testing.T) {
	const alnum = "0123456789ABCDEFGHIJKLMNOPQRSTUVWXYZabcdefghijklmnopqrstuvwxyz"
	for c := range 256 {
		b := string([]byte{byte(c)})
		for _, x := range []struct {
			s, may string
		}{
			{b + "9", alnum[:10]},
			{"9" + b + "9", alnum + ".+-~:"}, // after a colon: 9:9
			{"1:9" + b + "9", alnum + ".+-~:"},
			{"9-9" + b + "9", alnum + ".+~-"},
			{"1:9-9" + b + "9", alnum + ".+~-"},
			{b + ":9", alnum[:10]},
		} {
			if _, e := Parse(x.s); (e == api.OK) != strings.Contains(x.may, b) {
				t.Errorf("Parse(%q): %d", x.s, e)
			}
		}
	}
}

// forms are all versions, with an epoch and without, with a revision and
// without: each text that there is falls under one of them at the most.
var forms = []*regexp.Regexp{
	regexp.MustCompile(`^()([0-9][A-Za-z0-9.+~]*)()$`),
	regexp.MustCompile(`^()([0-9][A-Za-z0-9.+~-]*)-([A-Za-z0-9.+~]+)$`),
	regexp.MustCompile(`^([0-9]{1,9}):([0-9][A-Za-z0-9.+~:]*)()$`),
	regexp.MustCompile(`^([0-9]{1,9}):([0-9][A-Za-z0-9.+~:-]*)-([A-Za-z0-9.+~]+)$`),
}

// modelParse is Parse by the forms.
func modelParse(s string) (api.Version, bool) {
	for _, form := range forms {
		if m := form.FindStringSubmatch(s); m != nil && len(s) <= 80 {
			epoch, _ := strconv.Atoi(m[1])
			return api.Version{Epoch: epoch, Upstream: m[2], Revision: cmp.Or(m[3], "0")}, true
		}
	}
	return api.Version{}, false
}

func TestParseAll(t *testing.T) {
	each("01a~:-_", 6, "", func(s string) {
		want, ok := modelParse(s)
		got, e := Parse(s)
		if got != want || ok != (e == api.OK) || !ok && e != api.EFORM {
			t.Fatalf("Parse(%q): %+v %d, want %+v %v", s, got, e, want, ok)
		}
	})
}

func TestText(t *testing.T) {
	for _, c := range []struct {
		v    api.Version
		want string
	}{
		{api.Version{Upstream: "1", Revision: "0"}, "1"},
		{api.Version{Upstream: "1", Revision: "2"}, "1-2"},
		{api.Version{Epoch: 3, Upstream: "1", Revision: "0"}, "3:1"},
		{api.Version{Epoch: 999999999, Upstream: "1", Revision: "2"}, "999999999:1-2"},
		{api.Version{Upstream: "1:2", Revision: "0"}, "0:1:2"},
		{api.Version{Upstream: "1-2", Revision: "0"}, "1-2-0"},
		{api.Version{Upstream: "1:2-3", Revision: "0"}, "0:1:2-3-0"},
		{api.Version{Upstream: "1", Revision: "00"}, "1-00"},
		{api.Version{Epoch: -1, Upstream: "1", Revision: "0"}, "1"},
		{api.Version{Epoch: math.MinInt, Upstream: "1:2", Revision: "0"}, "0:1:2"},
		// It is no matter whether a version may be.
		{api.Version{}, "-"},
		{api.Version{Epoch: -5, Upstream: "a b", Revision: "_"}, "a b-_"},
		{api.Version{Epoch: 1234567890123, Upstream: "", Revision: "0"}, "1234567890123:"},
	} {
		if got := Text(c.v); got != c.want {
			t.Errorf("Text(%+v): %q, want %q", c.v, got, c.want)
		}
	}
}

// P5.2

// ordered holds Order to a result both ways round.
func ordered(t *testing.T, a, b string, want int) {
	t.Helper()
	if got := Order(a, b); got != want {
		t.Errorf("Order(%q, %q): %d, want %d", a, b, got, want)
	}
	if got := Order(b, a); got != -want {
		t.Errorf("Order(%q, %q): %d, want %d", b, a, got, -want)
	}
}

func TestOrder(t *testing.T) {
	for _, c := range []struct {
		a, b string
		want int
	}{
		{"", "", 0},
		{"1.9", "1.10", -1},
		{"1.0~rc1", "1.0", -1},
		{"1.0", "1.0-1", -1},
		{"1.0a", "1.0", 1},
		{"1.0a", "1.0+", -1},
		// Zeros ahead, and no digits for 0.
		{"0", "", 0},
		{"1", "01", 0},
		{"a", "a0", 0},
		{"a000b", "a0b", 0},
		{"a0b", "ab", -1},
		{"1a01", "01a1", 0},
		{"a00", "a1", -1},
		// The end and a digit weigh the same; ~ is less, all others are more.
		{"~", "", -1},
		{"~", "0", -1},
		{"~", "9", -1},
		{"~~", "~", -1},
		{"~~", "~0", -1},
		{"~", "~1", -1},
		{"~a", "~", 1},
		{"1~", "1", -1},
		{"1~", "1~~", 1},
		{"a~", "a", -1},
		{"a~1", "a1", -1},
		{"~", "a", -1},
		{"~", "\x00", -1},
		{"a", "", 1},
		{"a", "9", 1},
		{"\x00", "", 1},
		{"\x00", "9", 1},
		// Letters before all others, each by its byte.
		{"A", "Z", -1},
		{"Z", "a", -1},
		{"a", "z", -1},
		{"z", "\x00", -1},
		{"z", " ", -1},
		{"z", "+", -1},
		{"+", "-", -1},
		{"-", ".", -1},
		{".", ":", -1},
		{":", "\xff", -1},
		{"z", "\xff", -1},
		{"\x7f", "\x80", -1},
		// The first difference decides: of bytes, then of numbers.
		{"a9", "b1", -1},
		{"a9b", "a10a", -1},
		{"a1b2", "a1b10", -1},
		{"1a", "2", -1},
		{"12", "3", 1},
		{"3a", "12", -1},
		{"12a", "13", -1},
		{"19", "21", -1},
		{"100", "99", 1},
		{"aa1", "a1a", 1},
	} {
		ordered(t, c.a, c.b, c.want)
	}
}

// Numbers of any length: longer than any kind of integer.
func TestOrderLongNumbers(t *testing.T) {
	for _, n := range []int{18, 19, 20, 21, 39, 1000, 1000000} {
		nines, zeros := strings.Repeat("9", n), strings.Repeat("0", n)
		ordered(t, nines, "1"+zeros, -1)
		ordered(t, nines+"8", nines+"9", -1)
		ordered(t, zeros+"1", "2", -1)
		ordered(t, zeros+"2", "2", 0)
		ordered(t, zeros, "", 0)
		ordered(t, "8"+nines, "9"+zeros, -1)
		ordered(t, nines+"a", nines, 1)
	}
	same := strings.Repeat("a1.~", 1000000)
	ordered(t, same, same, 0)
	ordered(t, same+"1", same+"2", -1)
}

// part is bytes ahead of a digit, and the number after them.
type part struct {
	weights []int
	number  *big.Int
}

var cutting = regexp.MustCompile(`(?s)^([^0-9]*)([0-9]*)(.*)$`)

// parts is a text as the document reads it.
func parts(s string) []part {
	var out []part
	for s != "" {
		m := cutting.FindStringSubmatch(s)
		number, _ := new(big.Int).SetString("0"+m[2], 10)
		out = append(out, part{append(weights(m[1]), 0), number})
		s = m[3]
	}
	return out
}

func weights(s string) []int {
	var out []int
	for _, c := range []byte(s) {
		switch {
		case c == '~':
			out = append(out, -1)
		case strings.IndexByte("ABCDEFGHIJKLMNOPQRSTUVWXYZabcdefghijklmnopqrstuvwxyz", c) >= 0:
			out = append(out, int(c))
		default:
			out = append(out, 1000+int(c))
		}
	}
	return out
}

// modelOrder compares parts; those that one text has more of stand against
// parts of nothing.
func modelOrder(a, b []part) int {
	none := part{[]int{0}, new(big.Int)}
	for i := range max(len(a), len(b)) {
		x, y := none, none
		if i < len(a) {
			x = a[i]
		}
		if i < len(b) {
			y = b[i]
		}
		if c := cmp.Or(slices.Compare(x.weights, y.weights), x.number.Cmp(y.number)); c != 0 {
			return c
		}
	}
	return 0
}

func TestOrderAll(t *testing.T) {
	var all []string
	each("~019aZ.", 3, "", func(s string) { all = append(all, s) })
	r := rand.New(rand.NewPCG(5, 2))
	for range 300 {
		all = append(all, drawn(r, "~~0011289abZ.-+:\x00\xff", 12))
	}
	cut := make([][]part, len(all))
	for i, s := range all {
		cut[i] = parts(s)
	}
	for i, a := range all {
		for j, b := range all {
			if got, want := Order(a, b), modelOrder(cut[i], cut[j]); got != want {
				t.Fatalf("Order(%q, %q): %d, want %d", a, b, got, want)
			}
		}
	}
}

// P5.3

// rising are versions each of which is less than the next one.
var rising = []string{"~", "0", "1~~", "1~rc1-1", "1~rc1-2", "1", "1-1~x", "1-1", "1-1.1", "1a", "1-1-0", "1.2", "1.10", "10", "1:0~", "1:1", "2:0", "10:0"}

func TestCompare(t *testing.T) {
	for i, a := range rising {
		for j, b := range rising {
			if got := Compare(a, b); got != cmp.Compare(i, j) {
				t.Errorf("Compare(%q, %q): %d", a, b, got)
			}
		}
	}
	for _, c := range []struct {
		a, b string
		want int
	}{
		{"2:1", "10", 1},
		{"0:1", "1", 0},
		{"00:1-0", "1", 0},
		{"1-00", "1", 0},
		{"1.0", "1.00", 0},
		{"1-1", "1-01", 0},
		{"1-1", "1-2", -1},
		{"1-9", "1-10", -1},
		{"2-1", "1-2", 1},
		{"1:1", "2:0", -1},
		{"1:2-1", "1:1-2", 1},
		// The upstream versions alone are compared first: 1 and 1+0.
		{"1-1", "1+0", -1},
		// One with an error has the epoch 0, and is its upstream version.
		{"", "0", 0},
		{"", "", 0},
		{"1-", "1", 1},
		{"1-", "1-1", 1},
		{"a:1", "1:0", -1},
		{"a:1", "9", 1},
		{"1:", "1:0", -1},
		{"1:", "1", 1},
		{"9999999999:1", "1:0", -1},
		{strings.Repeat("1", 81), strings.Repeat("1", 80), 1},
		{"1:" + strings.Repeat("1", 79), "1:0", -1},
		{"1_-5", "1_-10", -1},
		{"1_-5", "1_", 1},
	} {
		if got := Compare(c.a, c.b); got != c.want {
			t.Errorf("Compare(%q, %q): %d, want %d", c.a, c.b, got, c.want)
		}
		if got := Compare(c.b, c.a); got != -c.want {
			t.Errorf("Compare(%q, %q): %d, want %d", c.b, c.a, got, -c.want)
		}
	}
}

func TestHolds(t *testing.T) {
	texts := append([]string{"0:1", "1-0", "01", "", "a", "1-"}, rising...)
	for _, a := range texts {
		for _, b := range texts {
			c := Compare(a, b)
			for _, x := range []struct {
				op   string
				want bool
			}{{"<<", c < 0}, {"<=", c <= 0}, {"=", c == 0}, {">=", c >= 0}, {">>", c > 0}, {"", true}} {
				if got := Holds(a, x.op, b); got != x.want {
					t.Errorf("Holds(%q, %q, %q): %v", a, x.op, b, got)
				}
			}
			for _, op := range []string{"<", ">", "==", "!=", "<>", "=<", "=>", " ", "= ", " =", "<<<", "a", "\x00"} {
				if Holds(a, op, b) {
					t.Errorf("Holds(%q, %q, %q)", a, op, b)
				}
			}
		}
	}
	if !Holds("1", ">=", "0:01-0") || !Holds("1", "<=", "0:01-0") || Holds("1", "<<", "1") || Holds("1", ">>", "1") {
		t.Error("equal versions")
	}
}

func TestBest(t *testing.T) {
	for _, c := range []struct {
		l    []string
		want int
	}{
		{nil, -1},
		{[]string{}, -1},
		{[]string{""}, 0},
		{[]string{"1"}, 0},
		{[]string{"1", "2", "10", "9"}, 2},
		{[]string{"10", "2", "1"}, 0},
		{[]string{"1", "1-0", "0:1", "01"}, 0},
		{[]string{"0", "1-0", "0:1", "01", "~"}, 1},
		{[]string{"1~", "1", "1~~"}, 1},
		{[]string{"9", "1:0", "a:9"}, 1},
		{[]string{"1", "?", "2"}, 1},
	} {
		if got := Best(c.l); got != c.want {
			t.Errorf("Best(%q): %d, want %d", c.l, got, c.want)
		}
	}
	for i := range rising {
		if got := Best(rising[:i+1]); got != i {
			t.Errorf("Best of %d rising: %d", i+1, got)
		}
	}
	l := []string{"2", "1", "3", "9"}
	if Best(l[:2]); !slices.Equal(l, []string{"2", "1", "3", "9"}) {
		t.Errorf("changed: %q", l)
	}
}

// P5.4

// total holds an order to what makes it total.
func total(t *testing.T, l []string, order func(a, b string) int) {
	t.Helper()
	signs := make([][]int, len(l))
	for i, a := range l {
		for _, b := range l {
			signs[i] = append(signs[i], order(a, b))
		}
	}
	for i := range l {
		if signs[i][i] != 0 {
			t.Fatalf("%q: %d against itself", l[i], signs[i][i])
		}
		for j := range l {
			if signs[i][j] != -signs[j][i] || signs[i][j] < -1 || signs[i][j] > 1 {
				t.Fatalf("%q, %q: %d %d", l[i], l[j], signs[i][j], signs[j][i])
			}
			for k := range l {
				if signs[i][j] <= 0 && signs[j][k] <= 0 && signs[i][k] > 0 {
					t.Fatalf("%q, %q, %q: not transitive", l[i], l[j], l[k])
				}
			}
		}
	}
}

func TestTotalOrder(t *testing.T) {
	var all []string
	each("~01a.", 3, "", func(s string) { all = append(all, s) })
	total(t, all, Order)
	all = slices.Clone(rising)
	each("01~-:", 3, "", func(s string) { all = append(all, s) })
	r := rand.New(rand.NewPCG(5, 4))
	for range 100 {
		all = append(all, drawn(r, "0019~:-.ab\xff", 10))
	}
	total(t, all, Compare)
}

// P5.5

func TestTextIsParsedTheSame(t *testing.T) {
	count := 0
	same := func(s string) {
		v, e := Parse(s)
		if e != api.OK {
			return
		}
		count++
		text := Text(v)
		if again, e := Parse(text); again != v || e != api.OK {
			t.Fatalf("Parse(%q): %+v %d, want %+v", text, again, e, v)
		}
		if Compare(s, text) != 0 || Text(v) != text || len(text) > len(s) {
			t.Fatalf("%q: %q", s, text)
		}
	}
	each("01a~:-", 7, "", same)
	r := rand.New(rand.NewPCG(5, 5))
	for range 20000 {
		same("1" + drawn(r, "0123456789abXY.+~", 40) + drawn(r, "-:12", 3) + drawn(r, "0123456789abXY.+~-", 36))
	}
	for _, s := range append([]string{"999999999:1", "000000000:1:2-0", "0:" + strings.Repeat("1", 78), strings.Repeat("1-0", 26)}, rising...) {
		same(s)
	}
	if count < 30000 {
		t.Fatalf("only %d versions", count)
	}
}
