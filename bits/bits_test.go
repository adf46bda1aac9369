package bits

import (
	"fmt"
	"math"
	"strconv"
	"testing"

	"cellarer/api"
)

// numbers are at, beside and beyond the edges of all fields.
var numbers = []int{
	math.MinInt, math.MinInt + 1, -4097, -4096, -513, -512, -2, -1, 0, 1, 2, 7, 8, 9, 10, 63, 64, 100,
	493, 511, 512, 1023, 1024, 2048, 2541, 4095, 4096, 4097, 8191,
	api.MaxId - 1, api.MaxId, api.MaxId + 1, 2*api.MaxId + 1, math.MaxInt - 1, math.MaxInt,
}

// P1.1

func TestRight(t *testing.T) {
	for _, n := range numbers {
		if got, want := Right(api.Meta{Mode: n}), 0 <= n && n <= 4095; got != want {
			t.Errorf("mode %d: %v", n, got)
		}
		want := 0 <= n && n <= 67108863
		if got := Right(api.Meta{Uid: n}); got != want {
			t.Errorf("uid %d: %v", n, got)
		}
		if got := Right(api.Meta{Gid: n}); got != want {
			t.Errorf("gid %d: %v", n, got)
		}
	}
	if !Right(api.Meta{Mode: 4095, Uid: api.MaxId, Gid: api.MaxId}) {
		t.Error("all at their limits")
	}
}

func TestOctal(t *testing.T) {
	for mode := range 4096 {
		want := fmt.Sprintf("%04o", mode)
		for _, above := range []int{0, 4096, 1 << 20, -4096, math.MinInt} {
			if got := Octal(mode + above); got != want {
				t.Fatalf("Octal(%d): %q, want %q", mode+above, got, want)
			}
		}
		if got, e := ParseOctal(want); got != mode || e != api.OK {
			t.Fatalf("ParseOctal(%q): %d %d", want, got, e)
		}
	}
}

func TestParseOctalRefuses(t *testing.T) {
	for _, s := range []string{
		"", "0", "755", "00755", "0000755", "0758", "0759", "8000", "+755", "-755", "-001", " 755", "755 ",
		"0755\n", "0x1f", "0o75", "0_75", "07a5", "07/5", "07:5", "٠٧٥٥", "07\x005",
	} {
		if n, e := ParseOctal(s); n != 0 || e != api.EFORM {
			t.Errorf("ParseOctal(%q): %d %d", s, n, e)
		}
	}
}

func TestPack(t *testing.T) {
	for _, c := range []struct {
		m    api.Meta
		want uint64
	}{
		{api.Meta{}, 0},
		{api.Meta{Mode: 1, Uid: 2, Gid: 3}, 0x0010000008000003},
		{api.Meta{Mode: 4095}, 0xfff0000000000000},
		{api.Meta{Uid: api.MaxId}, 0x000ffffffc000000},
		{api.Meta{Gid: api.MaxId}, 0x0000000003ffffff},
		{api.Meta{Mode: 4096, Uid: api.MaxId + 1, Gid: api.MaxId + 1}, 0},
		{api.Meta{Mode: 4097, Uid: api.MaxId + 3, Gid: api.MaxId + 4}, 0x0010000008000003},
		{api.Meta{Mode: -1, Uid: -1, Gid: -1}, math.MaxUint64},
		{api.Meta{Mode: -4095, Uid: math.MinInt + 2, Gid: -api.MaxId + 2}, 0x0010000008000003},
	} {
		if got := Pack(c.m); got != c.want {
			t.Errorf("Pack(%v): %016x, want %016x", c.m, got, c.want)
		}
	}
	if got, want := Unpack(0x0010000008000003), (api.Meta{Mode: 1, Uid: 2, Gid: 3}); got != want {
		t.Errorf("Unpack: %v, want %v", got, want)
	}
	if got, want := Unpack(math.MaxUint64), (api.Meta{Mode: 4095, Uid: api.MaxId, Gid: api.MaxId}); got != want {
		t.Errorf("Unpack: %v, want %v", got, want)
	}
}

// P1.2

// spelled is a mode's letters, as the document tells them one by one.
func spelled(mode int) string {
	out := []byte("---------")
	for i := range 9 {
		if mode&(256>>i) != 0 {
			out[i] = "rwx"[i%3]
		}
	}
	for _, c := range []struct {
		bit, place  int
		with, alone byte
	}{{2048, 2, 's', 'S'}, {1024, 5, 's', 'S'}, {512, 8, 't', 'T'}} {
		if mode&c.bit == 0 {
			continue
		}
		if out[c.place] == '-' {
			out[c.place] = c.alone
		} else {
			out[c.place] = c.with
		}
	}
	return string(out)
}

func TestRwx(t *testing.T) {
	for mode := range 4096 {
		want := spelled(mode)
		for _, above := range []int{0, 4096, -4096, math.MinInt} {
			if got := Rwx(mode + above); got != want {
				t.Fatalf("Rwx(%d): %q, want %q", mode+above, got, want)
			}
		}
		if got, e := ParseRwx(want); got != mode || e != api.OK {
			t.Fatalf("ParseRwx(%q): %d %d", want, got, e)
		}
	}
	for _, c := range []struct {
		mode int
		want string
	}{
		{0, "---------"}, {493, "rwxr-xr-x"}, {420, "rw-r--r--"}, {2541, "rwsr-xr-x"},
		{512, "--------T"}, {1024, "-----S---"}, {2048, "--S------"}, {4095, "rwsrwsrwt"}, {0o7666, "rwSrwSrwT"},
	} {
		if got := Rwx(c.mode); got != c.want {
			t.Errorf("Rwx(%d): %q, want %q", c.mode, got, c.want)
		}
	}
}

// Any other byte at any place makes the text of another mode, or of none.
func TestParseRwxRefuses(t *testing.T) {
	modes := map[string]int{}
	for mode := range 4096 {
		modes[spelled(mode)] = mode
	}
	for mode := 0; mode < 4096; mode += 13 {
		for place := range 9 {
			for c := range 256 {
				s := []byte(spelled(mode))
				s[place] = byte(c)
				want, ok := modes[string(s)]
				got, e := ParseRwx(string(s))
				if got != want || (e == api.OK) != ok || !ok && e != api.EFORM {
					t.Fatalf("ParseRwx(%q): %d %d", s, got, e)
				}
			}
		}
	}
	for _, s := range []string{"", "r", "rwxr-xr-", "rwxr-xr-x-", "-rwxr-xr-x", "rwxr-xr-x ", "RWXR-XR-X", "0755", "ſwxr-xr-"} {
		if n, e := ParseRwx(s); n != 0 || e != api.EFORM {
			t.Errorf("ParseRwx(%q): %d %d", s, n, e)
		}
	}
}

func TestUmask(t *testing.T) {
	for _, c := range []struct{ mode, mask, want int }{
		{0o777, 0o22, 0o755},
		{0o666, 0o77, 0o600},
		{0o4777, 0o22, 0o4755},
		{0o7777, 0, 0o7777},
		{0o7777, 0o777, 0o7000},
		{0o7777, 0o7777, 0o7000},
		{0o7777, 0o7000, 0o7777},
		{0o7777, -1, 0o7000},
		{0o17777, 0, 0o7777},
		{-1, 0, 0o7777},
		{-1, 0o22, 0o7755},
		{math.MinInt, 0, 0},
		{0, 0o777, 0},
		{0o22, 0o22, 0},
	} {
		if got := Umask(c.mode, c.mask); got != c.want {
			t.Errorf("Umask(%o, %o): %o, want %o", c.mode, c.mask, got, c.want)
		}
	}
}

// P1.3

func TestMay(t *testing.T) {
	who := func(uid, gid int) int {
		switch {
		case uid == 5:
			return 6
		case gid == 7:
			return 3
		}
		return 0
	}
	for mode := range 4096 {
		m := api.Meta{Mode: mode, Uid: 5, Gid: 7}
		for _, uid := range []int{5, 7, 9, -1} {
			for _, gid := range []int{0, 5, 7, 9} {
				for want := range 8 {
					have := mode >> who(uid, gid)
					if got := May(m, uid, gid, want); got != (have&want == want) {
						t.Fatalf("May(%o, %d, %d, %d): %v", mode, uid, gid, want, got)
					}
				}
			}
		}
	}
}

func TestMayRoot(t *testing.T) {
	for mode := range 4096 {
		for _, m := range []api.Meta{{Mode: mode}, {Mode: mode, Uid: 5, Gid: 7}} {
			for want := range 8 {
				can := want&1 == 0 || mode&0o100 != 0 || mode&0o10 != 0 || mode&1 != 0
				if got := May(m, 0, 9, want); got != can {
					t.Fatalf("May(%v, 0, 9, %d): %v", m, want, got)
				}
			}
		}
	}
}

func TestMayEdges(t *testing.T) {
	m := api.Meta{Mode: 0o640, Uid: 1, Gid: 2}
	for _, c := range []struct {
		m              api.Meta
		uid, gid, want int
		can            bool
	}{
		{m, 1, 2, 6, true},
		{m, 9, 2, 4, true},
		{m, 9, 2, 2, false},
		{m, 9, 9, 4, false},
		{m, 9, 9, 0, true},
		{m, 9, 9, 8, true},           // only the lowest three bits are wanted
		{m, 9, 9, math.MinInt, true}, // likewise
		{m, 1, 9, -2, true},          // reads and writes
		{m, 1, 9, -1, false},
		{m, 0, 0, 9, false},
		{api.Meta{Mode: 0o077, Uid: 1, Gid: 2}, 1, 2, 1, false},  // the owner's bits alone apply
		{api.Meta{Mode: 0o707, Uid: 1, Gid: 2}, 9, 2, 1, false},  // the group's bits alone apply
		{api.Meta{Mode: 0o7000, Uid: 1, Gid: 2}, 1, 2, 1, false}, // the highest three are no one's
		{api.Meta{Mode: 0o7000, Uid: 1, Gid: 2}, 0, 0, 1, false},
		{api.Meta{Mode: 0o001, Uid: 1, Gid: 2}, 0, 0, 7, true},
		{api.Meta{Mode: -1, Uid: 1, Gid: 2}, 1, 9, 7, true},
		{api.Meta{Mode: 0o070, Uid: 5, Gid: 0}, 9, 0, 7, true}, // the gid 0 is a group like others
		{api.Meta{Mode: 0o007, Uid: 5, Gid: 0}, 9, 0, 1, false},
	} {
		if got := May(c.m, c.uid, c.gid, c.want); got != c.can {
			t.Errorf("May(%v, %d, %d, %d): %v", c.m, c.uid, c.gid, c.want, got)
		}
	}
}

// P1.4

func TestHex(t *testing.T) {
	for _, c := range []struct {
		x    uint64
		want string
	}{
		{0, "0000000000000000"},
		{10, "000000000000000a"},
		{0x0123456789abcdef, "0123456789abcdef"},
		{1 << 63, "8000000000000000"},
		{math.MaxUint64, "ffffffffffffffff"},
	} {
		if got := Hex(c.x); got != c.want {
			t.Errorf("Hex(%d): %q", c.x, got)
		}
		if got, e := ParseHex(c.want); got != c.x || e != api.OK {
			t.Errorf("ParseHex(%q): %d %d", c.want, got, e)
		}
	}
}

// Each place takes the sixteen digits and nothing else.
func TestParseHexRefuses(t *testing.T) {
	for place := range 16 {
		for c := range 256 {
			s := []byte("0123456789abcdef")
			s[place] = byte(c)
			ok := '0' <= c && c <= '9' || 'a' <= c && c <= 'f'
			x, e := ParseHex(string(s))
			if ok && (e != api.OK || Hex(x) != string(s)) || !ok && (e != api.EFORM || x != 0) {
				t.Fatalf("ParseHex(%q): %d %d", s, x, e)
			}
		}
	}
	for _, s := range []string{"", "0", "123456789abcdef", "00123456789abcdef", "0x23456789abcdef", "-123456789abcdef", "10000000000000000"} {
		if x, e := ParseHex(s); x != 0 || e != api.EFORM {
			t.Errorf("ParseHex(%q): %d %d", s, x, e)
		}
	}
}

func TestSum(t *testing.T) {
	for _, c := range []struct{ s, want string }{
		{"", "cbf29ce484222325"},
		{"a", "af63dc4c8601ec8c"},
		{"foobar", "85944171f73967e8"},
		{"\x00", "af63bd4c8601b7df"},
		{"\xff", "af64724c8602eb6e"},
	} {
		if got := Sum(c.s); got != c.want {
			t.Errorf("Sum(%q): %s, want %s", c.s, got, c.want)
		}
	}
	if Sum("ab") == Sum("ba") {
		t.Error("the order of the bytes is of no matter")
	}
}

func TestInt(t *testing.T) {
	for _, c := range []struct {
		n    int
		want string
	}{{0, "0"}, {7, "7"}, {-7, "-7"}, {10, "10"}, {-4096, "-4096"}, {2147483647, "2147483647"}} {
		if got := Text(c.n); got != c.want {
			t.Errorf("Text(%d): %q", c.n, got)
		}
	}
	for _, n := range numbers {
		s := fmt.Sprint(n)
		if got := Text(n); got != s {
			t.Errorf("Text(%d): %q", n, got)
		}
		if got, e := Int(s); got != n || e != api.OK {
			t.Errorf("Int(%q): %d %d", s, got, e)
		}
	}
}

func TestIntRefuses(t *testing.T) {
	beyond := strconv.FormatUint(uint64(math.MaxInt)+1, 10)
	for _, s := range []string{
		"", "-", "+", "+7", "07", "00", "-0", "-07", "--7", "7-", " 7", "7 ", "7\n", "1_000", "0x7", "0b1", "1e3", "7.0",
		"a", "٧", "7\x00", beyond, "-1" + beyond, "99999999999999999999999999",
	} {
		if n, e := Int(s); n != 0 || e != api.EFORM {
			t.Errorf("Int(%q): %d %d", s, n, e)
		}
	}
}

// P1.5

func TestWrittenIsReadAgain(t *testing.T) {
	for _, mode := range numbers {
		if n, e := ParseOctal(Octal(mode)); n != mode&4095 || e != api.OK {
			t.Errorf("octal of %d: %d %d", mode, n, e)
		}
		if n, e := ParseRwx(Rwx(mode)); n != mode&4095 || e != api.OK {
			t.Errorf("letters of %d: %d %d", mode, n, e)
		}
		for _, id := range numbers {
			m := api.Meta{Mode: mode, Uid: id, Gid: mode}
			got := Unpack(Pack(m))
			if !Right(got) || Right(m) && got != m || Pack(got) != Pack(m) {
				t.Errorf("Unpack(Pack(%v)): %v", m, got)
			}
		}
	}
	x := uint64(1)
	for range 1000 {
		x = x*6364136223846793005 + 1442695040888963407
		if Pack(Unpack(x)) != x {
			t.Fatalf("Pack(Unpack(%x)): %x", x, Pack(Unpack(x)))
		}
		if y, e := ParseHex(Hex(x)); y != x || e != api.OK {
			t.Fatalf("hex of %x: %x %d", x, y, e)
		}
		if n, e := Int(Text(int(x))); n != int(x) || e != api.OK {
			t.Fatalf("digits of %d: %d %d", int(x), n, e)
		}
	}
}

// What is read at all is written as it was.
func TestReadIsWrittenTheSameWay(t *testing.T) {
	each("01789afA-+x ", 4, "", func(s string) {
		if n, e := ParseOctal(s); e == api.OK && Octal(n) != s {
			t.Errorf("octal %q", s)
		}
		if n, e := Int(s); e == api.OK && Text(n) != s {
			t.Errorf("int %q", s)
		}
		long := s + "00000000" + s
		if x, e := ParseHex(long); e == api.OK && Hex(x) != long {
			t.Errorf("hex %q", long)
		}
	})
	each("rwxsStT-", 3, "", func(s string) {
		long := s + "r-S" + s
		if n, e := ParseRwx(long); e == api.OK && Rwx(n) != long {
			t.Errorf("letters %q", long)
		}
	})
}

// each gives every text that begins with s and has at most n of the letters
// after it.
func each(letters string, n int, s string, f func(string)) {
	f(s)
	for i := 0; n > 0 && i < len(letters); i++ {
		each(letters, n-1, s+letters[i:i+1], f)
	}
}
