// Package bits is modes, ids and numbers, as bits and as texts.
package bits

import (
	"strconv"
	"strings"

	"cellarer/api"
)

const (
	modeBits = 12
	idBits   = 26
	maxMode  = 1<<modeBits - 1
	rwxMask  = 1<<9 - 1

	octalDigits = 4
	hexDigits   = 16

	sumStart = 14695981039346656037
	sumPrime = 1099511628211
)

// letters has a row for each of the nine places: first the letter without its
// bit, then with it, and where one of the three highest bits shares the place,
// the same two with that bit.
var letters = [9]string{
	"-r", "-w", "-xSs",
	"-r", "-w", "-xSs",
	"-r", "-w", "-xTt",
}

// Right tells whether a meta may be.
func Right(m api.Meta) bool {
	return inRange(m.Mode, maxMode) && inRange(m.Uid, api.MaxId) && inRange(m.Gid, api.MaxId)
}

func inRange(n, most int) bool { return 0 <= n && n <= most }

// Octal is a mode's four octal digits.
func Octal(mode int) string {
	return padded(uint64(mode&maxMode), 8, octalDigits)
}

// ParseOctal is the number of four octal digits.
func ParseOctal(s string) (int, api.Errno) {
	n, e := parseDigits(s, 8, octalDigits)
	return int(n), e
}

// Pack is a meta as 64 bits.
func Pack(m api.Meta) uint64 {
	x := uint64(m.Mode & maxMode)
	x = x<<idBits | uint64(m.Uid&api.MaxId)
	return x<<idBits | uint64(m.Gid&api.MaxId)
}

// Unpack is the meta of 64 bits.
func Unpack(x uint64) api.Meta {
	return api.Meta{
		Mode: int(x >> (2 * idBits)),
		Uid:  int(x >> idBits & api.MaxId),
		Gid:  int(x & api.MaxId),
	}
}

// Rwx is a mode's nine letters.
func Rwx(mode int) string {
	out := make([]byte, len(letters))
	for i, row := range letters {
		k := mode >> ownShift(i) & 1
		if len(row) > 2 {
			k |= mode >> highShift(i) & 1 << 1
		}
		out[i] = row[k]
	}
	return string(out)
}

// ParseRwx is the mode of nine letters.
func ParseRwx(s string) (int, api.Errno) {
	if len(s) != len(letters) {
		return 0, api.EFORM
	}
	mode := 0
	for i, row := range letters {
		k := strings.IndexByte(row, s[i])
		if k < 0 {
			return 0, api.EFORM
		}
		mode |= k&1<<ownShift(i) | k>>1<<highShift(i)
	}
	return mode, api.OK
}

// ownShift is where the bit of the i-th place lies.
func ownShift(i int) int { return 8 - i }

// highShift is where the bit that changes the last letter of the i-th place's
// class lies.
func highShift(i int) int { return 11 - i/3 }

// Umask is a mode without a mask's bits.
func Umask(mode, mask int) int {
	return mode & maxMode &^ (mask & rwxMask)
}

// May tells whether one may do all that is wanted.
func May(m api.Meta, uid, gid, want int) bool {
	want &= 7
	if uid == 0 {
		return want&1 == 0 || m.Mode&0o111 != 0
	}
	have := m.Mode
	if uid == m.Uid {
		have >>= 6
	} else if gid == m.Gid {
		have >>= 3
	}
	return have&want == want
}

// Hex is sixteen digits.
func Hex(x uint64) string { return padded(x, 16, hexDigits) }

// ParseHex is the number of sixteen digits.
func ParseHex(s string) (uint64, api.Errno) {
	return parseDigits(s, 16, hexDigits)
}

// padded is a number in a base, with zeros ahead up to a width.
func padded(x uint64, base, width int) string {
	s := strconv.FormatUint(x, base)
	return strings.Repeat("0", width-len(s)) + s
}

// parseDigits takes only what padded gives: strconv alone would also take
// capital letters.
func parseDigits(s string, base, width int) (uint64, api.Errno) {
	if len(s) != width {
		return 0, api.EFORM
	}
	x, err := strconv.ParseUint(s, base, 64)
	if err != nil || padded(x, base, width) != s {
		return 0, api.EFORM
	}
	return x, api.OK
}

// Sum is a text's sum.
func Sum(s string) string {
	h := uint64(sumStart)
	for i := range len(s) {
		h = (h ^ uint64(s[i])) * sumPrime
	}
	return Hex(h)
}

// Text is a number's digits.
func Text(n int) string { return strconv.Itoa(n) }

// Int is the number of digits.
func Int(s string) (int, api.Errno) {
	n, err := strconv.Atoi(s)
	// strconv also takes a plus, zeros ahead, and -0.
	if err != nil || Text(n) != s {
		return 0, api.EFORM
	}
	return n, api.OK
}
