// Package path is paths.
package path

import (
	"slices"
	"strings"

	"cellarer/api"
)

const (
	slash = "/"

	// Of the bytes of a path.
	leastByte = 33
	mostByte  = 126
)

// Parts is what stands between slashes.
func Parts(s string) []string {
	return selected(strings.Split(s, slash), func(part string) bool { return part != "" })
}

// selected is those of a list, in order, that keep says yes to.
func selected[T any](l []T, keep func(T) bool) []T {
	var out []T
	for _, x := range l {
		if keep(x) {
			out = append(out, x)
		}
	}
	return out
}

// Clean is a path in its one form.
func Clean(s string) (string, api.Errno) {
	if !strings.HasPrefix(s, slash) || !printable(s) {
		return "", api.EARG
	}
	clean := slash + strings.Join(resolved(Parts(s)), slash)
	if len(clean) > api.MaxPath {
		return "", api.ELONG
	}
	return clean, api.OK
}

func printable(s string) bool {
	for i := range len(s) {
		if s[i] < leastByte || s[i] > mostByte {
			return false
		}
	}
	return true
}

// resolved is the parts that remain after each . and .. has done its work.
func resolved(parts []string) []string {
	var out []string
	for _, part := range selected(parts, func(part string) bool { return part != "." }) {
		if part != ".." {
			out = append(out, part)
		} else if len(out) > 0 {
			out = out[:len(out)-1]
		}
	}
	return out
}

// Right tells whether a path is in its one form.
func Right(s string) bool {
	clean, e := Clean(s)
	return e == api.OK && clean == s
}

// Name tells whether a text may be a name.
func Name(s string) bool {
	if len(s) < 1 || len(s) > api.MaxName || !alnum(s[0]) {
		return false
	}
	for i := range len(s) {
		if !alnum(s[i]) && strings.IndexByte("+-.", s[i]) < 0 {
			return false
		}
	}
	return true
}

func alnum(c byte) bool {
	return 'a' <= c && c <= 'z' || '0' <= c && c <= '9'
}

// Split is a path's directory, and its last part.
func Split(s string) (string, string) {
	i := strings.LastIndex(s, slash)
	if i < 0 {
		return "", s
	}
	// The root keeps its slash: it has no other name.
	return s[:max(i, 1)], s[i+1:]
}

// Join is a path in a directory.
func Join(dir, name string) string { return ended(dir) + name }

// ended is a directory with a slash at its end.
func ended(dir string) string {
	if strings.HasSuffix(dir, slash) {
		return dir
	}
	return dir + slash
}

// Parents is all directories above a path, from the root on.
func Parents(s string) []string {
	var out []string
	dir := slash
	for _, part := range Parts(s) {
		out = append(out, dir)
		dir = Join(dir, part)
	}
	return out
}

// Under tells whether a path is below a directory.
func Under(dir, s string) bool {
	rest, ok := strings.CutPrefix(s, ended(dir))
	return ok && rest != ""
}

// Sorted is a list's texts, rising, each once.
func Sorted(l []string) []string {
	// A copy: the caller's list stays as it is.
	out := append([]string(nil), l...)
	slices.Sort(out)
	return slices.Compact(out)
}
