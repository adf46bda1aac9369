// Package keyed is lists whose elements have a text each as their key, by which
// they rise. It is shared by the layers that keep such lists.
package keyed

import (
	"slices"

	"cellarer/api"
)

// Itself is the key of a text in a list of texts.
func Itself(s string) string { return s }

// Check is why a list can't be: it is too long, has an element that may not
// be, or does not rise.
func Check[T any](l []T, key func(T) string, right func(T) bool) api.Errno {
	if len(l) > api.MaxList {
		return api.EFULL
	}
	for i, x := range l {
		if !right(x) || i > 0 && key(l[i-1]) >= key(x) {
			return api.EARG
		}
	}
	return api.OK
}

// Find is the first place of a key, or -1.
func Find[T any](l []T, key func(T) string, k string) int {
	return slices.IndexFunc(l, func(x T) bool { return key(x) == k })
}

// Put is a list with an element in the place of the first one of its key, or
// ahead of the first one of a greater key.
func Put[T any](l []T, key func(T) string, x T) []T {
	// A copy: the caller's list stays as it is.
	out := slices.Clone(l)
	if i := Find(l, key, key(x)); i >= 0 {
		out[i] = x
		return out
	}
	i := slices.IndexFunc(l, func(y T) bool { return key(y) > key(x) })
	if i < 0 {
		i = len(l)
	}
	return slices.Insert(out, i, x)
}

// Drop is a list without all elements of a key.
func Drop[T any](l []T, key func(T) string, k string) []T {
	var out []T
	for _, x := range l {
		if key(x) != k {
			out = append(out, x)
		}
	}
	return out
}
