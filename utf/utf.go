// Package utf is layer 1: it encodes runes as bytes (see shared/doc/01-utf.md).
package utf

import (
	"iter"

	"rhizome/api"
)

// The last rune of each form, by the number of its bytes.
const (
	last1 = 127
	last2 = 2047
	last3 = 65535
	last4 = 1114111
)

// The numbers from gapFirst to gapLast are no runes.
const (
	gapFirst = 55296
	gapLast  = 57343
)

// What a byte has added to its bits: the first one of a form of so many bytes, and each further one.
const (
	mark2   = 192
	mark3   = 224
	mark4   = 240
	markEnd = 248
	further = 128
)

// group is how many numbers the six bits of a further byte can tell apart.
const group = 64

// Put returns the bytes of a rune.
func Put(r int) ([]byte, api.Errno) {
	return add(nil, r)
}

// Get returns the rune that s begins with, and how many bytes it has.
func Get(s string) (int, int, api.Errno) {
	r, n := first(s)
	if n == 0 || n > len(s) {
		goto noRune
	}
	for i := 1; i < n; i++ {
		if s[i] < further || s[i] >= further+group {
			goto noRune
		}
		r = r*group + int(s[i]-further)
	}
	// A form longer than need be gives a number whose own form is shorter.
	if size(r) != n {
		goto noRune
	}
	return r, n, api.OK

noRune:
	return 0, 0, api.ErrText
}

// Valid reports whether s is well-formed.
func Valid(s string) bool {
	end := 0
	for i, r := range Runes(s) {
		end = i + size(r)
	}
	return end == len(s)
}

// Len returns how many runes s has before the first position where none is.
func Len(s string) int {
	n := 0
	for range Runes(s) {
		n++
	}
	return n
}

// Runes iterates over the positions of the runes of s and the runes, up to the first position where none is.
func Runes(s string) iter.Seq2[int, int] {
	return func(yield func(int, int) bool) {
		for at := 0; at < len(s); {
			r, n, e := Get(s[at:])
			if e != api.OK || !yield(at, r) {
				return
			}
			at += n
		}
	}
}

// Of returns the bytes of all runes of l, one after another.
func Of(l []int) (string, api.Errno) {
	b := make([]byte, 0, len(l))
	for _, r := range l {
		var e api.Errno
		if b, e = add(b, r); e != api.OK {
			return "", e
		}
	}
	return string(b), api.OK
}

// add appends the bytes of the rune r to b.
func add(b []byte, r int) ([]byte, api.Errno) {
	var form [4]byte
	n := size(r)
	if n == 0 {
		goto noRune
	}
	// Each longer form is a shorter one's with one more group of bits behind it.
	switch n {
	case 4:
		form[3], r = further+byte(r%group), r/group
		fallthrough
	case 3:
		form[2], r = further+byte(r%group), r/group
		fallthrough
	case 2:
		form[1], r = further+byte(r%group), r/group
		fallthrough
	case 1:
		form[0] = mark(n) + byte(r)
	}
	return append(b, form[:n]...), api.OK

noRune:
	return nil, api.ErrArg
}

// size is how many bytes the rune r has; 0 if r is not a rune.
func size(r int) int {
	switch {
	case r < 0 || r > last4 || r >= gapFirst && r <= gapLast:
		return 0
	case r <= last1:
		return 1
	case r <= last2:
		return 2
	case r <= last3:
		return 3
	}
	return 4
}

// mark is what the first of n bytes has added to its bits.
func mark(n int) byte {
	switch n {
	case 2:
		return mark2
	case 3:
		return mark3
	case 4:
		return mark4
	}
	return 0
}

// first returns the bits that the first byte of s carries, and how many bytes it announces: 0 if no rune begins with it.
func first(s string) (int, int) {
	if s == "" {
		return 0, 0
	}
	c := int(s[0])
	switch {
	case c <= last1:
		return c, 1
	case c < mark2:
		return 0, 0
	case c < mark3:
		return c - mark2, 2
	case c < mark4:
		return c - mark3, 3
	case c < markEnd:
		return c - mark4, 4
	}
	return 0, 0
}
