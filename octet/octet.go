// Package octet is layer 1, numbers, hexadecimal digits and byte strings: see shared/doc/01-octet.md.
package octet

import (
	"iter"
	"strings"
)

// Fold leaves every byte beyond ASCII alone, so that it never makes or breaks a rune.
func Fold(s string) string {
	folded := make([]byte, len(s))
	for i := range len(s) {
		folded[i] = small(s[i])
	}
	return string(folded)
}

// Alike folds as it compares, to spare both copies.
func Alike(a, b string) bool {
	if len(a) != len(b) {
		return false
	}
	for i := range len(a) {
		if small(a[i]) != small(b[i]) {
			return false
		}
	}
	return true
}

func small(c byte) byte {
	if c < 'A' || c > 'Z' {
		return c
	}
	return c - 'A' + 'a'
}

// Cut copies each part, because an answer shares no memory with s: a short part does not keep a long text alive.
func Cut(s string, by byte) []string {
	var l []string
	for part := range parts(s, by) {
		l = append(l, strings.Clone(part))
	}
	return l
}

// parts yields what follows the last by too, empty or not: that makes one part more than there are bys.
func parts(s string, by byte) iter.Seq[string] {
	return func(yield func(string) bool) {
		from := 0
		for i := range len(s) {
			if s[i] != by {
				continue
			}
			if !yield(s[from:i]) {
				return
			}
			from = i + 1
		}
		yield(s[from:])
	}
}

// Join writes a list of one element anew too, because an answer shares no memory with an argument.
func Join(l []string, by string) string {
	var joined []byte
	for i, part := range l {
		if i > 0 {
			joined = append(joined, by...)
		}
		joined = append(joined, part...)
	}
	return string(joined)
}

// Trim copies what is left for the same reason as Cut.
func Trim(s string) string {
	from, to := 0, len(s)
	for from < to && blank(s[from]) {
		from++
	}
	for from < to && blank(s[to-1]) {
		to--
	}
	return strings.Clone(s[from:to])
}

func blank(c byte) bool {
	return c == ' ' || c == '\t'
}

// Begins holds lengths against each other by a difference, because a sum with the greatest offset would overflow.
func Begins(s, with string, at int) bool {
	if at < 0 || at > len(s) || len(with) > len(s)-at {
		return false
	}
	return s[at:at+len(with)] == with
}
