// Package name has names.
package name

import (
	"cmp"

	"pointsman/api"
)

// Check tells what is wrong with a name.
func Check(n []string) error {
	size := 1
	for _, label := range n {
		if len(label) == 0 || len(label) > api.MaxLabel {
			return api.ErrLabel
		}
		size += len(label) + 1
	}
	// Asked behind the last label only: a wrong label, wherever it stands,
	// is told ahead of a name that is too long.
	if size > api.MaxName {
		return api.ErrLong
	}
	return nil
}

// Fold tells a name with small letters.
func Fold(n []string) []string {
	folded := make([]string, len(n))
	for i, label := range n {
		folded[i] = foldLabel(label)
	}
	return folded
}

// Same tells if two names are, but for small letters.
func Same(a, b []string) bool {
	return Compare(a, b) == 0
}

// Compare tells which one is ahead.
func Compare(a, b []string) int {
	for i := 1; i <= min(len(a), len(b)); i++ {
		if c := compareLabels(a[len(a)-i], b[len(b)-i]); c != 0 {
			return c
		}
	}
	return cmp.Compare(len(a), len(b))
}

// Under tells if one is another one, or below it.
func Under(a, b []string) bool {
	more := len(a) - len(b)
	return more >= 0 && Same(a[more:], b)
}

// foldLabel goes by bytes, since a label need not be of runes: the letters of
// package unicode, and its marks for bytes that are none, have no place here.
func foldLabel(label string) string {
	folded := make([]byte, len(label))
	for i := range folded {
		folded[i] = foldByte(label[i])
	}
	return string(folded)
}

func foldByte(c byte) byte {
	if 'A' <= c && c <= 'Z' {
		return c - 'A' + 'a'
	}
	return c
}

func compareLabels(a, b string) int {
	for i := range min(len(a), len(b)) {
		if c := cmp.Compare(foldByte(a[i]), foldByte(b[i])); c != 0 {
			return c
		}
	}
	return cmp.Compare(len(a), len(b))
}
