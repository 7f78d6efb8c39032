// Package chars is layer 1, bytes, names and numbers: see shared/doc/01-chars.md.
package chars

import "strconv"

// Digit tells whether a byte is 0 to 9.
func Digit(c byte) bool { return '0' <= c && c <= '9' }

// Begins tells whether a byte can begin a name.
func Begins(c byte) bool {
	return 'a' <= c && c <= 'z' || 'A' <= c && c <= 'Z' || c == '_'
}

// Name tells whether a text is a name.
func Name(s string) bool {
	if s == "" || !Begins(s[0]) {
		return false
	}
	for i := 1; i < len(s); i++ {
		if !Begins(s[i]) && !Digit(s[i]) {
			return false
		}
	}
	return true
}

// Blank tells whether a byte is a blank or a tab.
func Blank(c byte) bool { return c == ' ' || c == '\t' }

// Number reads a whole number.
func Number(s string) (int64, bool) {
	n, err := strconv.ParseInt(s, 10, 64)
	if err != nil {
		// Beside its error the library tells the nearest number that fits, not 0.
		return 0, false
	}
	return n, true
}

// Text is a whole number's digits.
func Text(n int64) string { return strconv.FormatInt(n, 10) }

// Class tells whether a byte is of a class.
func Class(name string, c byte) bool {
	has, known := classes()[name]
	return known && has(c)
}
