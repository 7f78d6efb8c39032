package atok

import (
	"iter"
	"strings"

	"windlass/api"
	"windlass/chars"
)

// operators stand in such an order that each one comes ahead of those that it begins with.
var operators = [...]string{
	"<<=", ">>=",
	"&&", "||", "==", "!=", "<=", ">=", "<<", ">>", "+=", "-=", "*=", "/=", "%=", "&=", "^=", "|=",
	"+", "-", "*", "/", "%", "<", ">", "&", "^", "|", "!", "~", "?", ":", "=", "(", ")",
}

// tokens hands out a text's tokens from the left, the end last; or, at the first place at which there is none, just that place and the error, and nothing behind it.
func tokens(s string) iter.Seq2[api.Atok, api.Errno] {
	return func(yield func(api.Atok, api.Errno) bool) {
		at := blanks(s)
		for at < len(s) {
			text := first(s[at:])
			x, err := token(text, at)
			if !yield(x, err) || err != api.OK {
				return
			}
			at += len(text)
			at += blanks(s[at:])
		}
		yield(api.Atok{Kind: api.AtEnd, At: at}, api.OK)
	}
}

// blanks is how many blanks a text begins with. The end of a line is one here, though it is none of chars.Blank's.
func blanks(s string) int { return len(s) - len(strings.TrimLeft(s, " \t\n")) }

// first is the bytes of a text's first token, be it a number or none; empty, if no token begins there.
func first(s string) string {
	n := 0
	for n < len(s) && (chars.Begins(s[n]) || chars.Digit(s[n])) {
		n++
	}
	if n > 0 {
		return s[:n]
	}
	return operator(s)
}

// operator is the longest operator that a text begins with; empty, if there is none.
func operator(s string) string {
	for _, x := range operators {
		if strings.HasPrefix(s, x) {
			return x
		}
	}
	return ""
}

// token is what the bytes of a token at a place stand for.
func token(text string, at int) (api.Atok, api.Errno) {
	switch {
	case text == "":
		return api.Atok{At: at}, api.ErrSyntax
	case chars.Digit(text[0]):
		n, ok := Constant(text)
		if !ok {
			return api.Atok{At: at}, api.ErrNumber
		}
		return api.Atok{Kind: api.AtNum, Num: n, At: at}, api.OK
	case chars.Begins(text[0]):
		return api.Atok{Kind: api.AtName, Text: text, At: at}, api.OK
	}
	return api.Atok{Kind: api.AtOp, Text: text, At: at}, api.OK
}
