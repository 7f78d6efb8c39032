package patt_test

import (
	"regexp"
	"strconv"
	"strings"
)

// The chapter told a second way: a pattern is written as an expression of the library's regexp, a byte of it, or of a text, as the rune of its number, a quoted one as that of 256 more.

// runes is a pattern in such runes.
func (p pat) runes() string {
	var row []rune
	for at := range len(p.text) {
		r := rune(p.text[at])
		if !p.isPlain(at) {
			r += 256
		}
		row = append(row, r)
	}
	return string(row)
}

// latin is a text in such runes.
func latin(s string) string { return plain(s).runes() }

// piece is what stands at one place of a pattern: an expression for it, and whether it is a [ that begins no set.
type piece struct {
	expr string
	open bool
}

// exprOf is an expression for a rune's byte.
func exprOf(r rune) string { return `\x{` + strconv.FormatInt(int64(r%256), 16) + "}" }

// firstOf is a text's first rune.
func firstOf(s string) rune { return []rune(s)[0] }

// pieces is all pieces of a pattern.
func (p pat) pieces() []piece {
	var all []piece
	left := p.runes()
	for left != "" {
		expr, rest, isSet := setExpr(left)
		first := firstOf(left)
		next := left[len(string(first)):]
		switch {
		case first == '?':
			all, left = append(all, piece{expr: "."}), next
		case first == '*':
			all, left = append(all, piece{expr: ".*"}), next
		case isSet:
			all, left = append(all, piece{expr: expr}), rest
		default:
			all, left = append(all, piece{exprOf(first), first == '['}), next
		}
	}
	return all
}

var (
	setBegin = regexp.MustCompile(`^\[(!?)`)
	// Each alternative is asked ahead of those behind it, at one place alone, so that none is gone back to.
	setMember = regexp.MustCompile(`(?s)^(?:\[:([a-z]*):\]|(.)-([^\]])|(.))`)
	className = regexp.MustCompile(`^(alpha|digit|alnum|upper|lower|space|blank|punct|print|graph|cntrl|xdigit)$`)
)

// setExpr is an expression for the set that runes begin with, and the runes behind it, if they begin with one.
func setExpr(s string) (string, string, bool) {
	begin := setBegin.FindStringSubmatch(s)
	if begin == nil {
		return "", "", false
	}
	s = s[len(begin[0]):]
	members := ""
	for n := 0; s != ""; n++ {
		if n > 0 && s[0] == ']' {
			return setOf(begin[1] == "!", members), s[1:], true
		}
		at := setMember.FindStringSubmatchIndex(s)
		switch {
		case at[2] >= 0:
			if className.MatchString(s[at[2]:at[3]]) {
				members += "[:" + s[at[2]:at[3]] + ":]"
			}
		case at[4] >= 0:
			first, last := firstOf(s[at[4]:])%256, firstOf(s[at[6]:])%256
			if first <= last {
				members += exprOf(first) + "-" + exprOf(last)
			}
		default:
			members += exprOf(firstOf(s))
		}
		s = s[at[1]:]
	}
	return "", "", false
}

// setOf is an expression for a set of such members, which may be none.
func setOf(turned bool, members string) string {
	switch {
	case members == "" && turned:
		return "."
	case members == "":
		return `[^\x00-\x{10FFFF}]`
	case turned:
		return "[^" + members + "]"
	}
	return "[" + members + "]"
}

// told is what tells of a text, in runes, whether a pattern wants it.
func (p pat) told() *regexp.Regexp {
	var expr strings.Builder
	for _, x := range p.pieces() {
		expr.WriteString(x.expr)
	}
	return regexp.MustCompile(`(?s)\A` + expr.String() + `\z`)
}

// closesAll tells whether each plain [ of a pattern begins a set, or is in one.
func (p pat) closesAll() bool {
	for _, x := range p.pieces() {
		if x.open {
			return false
		}
	}
	return true
}
