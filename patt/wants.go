package patt

import (
	"slices"

	"windlass/chars"
)

// want is what a pattern wants at one of its places, or what a set has as a member.
type want interface {
	// takes tells whether a byte is one of those that are wanted.
	takes(c byte) bool
}

// The kinds of wants.
type (
	one   struct{}                   // any one byte
	many  struct{}                   // any bytes, none too
	span  struct{ first, last byte } // a byte from the first to the last
	class string                     // a byte of the class of that name
	set   struct {                   // a byte of its members, or, turned, of none of them
		turned  bool
		members []want
	}
)

func (one) takes(byte) bool      { return true }
func (many) takes(byte) bool     { return true }
func (x span) takes(c byte) bool { return x.first <= c && c <= x.last }

func (x class) takes(c byte) bool { return chars.Class(string(x), c) }

func (x set) takes(c byte) bool {
	has := slices.ContainsFunc(x.members, func(member want) bool { return member.takes(c) })
	return has != x.turned
}

// just is the want of one byte alone.
func just(c byte) want { return span{c, c} }

// repeats tells whether a want takes as many bytes as there are, or none; wants of all other kinds take just one.
func repeats(x want) bool {
	switch x.(type) {
	case many:
		return true
	default:
		return false
	}
}
