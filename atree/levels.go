package atree

import (
	"strings"

	"windlass/api"
	"windlass/chars"
)

// Ops that are no operators, and what stands ahead of a sign that is one.
const (
	number = "#"
	name   = "$"
	signed = "u"
)

// levels are the operators of two terms, by their level.
var levels = [...][]string{
	1:  {"||"},
	2:  {"&&"},
	3:  {"|"},
	4:  {"^"},
	5:  {"&"},
	6:  {"==", "!="},
	7:  {"<", "<=", ">", ">="},
	8:  {"<<", ">>"},
	9:  {"+", "-"},
	10: {"*", "/", "%"},
}

// joins tells whether an operator is one of a level's.
func joins(level int, op string) bool {
	for _, x := range levels[level] {
		if x == op {
			return true
		}
	}
	return false
}

// between tells whether an operator stands between two terms of any level.
func between(op string) bool {
	for level := range levels {
		if joins(level, op) {
			return true
		}
	}
	return false
}

// sign tells whether an operator stands ahead of a term of level 11.
func sign(op string) bool {
	switch op {
	case "+", "-", "!", "~":
		return true
	}
	return false
}

// assigns tells whether an operator stands behind the name that is assigned.
func assigns(op string) bool {
	switch op {
	case "=", "+=", "-=", "*=", "/=", "%=", "<<=", ">>=", "&=", "^=", "|=":
		return true
	}
	return false
}

// fields tells whether an operation has as many Kids as its Op wants, and a Name and a Num just where it wants them.
func fields(x api.Anode) bool {
	after, prefixed := strings.CutPrefix(x.Op, signed)
	kids := len(x.Kids)
	switch {
	case x.Op == number:
		return kids == 0 && x.Name == "" && x.Num >= 0
	case x.Op == name:
		return kids == 0 && chars.Name(x.Name) && x.Num == 0
	case assigns(x.Op):
		return kids == 1 && chars.Name(x.Name) && x.Num == 0
	case prefixed && sign(after):
		return kids == 1 && x.Name == "" && x.Num == 0
	case x.Op == "?":
		return kids == 3 && x.Name == "" && x.Num == 0
	}
	return between(x.Op) && kids == 2 && x.Name == "" && x.Num == 0
}
