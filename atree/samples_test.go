package atree_test

import (
	"slices"
	"strconv"
	"strings"
	"testing"

	"windlass/api"
	"windlass/atree"
)

// The chapter's operators, by their level from 1 on, its signs, and those that assign.
var (
	byLevel = [][]string{{"||"}, {"&&"}, {"|"}, {"^"}, {"&"}, {"==", "!="}, {"<", "<=", ">", ">="}, {"<<", ">>"}, {"+", "-"}, {"*", "/", "%"}}
	joining = slices.Concat(byLevel...)
	signs   = strings.Fields("+ - ! ~")
	setting = strings.Fields("= += -= *= /= %= <<= >>= &= ^= |=")
)

// deepest is how many terms of level 11, assignments and choices may be within one another; mostOps how many operations a row may have.
const (
	deepest = 64
	mostOps = 1000
)

// x is an expression as a tree.
type x struct {
	op   string
	num  int64
	name string
	kids []x
}

func num(n int64) x                     { return x{op: "#", num: n} }
func ref(name string) x                 { return x{op: "$", name: name} }
func signed(op string, a x) x           { return x{op: "u" + op, kids: []x{a}} }
func both(a x, op string, b x) x        { return x{op: op, kids: []x{a, b}} }
func chosen(a, b, c x) x                { return x{op: "?", kids: []x{a, b, c}} }
func set(name string, op string, a x) x { return x{op: op, name: name, kids: []x{a}} }

// row is a tree as a row, written from below.
func row(a x) []api.Anode {
	var l []api.Anode
	var lay func(a x) int
	lay = func(a x) int {
		var kids []int
		for _, kid := range a.kids {
			kids = append(kids, lay(kid))
		}
		l = append(l, api.Anode{Op: a.op, Num: a.num, Name: a.name, Kids: kids})
		return len(l) - 1
	}
	lay(a)
	return l
}

// equal tells whether two rows are one, an empty list being none.
func equal(a, b []api.Anode) bool {
	return slices.EqualFunc(a, b, func(x, y api.Anode) bool {
		return x.Op == y.Op && x.Num == y.Num && x.Name == y.Name && slices.Equal(x.Kids, y.Kids)
	})
}

// holds asks that a text is just this expression, and no place of an error.
func holds(t *testing.T, s string, want x) {
	t.Helper()
	l, place, err := atree.Parse(s)
	if err != api.OK || place != 0 || !equal(l, row(want)) {
		t.Errorf("Parse(%s) = %s, %d, %v, not %s", short(s), listed(l), place, err, listed(row(want)))
	}
}

// fails asks that a text has this error at this place, and that no operation is told.
func fails(t *testing.T, s string, place int, err api.Errno) {
	t.Helper()
	l, p, e := atree.Parse(s)
	if e != err || p != place || len(l) != 0 {
		t.Errorf("Parse(%s) = %s, %d, %v, not none, %d, %v", short(s), listed(l), p, e, place, err)
	}
}

// prints asks for a tree's text with all brackets.
func prints(t *testing.T, a x, want string) {
	t.Helper()
	if got := atree.Print(row(a)); got != want {
		t.Errorf("Print(%s) = %s, not %s", listed(row(a)), short(got), short(want))
	}
}

// listed is a row for a test's message.
func listed(l []api.Anode) string {
	var texts []string
	for i, a := range l {
		if i == 20 {
			texts = append(texts, "and so on")
			break
		}
		s := a.Op
		if a.Num != 0 {
			s += " " + strconv.FormatInt(a.Num, 10)
		}
		if a.Name != "" {
			s += " " + short(a.Name)
		}
		for _, kid := range a.Kids {
			s += " " + strconv.Itoa(kid)
		}
		texts = append(texts, s)
	}
	return "[" + strings.Join(texts, ", ") + "]"
}

// short is a text for a test's message.
func short(s string) string {
	if len(s) > 120 {
		return strconv.Quote(s[:100]) + " and so on"
	}
	return strconv.Quote(s)
}

// nest is a text within others, ahead of it and behind it, so many times.
func nest(ahead string, n int, within, behind string) string {
	return strings.Repeat(ahead, n) + within + strings.Repeat(behind, n)
}
