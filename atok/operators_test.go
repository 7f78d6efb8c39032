package atok_test

import (
	"strings"
	"testing"

	"windlass/api"
)

// P12.2: each operator alone, and with blanks around it.
func TestOperators(t *testing.T) {
	t.Parallel()
	if len(ops) != 35 {
		t.Fatalf("%d operators", len(ops))
	}
	for _, o := range ops {
		holds(t, o, op(o, 0), end(len(o)))
		holds(t, " "+o+"\n", op(o, 1), end(len(o)+2))
	}
}

// P12.2: the longest operator is taken, wherever a shorter one stands there, too.
func TestLongest(t *testing.T) {
	t.Parallel()
	holds(t, "<<=", op("<<=", 0), end(3))
	holds(t, "<<", op("<<", 0), end(2))
	holds(t, "<=", op("<=", 0), end(2))
	holds(t, "< <=", op("<", 0), op("<=", 2), end(4))
	holds(t, "<<<=", op("<<", 0), op("<=", 2), end(4))
	holds(t, "<<<<=", op("<<", 0), op("<<=", 2), end(5))
	holds(t, "<<==", op("<<=", 0), op("=", 3), end(4))
	holds(t, ">>>", op(">>", 0), op(">", 2), end(3))
	holds(t, ">>>=", op(">>", 0), op(">=", 2), end(4))
	holds(t, ">>=>=", op(">>=", 0), op(">=", 3), end(5))
	holds(t, "<>", op("<", 0), op(">", 1), end(2))
	holds(t, "<>=", op("<", 0), op(">=", 1), end(3))
	holds(t, "&&&", op("&&", 0), op("&", 2), end(3))
	holds(t, "&&=", op("&&", 0), op("=", 2), end(3))
	holds(t, "&=&", op("&=", 0), op("&", 2), end(3))
	holds(t, "&&&=", op("&&", 0), op("&=", 2), end(4))
	holds(t, "|||=", op("||", 0), op("|=", 2), end(4))
	holds(t, "||=", op("||", 0), op("=", 2), end(3))
	holds(t, "===", op("==", 0), op("=", 2), end(3))
	holds(t, "====", op("==", 0), op("==", 2), end(4))
	holds(t, "!==", op("!=", 0), op("=", 2), end(3))
	holds(t, "!!=", op("!", 0), op("!=", 1), end(3))
	holds(t, "=!", op("=", 0), op("!", 1), end(2))
	holds(t, "+++", op("+", 0), op("+", 1), op("+", 2), end(3))
	holds(t, "--x", op("-", 0), op("-", 1), name("x", 2), end(3))
	holds(t, "++=", op("+", 0), op("+=", 1), end(3))
	holds(t, "-=-", op("-=", 0), op("-", 2), end(3))
	holds(t, "**", op("*", 0), op("*", 1), end(2))
	holds(t, "**=", op("*", 0), op("*=", 1), end(3))
	holds(t, "//=", op("/", 0), op("/=", 1), end(3))
	holds(t, "%%=", op("%", 0), op("%=", 1), end(3))
	holds(t, "^^=", op("^", 0), op("^=", 1), end(3))
	holds(t, "~=", op("~", 0), op("=", 1), end(2))
	holds(t, "?=", op("?", 0), op("=", 1), end(2))
	holds(t, ":=", op(":", 0), op("=", 1), end(2))
	holds(t, "=>", op("=", 0), op(">", 1), end(2))
	holds(t, "=<", op("=", 0), op("<", 1), end(2))
	holds(t, "->", op("-", 0), op(">", 1), end(2))
	holds(t, "(=)", op("(", 0), op("=", 1), op(")", 2), end(3))
}

// longest is the tokens of operators alone, told by trying all of them at each place.
func longest(s string) []api.Atok {
	var row []api.Atok
	for at := 0; at < len(s); {
		best := ""
		for _, o := range ops {
			if len(o) > len(best) && strings.HasPrefix(s[at:], o) {
				best = o
			}
		}
		row = append(row, op(best, at))
		at += len(best)
	}
	return append(row, end(len(s)))
}

// P12.2: each pair of operators, and each three, without a blank between, and with blanks.
func TestOperatorsBesideEachOther(t *testing.T) {
	t.Parallel()
	met := map[int]int{}
	for _, a := range ops {
		for _, b := range ops {
			holds(t, a+b, longest(a+b)...)
			holds(t, a+" "+b, op(a, 0), op(b, len(a)+1), end(len(a+b)+1))
			for _, c := range ops {
				row := longest(a + b + c)
				holds(t, a+b+c, row...)
				met[len(row)-1]++
				holds(t, a+"\n"+b+"\t"+c, op(a, 0), op(b, len(a)+1), op(c, len(a+b)+2), end(len(a+b+c)+2))
			}
		}
	}
	if met[1] == 0 || met[2] == 0 || met[3] == 0 {
		t.Errorf("rows met, by their length: %v", met)
	}
}

// P12.2: all texts of up to five of the operators' own bytes have just tokens.
func TestOperatorsBytes(t *testing.T) {
	t.Parallel()
	bytes := "<>=&|!+^?"
	rows := []string{""}
	for range 5 {
		var next []string
		for _, s := range rows {
			for _, c := range bytes {
				next = append(next, s+string(c))
			}
		}
		rows = next
		for _, s := range rows {
			holds(t, s, longest(s)...)
		}
	}
}
