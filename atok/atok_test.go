package atok_test

import (
	"strings"
	"testing"

	"windlass/api"
	"windlass/atok"
)

// The chapter's examples.
func TestExamples(t *testing.T) {
	t.Parallel()
	holds(t, "a<<=0x1F", name("a", 0), op("<<=", 1), num(31, 4), end(8))
	fails(t, "09", 0, api.ErrNumber)
	fails(t, "1 @", 2, api.ErrSyntax)
}

// P12.2: what an expression has, from the left, each token with all of its fields.
func TestTokens(t *testing.T) {
	t.Parallel()
	holds(t, "1+2*3", num(1, 0), op("+", 1), num(2, 2), op("*", 3), num(3, 4), end(5))
	holds(t, "x = y", name("x", 0), op("=", 2), name("y", 4), end(5))
	holds(t, "x=-1", name("x", 0), op("=", 1), op("-", 2), num(1, 3), end(4))
	holds(t, "(a ? b1 : _c)", op("(", 0), name("a", 1), op("?", 3), name("b1", 5), op(":", 8), name("_c", 10), op(")", 12), end(13))
	holds(t, "!~x", op("!", 0), op("~", 1), name("x", 2), end(3))
	holds(t, " 0 07\t0x7\n7 ", num(0, 1), num(7, 3), num(7, 6), num(7, 10), end(12))
	holds(t, "1 1 1", num(1, 0), num(1, 2), num(1, 4), end(5))
	holds(t, "a a", name("a", 0), name("a", 2), end(3))
}

// P12.2: what can't stand in an expression still has its tokens.
func TestTokensOfNoExpression(t *testing.T) {
	t.Parallel()
	holds(t, ")(", op(")", 0), op("(", 1), end(2))
	holds(t, "1 2", num(1, 0), num(2, 2), end(3))
	holds(t, "x y", name("x", 0), name("y", 2), end(3))
	holds(t, "1=x", num(1, 0), op("=", 1), name("x", 2), end(3))
	holds(t, "+", op("+", 0), end(1))
	holds(t, "::??", op(":", 0), op(":", 1), op("?", 2), op("?", 3), end(4))
	holds(t, "1-", num(1, 0), op("-", 1), end(2))
}

// P12.2: the one token of an empty text, and of one of blanks alone, is the end, at the text's length.
func TestNothingThere(t *testing.T) {
	t.Parallel()
	for _, s := range []string{"", " ", "\t", "\n", "  ", " \t\n", "\n\n", "\t ", strings.Repeat(" ", 5000), strings.Repeat("\n\t ", 5000)} {
		holds(t, s, end(len(s)))
	}
}

// P12.2: the three blanks ahead, behind, between, many of them.
func TestBlanks(t *testing.T) {
	t.Parallel()
	for _, b := range []string{" ", "\t", "\n", "  ", "\n\n", " \t\n", "\n\t ", strings.Repeat(" \n", 3000)} {
		n := len(b)
		holds(t, b+"a", name("a", n), end(n+1))
		holds(t, "a"+b, name("a", 0), end(n+1))
		holds(t, "12"+b, num(12, 0), end(n+2))
		holds(t, "<<="+b, op("<<=", 0), end(n+3))
		holds(t, b+"<<"+b+"="+b, op("<<", n), op("=", 2*n+2), end(3*n+3))
		holds(t, b+"1"+b+"2"+b, num(1, n), num(2, 2*n+1), end(3*n+2))
		holds(t, "a"+b+"b", name("a", 0), name("b", n+1), end(n+2))
		holds(t, "a"+b+"1", name("a", 0), num(1, n+1), end(n+2))
		holds(t, "1"+b+"a", num(1, 0), name("a", n+1), end(n+2))
		holds(t, "0"+b+"x1", num(0, 0), name("x1", n+1), end(n+3))
		holds(t, "0"+b+"9", num(0, 0), num(9, n+1), end(n+2))
		holds(t, "&"+b+"&", op("&", 0), op("&", n+1), end(n+2))
	}
}

// P12.2: names as long as they go, of all letters, of _ and digits.
func TestNames(t *testing.T) {
	t.Parallel()
	letters := "_abcdefghijklmnopqrstuvwxyzABCDEFGHIJKLMNOPQRSTUVWXYZ"
	for _, c := range letters {
		holds(t, string(c), name(string(c), 0), end(1))
		holds(t, string(c)+"0", name(string(c)+"0", 0), end(2))
		holds(t, "_"+string(c), name("_"+string(c), 0), end(2))
		holds(t, "-"+string(c)+"-", op("-", 0), name(string(c), 1), op("-", 2), end(3))
		fails(t, "1"+string(c), 0, api.ErrNumber)
	}
	for _, s := range []string{"a1", "a0123456789", "_1", "__", "_", "x0x", "x1F", "Ab_9Z", "nosuch", letters + "0123456789", "X", "e5", "a_", strings.Repeat("a1_Z", 4000)} {
		n := len(s)
		holds(t, s, name(s, 0), end(n))
		holds(t, "("+s+")", op("(", 0), name(s, 1), op(")", n+1), end(n+2))
		holds(t, "=="+s+"+=", op("==", 0), name(s, 2), op("+=", n+2), end(n+4))
		holds(t, "7 "+s+" 7", num(7, 0), name(s, 2), num(7, n+3), end(n+4))
		fails(t, "7"+s, 0, api.ErrNumber)
		fails(t, " 07"+s, 1, api.ErrNumber)
	}
}

// P12.2: numbers directly behind operators, and operators directly behind numbers.
func TestNumbersBesideOperators(t *testing.T) {
	t.Parallel()
	for _, o := range ops {
		n := len(o)
		holds(t, o+"0x1F", op(o, 0), num(31, n), end(n+4))
		holds(t, "010"+o, num(8, 0), op(o, 3), end(n+3))
		holds(t, "9"+o+"0", num(9, 0), op(o, 1), num(0, n+1), end(n+2))
		holds(t, "a"+o+"b", name("a", 0), op(o, 1), name("b", n+1), end(n+2))
		holds(t, o+"_"+o, op(o, 0), name("_", n), op(o, n+1), end(2*n+1))
		fails(t, o+"08"+o, n, api.ErrNumber)
		fails(t, "1"+o+"0x", n+1, api.ErrNumber)
	}
}

// P12.2: Same asks all fields of all tokens, in their order.
func TestSame(t *testing.T) {
	t.Parallel()
	row := []api.Atok{name("a", 0), op("+", 1), num(1, 2), end(3)}
	same := func(a, b []api.Atok, want bool) {
		t.Helper()
		if atok.Same(a, b) != want || atok.Same(b, a) != want {
			t.Errorf("Same(%s, %s) is not %v", listed(a), listed(b), want)
		}
	}
	same(nil, nil, true)
	same(nil, []api.Atok{}, true)
	same([]api.Atok{}, []api.Atok{}, true)
	same(row, row, true)
	same(row, append([]api.Atok{}, row...), true)
	same(row, nil, false)
	same([]api.Atok{{}}, nil, false)
	same([]api.Atok{{}}, []api.Atok{{}}, true)
	same([]api.Atok{{}}, []api.Atok{{}, {}}, false)
	for i := range row {
		same(row, row[:i], false)
		same(row, row[i+1:], false)
		for _, change := range []func(x *api.Atok){
			func(x *api.Atok) { x.Kind++ }, func(x *api.Atok) { x.Kind-- },
			func(x *api.Atok) { x.Num++ }, func(x *api.Atok) { x.Num += 1 << 32 },
			func(x *api.Atok) { x.Text += "a" }, func(x *api.Atok) { x.Text += "\x00" },
			func(x *api.Atok) { x.At++ }, func(x *api.Atok) { x.At = -1 },
		} {
			other := append([]api.Atok{}, row...)
			change(&other[i])
			same(row, other, false)
			same(other, other, true)
		}
	}
	same(row, []api.Atok{op("+", 1), name("a", 0), num(1, 2), end(3)}, false)
	same(row, append(append([]api.Atok{}, row...), end(3)), false)
	same([]api.Atok{name("A", 0)}, []api.Atok{name("a", 0)}, false)
	same([]api.Atok{name("\xff", 0)}, []api.Atok{name("\xfe", 0)}, false)
}
