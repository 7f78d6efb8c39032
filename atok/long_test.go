package atok_test

import (
	"math"
	"strings"
	"testing"

	"windlass/api"
	"windlass/atok"
)

// P12.2: texts of many thousand tokens.
func TestManyTokens(t *testing.T) {
	t.Parallel()
	const n = 50000
	for _, x := range []struct {
		piece string
		row   []api.Atok
	}{
		{"1 ", []api.Atok{num(1, 0)}},
		{"a ", []api.Atok{name("a", 0)}},
		{"+", []api.Atok{op("+", 0)}},
		{"<<=", []api.Atok{op("<<=", 0)}},
		{"a+", []api.Atok{name("a", 0), op("+", 1)}},
		{"(0x1F)", []api.Atok{op("(", 0), num(31, 1), op(")", 5)}},
		{" x1\n<= 010\t", []api.Atok{name("x1", 1), op("<=", 4), num(8, 7)}},
	} {
		s := strings.Repeat(x.piece, n)
		var want []api.Atok
		for i := range n {
			for _, y := range x.row {
				y.At += i * len(x.piece)
				want = append(want, y)
			}
		}
		holds(t, s, append(want, end(len(s)))...)
		fails(t, s+"@", len(s), api.ErrSyntax)
		fails(t, s+" 09", len(s)+1, api.ErrNumber)
		fails(t, "@"+s, 0, api.ErrSyntax)
		if a, _, _ := atok.Tokens(s); !atok.Same(a, append(want, end(len(s)))) || atok.Same(a, want) {
			t.Errorf("rows of %s are the same, or not", short(s))
		}
	}
}

// P12.1, P12.2: tokens of a million bytes, and as many blanks.
func TestLongTokens(t *testing.T) {
	t.Parallel()
	const n = 1000000
	long, noughts, nines := strings.Repeat("n", n), strings.Repeat("0", n), strings.Repeat("9", n)
	holds(t, long, name(long, 0), end(n))
	holds(t, noughts, num(0, 0), end(n))
	holds(t, noughts+"17", num(15, 0), end(n+2))
	holds(t, "0x"+noughts+"ff", num(255, 0), end(n+4))
	holds(t, noughts+mostOct, num(math.MaxInt64, 0), end(n+len(mostOct)))
	fails(t, noughts+tooMuchOct, 0, api.ErrNumber)
	fails(t, noughts+"8", 0, api.ErrNumber)
	fails(t, nines, 0, api.ErrNumber)
	fails(t, "+"+nines+"+", 1, api.ErrNumber)
	fails(t, "1"+long, 0, api.ErrNumber)
	fails(t, long+"@", n, api.ErrSyntax)
	blanks := strings.Repeat(" ", n)
	holds(t, blanks+"1"+blanks+"<"+blanks+"<"+blanks, num(1, n), op("<", 2*n+1), op("<", 3*n+2), end(4*n+3))
	holds(t, blanks, end(n))
	fails(t, blanks+"@"+blanks, n, api.ErrSyntax)
	if v, ok := atok.Constant(noughts + "17"); v != 15 || !ok {
		t.Errorf("Constant of many noughts and 17 = %d, %v", v, ok)
	}
	if v, ok := atok.Constant(nines); v != 0 || ok {
		t.Errorf("Constant of many nines = %d, %v", v, ok)
	}
}
