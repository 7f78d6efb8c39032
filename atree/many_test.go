package atree_test

import (
	"math"
	"strings"
	"testing"

	"windlass/api"
	"windlass/atree"
)

// P13.2: a row of 1000 operations is told; of more there is ErrMany, at the text's length.
func TestMany(t *testing.T) {
	t.Parallel()
	for _, x := range []struct {
		first, next string
		one, each   int // operations of the first text, and of each next one behind it
	}{
		{"1", "+1", 1, 2}, {"a", "*b", 1, 2}, {"-1", "||0", 2, 2}, {"(a=1)", "&&1", 2, 2}, {"a=1", "-1", 2, 2}, {"1", "+-1", 1, 3}, {"-1", "<!a", 2, 3},
		{"1?2:3", "+1", 4, 2}, {"1", "+(1?2:3)", 1, 5}, {"-(1?2:3)", "<<(1?2:3)", 5, 5}, {" 1", "\n==(a=1) ", 1, 3}, {"(1)", "%((2))", 1, 2}, {"1?2:(a=b)", "|-a", 5, 3},
	} {
		n := (mostOps - x.one) / x.each
		s := x.first + strings.Repeat(x.next, n)
		l, place, err := atree.Parse(s)
		if err != api.OK || place != 0 || len(l) != x.one+n*x.each || !atree.Fit(l) {
			t.Errorf("Parse(%s) has %d operations, %d, %v", short(s), len(l), place, err)
		}
		for _, more := range []int{1, 2, 3, 500, 5000} {
			s := x.first + strings.Repeat(x.next, n+more)
			fails(t, s, len(s), api.ErrMany)
			fails(t, s+" \n", len(s)+2, api.ErrMany)
			fails(t, "  "+s, len(s)+2, api.ErrMany)
		}
	}
}

// P13.2: just 1000 operations, and 1001, whichever the one too many is.
func TestJustMany(t *testing.T) {
	t.Parallel()
	most, less := nest("1+", 499, "1", ""), nest("1+", 498, "1", "") // 999, and 997 of them
	for _, s := range []string{"-" + most, "a=" + most, "~(" + most + ")", "(a=" + most + ")", less + "-!1", less + "-(a=1)", "1?2:" + less, "1?" + less + ":2", less + "?1:2", "a=b=-" + less + " "} {
		l, place, err := atree.Parse(s)
		if len(l) != mostOps || place != 0 || err != api.OK {
			t.Errorf("Parse(%s) has %d operations, %d, %v", short(s), len(l), place, err)
		}
	}
	for _, s := range []string{"--" + most, "a=-" + most, "a=b=" + most, most + "+1", "(" + most + ")*a", less + "-!~1", less + "-(a=-1)", "1?2:-" + less, "1?a=" + less + ":2", less + "?a:-b", "a=b=c=-" + less + " "} {
		fails(t, s, len(s), api.ErrMany)
	}
}

// P13.2: brackets and blanks are no operations.
func TestBracketsAreNoOperations(t *testing.T) {
	t.Parallel()
	s := nest(" ( ( ( 1 ) ) ) + ", 499, " (((1))) ", "")
	if l, place, err := atree.Parse(s); len(l) != 999 || place != 0 || err != api.OK {
		t.Errorf("%d operations, %d, %v", len(l), place, err)
	}
	fails(t, s+"-1", len(s)+2, api.ErrMany)
}

// P13.2: texts of many thousand bytes.
func TestLongTexts(t *testing.T) {
	t.Parallel()
	const n = 300000
	long, blanks, noughts := strings.Repeat("n", n), strings.Repeat(" \n\t", n), strings.Repeat("0", n)
	holds(t, long, ref(long))
	holds(t, long+"="+long, set(long, "=", ref(long)))
	holds(t, long+"-"+long, both(ref(long), "-", ref(long)))
	holds(t, blanks+"1"+blanks+"+"+blanks+"a"+blanks, both(num(1), "+", ref("a")))
	holds(t, noughts+"17", num(15))
	holds(t, "0x"+noughts+"7fffffffffffffff", num(math.MaxInt64))
	fails(t, blanks, 3*n, api.ErrSyntax)
	fails(t, long+" "+long, n+1, api.ErrSyntax)
	fails(t, blanks+"1"+blanks+"a", 6*n+1, api.ErrSyntax)
	fails(t, strings.Repeat("9", n), 0, api.ErrNumber)
	fails(t, long+"@", n, api.ErrSyntax)
}

// P13.2: texts of many thousand tokens, too many, too deep, or wrong.
func TestManyTokens(t *testing.T) {
	t.Parallel()
	const n = 50000
	fails(t, nest("1+", n, "1", ""), 2*n+1, api.ErrMany)
	fails(t, nest("a=1?b:", 1, nest("1*", n, "1", ""), ""), 6+2*n+1, api.ErrMany)
	fails(t, nest("1+", n, "", ""), 2*n, api.ErrSyntax)
	fails(t, nest("1 ", n, "", ""), 2, api.ErrSyntax)
	fails(t, nest("1+", n, "1 1", ""), 2*n+2, api.ErrSyntax)
	fails(t, nest(")", n, "", ""), 0, api.ErrSyntax)
	fails(t, nest("?", n, "", ""), 0, api.ErrSyntax)
	fails(t, nest("=", n, "", ""), 0, api.ErrSyntax)
	fails(t, nest("(", n, "1", ")"), 21, api.ErrDeep)
	fails(t, nest("(", n, "1", "")+nest(")", n+1, "", ""), 2*n+1, api.ErrSyntax)
	fails(t, nest("(", n, "", ""), n, api.ErrSyntax)
	fails(t, nest("-", n, "1", ""), 62, api.ErrDeep)
	fails(t, nest("-", n, "", ""), n, api.ErrSyntax)
	fails(t, nest("a=", n, "a", ""), 128, api.ErrDeep)
	fails(t, nest("a=", n, "", ""), 2*n, api.ErrSyntax)
	fails(t, nest("1?", n, "1", ":1"), 62, api.ErrDeep)
	fails(t, nest("1?", n, "1", ""), 2*n+1, api.ErrSyntax)
	fails(t, nest("1?1:", n, "1", ""), 242, api.ErrDeep)
	fails(t, nest("1?(a=-", n, "1", ")+1:1"), 6*10+2, api.ErrDeep)
}
