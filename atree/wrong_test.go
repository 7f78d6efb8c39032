package atree_test

import (
	"strings"
	"testing"

	"windlass/api"
	"windlass/atree"
)

// P13.2, wrong inputs: the tokens' own errors, and their places, ahead of all others, even where these are further to the left.
func TestTokensErrors(t *testing.T) {
	t.Parallel()
	fails(t, "09", 0, api.ErrNumber)
	fails(t, "1+09", 2, api.ErrNumber)
	fails(t, "a=0x", 2, api.ErrNumber)
	fails(t, "1a", 0, api.ErrNumber)
	fails(t, "9223372036854775808", 0, api.ErrNumber)
	fails(t, "-9223372036854775808", 1, api.ErrNumber)
	fails(t, "@", 0, api.ErrSyntax)
	fails(t, "1 @", 2, api.ErrSyntax)
	fails(t, "x=3,", 3, api.ErrSyntax)
	fails(t, "$x", 0, api.ErrSyntax)
	fails(t, "1.5", 1, api.ErrSyntax)
	fails(t, "\r", 0, api.ErrSyntax)
	fails(t, "1 2 @", 4, api.ErrSyntax)
	fails(t, "1 2 09", 4, api.ErrNumber)
	fails(t, ") 1_", 2, api.ErrNumber)
	fails(t, "09 @", 0, api.ErrNumber)
	fails(t, "@ 09", 0, api.ErrSyntax)
	fails(t, nest("(", 100, "1", ")")+"@", 201, api.ErrSyntax)
	fails(t, nest("(", 100, "1", ")")+" 09", 202, api.ErrNumber)
	fails(t, nest("1+", 3000, "@", ""), 6000, api.ErrSyntax)
	fails(t, nest("1+", 3000, "08", ""), 6000, api.ErrNumber)
}

// P13.2, wrong inputs: nothing at all is ErrSyntax at the end, which can't stand there.
func TestNothing(t *testing.T) {
	t.Parallel()
	for _, s := range []string{"", " ", "\n", "\t \n", strings.Repeat(" ", 5000)} {
		fails(t, s, len(s), api.ErrSyntax)
		fails(t, "("+s+")", 1+len(s), api.ErrSyntax)
		fails(t, "("+s, 1+len(s), api.ErrSyntax)
	}
}

// P13.2, wrong inputs: an operator that lacks what it stands ahead of, or behind.
func TestOperatorsThatLackATerm(t *testing.T) {
	t.Parallel()
	for _, op := range joining {
		n := len(op)
		fails(t, "1"+op, 1+n, api.ErrSyntax)
		fails(t, "1"+op+" ", 2+n, api.ErrSyntax)
		fails(t, "(1"+op+")", 2+n, api.ErrSyntax)
		fails(t, "1"+op+"*2", 1+n, api.ErrSyntax)
		fails(t, "1"+op+" &&2", 2+n, api.ErrSyntax)
		fails(t, "1"+op+"?2:3", 1+n, api.ErrSyntax)
		fails(t, "1?2"+op+":3", 3+n, api.ErrSyntax)
		fails(t, "a="+"1"+op, 3+n, api.ErrSyntax)
		if op == "+" || op == "-" {
			continue // these may stand ahead of a term
		}
		fails(t, op, 0, api.ErrSyntax)
		fails(t, " "+op+"1", 1, api.ErrSyntax)
		fails(t, "("+op+"1)", 1, api.ErrSyntax)
		fails(t, "a= "+op+"1", 3, api.ErrSyntax)
		fails(t, "1?"+op+"2:3", 2, api.ErrSyntax)
		fails(t, "1?2:"+op+"3", 4, api.ErrSyntax)
		fails(t, "- "+op+"1", 2, api.ErrSyntax)
		for _, other := range joining {
			fails(t, "1"+other+" "+op+"2", 2+len(other), api.ErrSyntax)
		}
	}
}

// P13.2, wrong inputs: a sign that lacks what it stands ahead of; ! and ~ stand behind no term.
func TestSignsThatLackATerm(t *testing.T) {
	t.Parallel()
	for _, op := range signs {
		fails(t, op, 1, api.ErrSyntax)
		fails(t, op+op, 2, api.ErrSyntax)
		fails(t, "("+op+")", 2, api.ErrSyntax)
		fails(t, "1+"+op, 3, api.ErrSyntax)
		fails(t, "a= "+op, 4, api.ErrSyntax)
		fails(t, op+"?1:2", 1, api.ErrSyntax)
		fails(t, "1?"+op+":2", 3, api.ErrSyntax)
		fails(t, "1?2:"+op, 5, api.ErrSyntax)
		for _, to := range setting {
			fails(t, op+" a"+to+"1", 3, api.ErrSyntax)
			fails(t, op+" "+to+"1", 2, api.ErrSyntax)
		}
	}
	for _, op := range []string{"!", "~"} {
		fails(t, "1"+op, 1, api.ErrSyntax)
		fails(t, "1"+op+"2", 1, api.ErrSyntax)
		fails(t, "a"+op, 1, api.ErrSyntax)
		fails(t, "(1)"+op+"2", 3, api.ErrSyntax)
	}
}

// P13.2, wrong inputs: two terms without an operator.
func TestTermsWithoutAnOperator(t *testing.T) {
	t.Parallel()
	terms := []string{"1", "a", "(1)", "(a=1)", "0x1F"}
	for _, a := range terms {
		for _, b := range terms {
			n := len(a) + 1
			fails(t, a+" "+b, n, api.ErrSyntax)
			fails(t, a+" "+b+"+1", n, api.ErrSyntax)
			fails(t, "("+a+" "+b+")", n+1, api.ErrSyntax)
			fails(t, "1+"+a+" "+b, n+2, api.ErrSyntax)
			fails(t, "c="+a+" "+b, n+2, api.ErrSyntax)
			fails(t, "1?"+a+" "+b+":2", n+2, api.ErrSyntax)
			fails(t, "1?2:"+a+" "+b, n+4, api.ErrSyntax)
			fails(t, "-"+a+" "+b, n+1, api.ErrSyntax)
		}
	}
	fails(t, "a b=1", 2, api.ErrSyntax)
	fails(t, "1 a=1", 2, api.ErrSyntax)
	fails(t, "a=1 b=2", 4, api.ErrSyntax)
	fails(t, "f(1)", 1, api.ErrSyntax)
	fails(t, "1(2)", 1, api.ErrSyntax)
	fails(t, "(1)(2)", 3, api.ErrSyntax)
}

// P13.2, wrong inputs: a bracket that is not closed, not opened, or empty.
func TestWrongBrackets(t *testing.T) {
	t.Parallel()
	fails(t, "(", 1, api.ErrSyntax)
	fails(t, ")", 0, api.ErrSyntax)
	fails(t, "()", 1, api.ErrSyntax)
	fails(t, ")(", 0, api.ErrSyntax)
	fails(t, "(1", 2, api.ErrSyntax)
	fails(t, "(1 ", 3, api.ErrSyntax)
	fails(t, "1)", 1, api.ErrSyntax)
	fails(t, "(1))", 3, api.ErrSyntax)
	fails(t, "((1)", 4, api.ErrSyntax)
	fails(t, "(1+2", 4, api.ErrSyntax)
	fails(t, "1+2)", 3, api.ErrSyntax)
	fails(t, "1+)2", 2, api.ErrSyntax)
	fails(t, "a=(1", 4, api.ErrSyntax)
	fails(t, "a=1)", 3, api.ErrSyntax)
	fails(t, "a=)", 2, api.ErrSyntax)
	fails(t, "(a=1", 4, api.ErrSyntax)
	fails(t, "(1?2:3", 6, api.ErrSyntax)
	fails(t, "1?(2:3", 4, api.ErrSyntax)
	fails(t, "1?2):3", 3, api.ErrSyntax)
	fails(t, "1?2:3)", 5, api.ErrSyntax)
	fails(t, "1?2:(3", 6, api.ErrSyntax)
	fails(t, "(1)+()", 5, api.ErrSyntax)
	for n := range 18 {
		fails(t, nest("(", n, "1", ")")+")", 2*n+1, api.ErrSyntax)
		fails(t, "("+nest("(", n, "1", ")"), 2*n+2, api.ErrSyntax)
		fails(t, nest("(", n, "", ")"), n, api.ErrSyntax)
		fails(t, nest("(", n, "1+", ")"), n+2, api.ErrSyntax)
	}
}

// P13.2, wrong inputs: a ? without its :, and the other way round.
func TestWrongChoices(t *testing.T) {
	t.Parallel()
	fails(t, "?", 0, api.ErrSyntax)
	fails(t, ":", 0, api.ErrSyntax)
	fails(t, "1?", 2, api.ErrSyntax)
	fails(t, "1:", 1, api.ErrSyntax)
	fails(t, "1?2", 3, api.ErrSyntax)
	fails(t, "1:2", 1, api.ErrSyntax)
	fails(t, "1?2:", 4, api.ErrSyntax)
	fails(t, "1?:2", 2, api.ErrSyntax)
	fails(t, "?1:2", 0, api.ErrSyntax)
	fails(t, "1??2:3:4", 2, api.ErrSyntax)
	fails(t, "1?2::3", 4, api.ErrSyntax)
	fails(t, "1?2:3:4", 5, api.ErrSyntax)
	fails(t, "1?2?3:4", 7, api.ErrSyntax)
	fails(t, "1?2?3:4:5:6", 9, api.ErrSyntax)
	fails(t, "1?2:3?4", 7, api.ErrSyntax)
	fails(t, "(1?2)", 4, api.ErrSyntax)
	fails(t, "(1?2):3", 4, api.ErrSyntax)
	fails(t, "(1?2:)3", 5, api.ErrSyntax)
	fails(t, "(1:2)", 2, api.ErrSyntax)
	fails(t, "1?(2:3)", 4, api.ErrSyntax)
	fails(t, "1?(2):3:4", 7, api.ErrSyntax)
	fails(t, "(1?2:3:4)", 6, api.ErrSyntax)
	fails(t, "1?(2:3):4", 4, api.ErrSyntax)
	fails(t, "1?a=2", 5, api.ErrSyntax)
	fails(t, "a=1?2", 5, api.ErrSyntax)
	fails(t, "a=1:2", 3, api.ErrSyntax)
	fails(t, "a=?1:2", 2, api.ErrSyntax)
}

// P13.2, wrong inputs: an assignment to what is no name, to nothing, of nothing, or where none may stand.
func TestWrongAssignments(t *testing.T) {
	t.Parallel()
	for _, op := range setting {
		n := len(op)
		fails(t, op, 0, api.ErrSyntax)
		fails(t, op+"1", 0, api.ErrSyntax)
		fails(t, "a"+op, 1+n, api.ErrSyntax)
		fails(t, "(a"+op+")", 2+n, api.ErrSyntax)
		fails(t, "1?a"+op+":2", 3+n, api.ErrSyntax)
		fails(t, "1"+op+"2", 1, api.ErrSyntax)
		fails(t, "1"+op+"a", 1, api.ErrSyntax)
		fails(t, "(a)"+op+"1", 3, api.ErrSyntax)
		fails(t, "("+op+"1)", 1, api.ErrSyntax)
		fails(t, "-a"+op+"1", 2, api.ErrSyntax)
		fails(t, "a?b:c"+op+"1", 5, api.ErrSyntax)
		fails(t, "(a?b:c)"+op+"1", 7, api.ErrSyntax)
		fails(t, "(a=1)"+op+"2", 5, api.ErrSyntax)
		fails(t, "a=b+c"+op+"2", 5, api.ErrSyntax)
		fails(t, "(b+c"+op+"2)", 4, api.ErrSyntax)
		fails(t, "a?b+c"+op+"2:1", 5, api.ErrSyntax)
		for _, between := range joining {
			fails(t, "a"+between+"b"+op+"1", len("ab"+between), api.ErrSyntax)
		}
	}
	fails(t, "a= =1", 3, api.ErrSyntax)
	fails(t, "a = = 1", 4, api.ErrSyntax)
	fails(t, "a+ =1", 3, api.ErrSyntax)
	fails(t, "a< <=1", 3, api.ErrSyntax)
}

// P13.2: of several tokens that can't stand where they stand the first one is told.
func TestWhichPlace(t *testing.T) {
	t.Parallel()
	fails(t, "1 2 3", 2, api.ErrSyntax)
	fails(t, "1+*2)", 2, api.ErrSyntax)
	fails(t, "1)+*2", 1, api.ErrSyntax)
	fails(t, ")*(", 0, api.ErrSyntax)
	fails(t, "(1 2", 3, api.ErrSyntax)
	fails(t, "(1+", 3, api.ErrSyntax)
	fails(t, "1=2=3", 1, api.ErrSyntax)
	fails(t, "1?2 3", 4, api.ErrSyntax)
	fails(t, "1?2)3:", 3, api.ErrSyntax)
	fails(t, "1+2*a=3)", 5, api.ErrSyntax)
	fails(t, "1+2)*a=3", 3, api.ErrSyntax)
	fails(t, "a=1=2)", 3, api.ErrSyntax)
	fails(t, "1:2=3", 1, api.ErrSyntax)
	fails(t, "1=2:3", 1, api.ErrSyntax)
	fails(t, "a b c=", 2, api.ErrSyntax)
	fails(t, "1 2"+strings.Repeat("+1", 5000), 2, api.ErrSyntax)
	fails(t, strings.Repeat("1+", 5000)+"1 2", 10002, api.ErrSyntax)
	// 0.2: what can't stand there is named ahead of what is too deep, or too much, wherever it stands.
	fails(t, nest("(", 100, "", ""), 100, api.ErrSyntax)
	fails(t, nest("(", 100, "1", ""), 101, api.ErrSyntax)
	fails(t, nest("(", 100, "1", ")")+")", 201, api.ErrSyntax)
	fails(t, nest("(", 100, "1", ")")+"2", 201, api.ErrSyntax)
	fails(t, nest("(", 100, "1 2", ")"), 102, api.ErrSyntax)
	fails(t, nest("-", 100, "", ""), 100, api.ErrSyntax)
	fails(t, nest("a=", 100, "", ""), 200, api.ErrSyntax)
	fails(t, nest("1?", 100, "1", ":1")+":1", 401, api.ErrSyntax)
	fails(t, "1 "+nest("(", 100, "1", ")"), 2, api.ErrSyntax)
	fails(t, nest("1+", 2000, "1", "")+")", 4001, api.ErrSyntax)
	fails(t, nest("1+", 2000, "", ""), 4000, api.ErrSyntax)
}

// 0.3: beside an error no operation is told, and beside none no place.
func TestNothingBesideAnError(t *testing.T) {
	t.Parallel()
	for _, s := range []string{"", "09", "1 2", "1+2*a=3", nest("(", 64, "1", ")"), nest("1+", 1000, "1", "")} {
		if l, _, err := atree.Parse(s); l != nil || err == api.OK {
			t.Errorf("Parse(%s) = %s, %v", short(s), listed(l), err)
		}
	}
	for _, s := range []string{"1", "   a", "a=1", "1 + 2"} {
		if l, place, err := atree.Parse(s); len(l) == 0 || place != 0 || err != api.OK {
			t.Errorf("Parse(%s) = %s, %d, %v", short(s), listed(l), place, err)
		}
	}
}
