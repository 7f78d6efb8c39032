package atree_test

import (
	"testing"

	"windlass/api"
)

// P13.2: each of the assignments, of a number, of a name, with blanks.
func TestAssignments(t *testing.T) {
	t.Parallel()
	if len(setting) != 11 {
		t.Fatalf("%d assignments", len(setting))
	}
	for _, op := range setting {
		holds(t, "a"+op+"1", set("a", op, num(1)))
		holds(t, "_x9 "+op+"\nb", set("_x9", op, ref("b")))
		holds(t, "(a"+op+"1)", set("a", op, num(1)))
		holds(t, "a"+op+"(1)", set("a", op, num(1)))
		holds(t, "a"+op+"a", set("a", op, ref("a")))
	}
}

// P13.2: an assignment is of all that stands behind it: each operator, each choice.
func TestWhatIsAssigned(t *testing.T) {
	t.Parallel()
	a, one, two, three := ref("a"), num(1), num(2), num(3)
	for _, to := range setting {
		for _, op := range joining {
			holds(t, "a"+to+"1"+op+"2", set("a", to, both(one, op, two)))
			holds(t, "(a"+to+"1)"+op+"2", both(set("a", to, one), op, two))
			holds(t, "1"+op+"(a"+to+"2)", both(one, op, set("a", to, two)))
			fails(t, "1"+op+"a"+to+"2", len("1"+op+"a"), api.ErrSyntax)
		}
		holds(t, "a"+to+"1?2:3", set("a", to, chosen(one, two, three)))
		holds(t, "(a"+to+"1)?2:3", chosen(set("a", to, one), two, three))
		holds(t, "a"+to+"a?a:a", set("a", to, chosen(a, a, a)))
	}
}

// P13.2: one assignment within another, each of each, three of them, and within brackets.
func TestAssignmentsWithinOneAnother(t *testing.T) {
	t.Parallel()
	for _, p := range setting {
		for _, q := range setting {
			holds(t, "a"+p+"b"+q+"1", set("a", p, set("b", q, num(1))))
			holds(t, "a"+p+"(b"+q+"1)", set("a", p, set("b", q, num(1))))
			holds(t, "a"+p+"a"+q+"a", set("a", p, set("a", q, ref("a"))))
			fails(t, "(a"+p+"b)"+q+"1", len("(a"+p+"b)"), api.ErrSyntax)
			fails(t, "a"+p+"1"+q+"1", len("a"+p+"1"), api.ErrSyntax)
			fails(t, "a"+p+" "+q+"1", len("a"+p+" "), api.ErrSyntax)
			for _, r := range setting {
				holds(t, "a"+p+"b"+q+"c"+r+"2", set("a", p, set("b", q, set("c", r, num(2)))))
			}
		}
	}
}

// P13.2: behind a ? an assignment stands; behind a : a choice, so that an assignment there wants brackets.
func TestAssignmentsInChoices(t *testing.T) {
	t.Parallel()
	a, b, one, two := ref("a"), ref("b"), num(1), num(2)
	for _, op := range setting {
		holds(t, "a?b"+op+"1:2", chosen(a, set("b", op, one), two))
		holds(t, "a?(b"+op+"1):2", chosen(a, set("b", op, one), two))
		holds(t, "a?b"+op+"1?2:a:b", chosen(a, set("b", op, chosen(one, two, a)), b))
		holds(t, "1?a:(b"+op+"2)", chosen(one, a, set("b", op, two)))
		holds(t, "b"+op+"a?1:2", set("b", op, chosen(a, one, two)))
		holds(t, "b"+op+"a?b"+op+"1:2", set("b", op, chosen(a, set("b", op, one), two)))
		fails(t, "1?a:b"+op+"2", len("1?a:b"), api.ErrSyntax)
		fails(t, "1?a:2?a:b"+op+"2", len("1?a:2?a:b"), api.ErrSyntax)
		fails(t, "(1?a:b"+op+"2)", len("(1?a:b"), api.ErrSyntax)
		fails(t, "a"+op+"1?a:b"+op+"2", len("a"+op+"1?a:b"), api.ErrSyntax)
		holds(t, "1?a:(2?a:(b"+op+"2))", chosen(one, a, chosen(two, a, set("b", op, two))))
		holds(t, "1?2?b"+op+"a:a:b", chosen(one, chosen(two, set("b", op, a), a), b))
	}
}

// P13.2: a name that stands where an assignment may, and that no such operator is right behind, is no assignment.
func TestNamesThatAreNotAssigned(t *testing.T) {
	t.Parallel()
	a, b, one := ref("a"), ref("b"), num(1)
	holds(t, "a=b", set("a", "=", b))
	holds(t, "a=b==1", set("a", "=", both(b, "==", one)))
	holds(t, "a==b", both(a, "==", b))
	holds(t, "a<=b", both(a, "<=", b))
	holds(t, "a>=b", both(a, ">=", b))
	holds(t, "a!=b", both(a, "!=", b))
	holds(t, "(a)", a)
	holds(t, "(a)+b", both(a, "+", b))
	holds(t, "a?a:a", chosen(a, a, a))
	holds(t, "1?a+b:b", chosen(one, both(a, "+", b), b))
	holds(t, "1?a:b+a", chosen(one, a, both(b, "+", a)))
	holds(t, "a+=b*a", set("a", "+=", both(b, "*", a)))
	for _, op := range joining {
		holds(t, "a=b"+op+"a", set("a", "=", both(b, op, a)))
		holds(t, "(b"+op+"a)", both(b, op, a))
		holds(t, "1?b"+op+"a:b", chosen(one, both(b, op, a), b))
	}
}

// P13.2: choices take all operators within them.
func TestChoices(t *testing.T) {
	t.Parallel()
	a, b, c, one, two, three := ref("a"), ref("b"), ref("c"), num(1), num(2), num(3)
	holds(t, "1?2:3", chosen(one, two, three))
	holds(t, "a ? b : c", chosen(a, b, c))
	for _, op := range joining {
		holds(t, "1"+op+"2?3:a", chosen(both(one, op, two), three, a))
		holds(t, "1?2"+op+"3:a", chosen(one, both(two, op, three), a))
		holds(t, "1?2:3"+op+"a", chosen(one, two, both(three, op, a)))
		holds(t, "(1?2:3)"+op+"a", both(chosen(one, two, three), op, a))
		holds(t, "a"+op+"(1?2:3)", both(a, op, chosen(one, two, three)))
	}
}

// P13.2: a choice within each of the three of a choice; those behind a : and within ? and : want no brackets.
func TestChoicesWithinChoices(t *testing.T) {
	t.Parallel()
	a, b, c, one, two := ref("a"), ref("b"), ref("c"), num(1), num(2)
	inner := chosen(a, b, c)
	holds(t, "(a?b:c)?1:2", chosen(inner, one, two))
	holds(t, "1?a?b:c:2", chosen(one, inner, two))
	holds(t, "1?(a?b:c):2", chosen(one, inner, two))
	holds(t, "1?2:a?b:c", chosen(one, two, inner))
	holds(t, "1?2:(a?b:c)", chosen(one, two, inner))
	holds(t, "(a?b:c)?a?b:c:a?b:c", chosen(inner, inner, inner))
	holds(t, "(1?a?b:c:2)?a?b:c:(a?b:c)?1:2", chosen(chosen(one, inner, two), inner, chosen(inner, one, two)))
	holds(t, "1?1?1?a:b:c:2", chosen(one, chosen(one, chosen(one, a, b), c), two))
	holds(t, "1?a:1?b:1?c:2", chosen(one, a, chosen(one, b, chosen(one, c, two))))
	holds(t, "1?1?a:b:1?b:c", chosen(one, chosen(one, a, b), chosen(one, b, c)))
}
