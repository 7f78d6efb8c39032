package atree_test

import (
	"testing"

	"windlass/api"
	"windlass/atree"
)

// fine asks that a text is an expression.
func fine(t *testing.T, s string) {
	t.Helper()
	if l, place, err := atree.Parse(s); err != api.OK || place != 0 || len(l) == 0 {
		t.Errorf("Parse(%s) = %s, %d, %v", short(s), listed(l), place, err)
	}
}

// P13.2: a number is a term of level 11, in a choice, in an assignment: three, one within another. Brackets are a term of level 11, and have an assignment within them, so that 20 of them make 63, and 21 make 66.
func TestDeepBrackets(t *testing.T) {
	t.Parallel()
	for n := range deepest / 3 {
		holds(t, nest("(", n, "1", ")"), num(1))
	}
	for _, n := range []int{21, 22, 23, 63, 64, 65, 1000, 5000} {
		fails(t, nest("(", n, "1", ")"), 21, api.ErrDeep)
		fails(t, nest("( ", n, "1", " )"), 42, api.ErrDeep)
		fails(t, "1+"+nest("(", n, "1", ")"), 23, api.ErrDeep)
		fails(t, nest("(", n, "a", ")")+"*(2)", 21, api.ErrDeep)
		fails(t, nest("(1*", n, "1", ")"), 61, api.ErrDeep) // at the first 1 in the 21st bracket
		fails(t, nest("(", n, "1", "+1)"), 21, api.ErrDeep)
	}
	fine(t, nest("(1*", 20, "1", ")"))
	fine(t, nest("(", 20, "1", "+1)"))
	fine(t, "1+"+nest("(", 20, "1", ")"))
}

// P13.2: each sign is one more term of level 11.
func TestDeepSigns(t *testing.T) {
	t.Parallel()
	for _, op := range signs {
		want := num(1)
		for n := range deepest - 2 {
			holds(t, nest(op, n, "1", ""), want)
			want = signed(op, want)
		}
		for _, n := range []int{62, 63, 64, 65, 100, 5000} {
			fails(t, nest(op, n, "1", ""), 62, api.ErrDeep)
			fails(t, nest(op, n, "a", ""), 62, api.ErrDeep)
			fails(t, nest(op, n, "1", "")+"*2", 62, api.ErrDeep)
			fails(t, "2*"+nest(op, n, "1", ""), 64, api.ErrDeep)
		}
		fine(t, nest(op, 61, "1", "")+"*"+nest(" "+op, 61, "1", ""))
		fails(t, nest(op, 61, "1", "")+"*"+nest(" "+op, 62, "1", ""), 63+2*62, api.ErrDeep)
	}
}

// P13.2: each assignment is within the one whose name is assigned.
func TestDeepAssignments(t *testing.T) {
	t.Parallel()
	for _, op := range setting {
		want, step := num(1), 1+len(op)
		for n := range deepest - 2 {
			holds(t, nest("a"+op, n, "1", ""), want)
			want = set("a", op, want)
		}
		fails(t, nest("a"+op, 62, "1", ""), 62*step, api.ErrDeep)
		fails(t, nest("a"+op, 63, "1", ""), 63*step, api.ErrDeep)
		for _, n := range []int{64, 65, 66, 67, 1000} {
			fails(t, nest("a"+op, n, "1", ""), 64*step, api.ErrDeep)
		}
	}
}

// P13.2: what is behind a : is a choice within the choice, what is behind a ? an assignment within it.
func TestDeepChoices(t *testing.T) {
	t.Parallel()
	third, second := num(1), num(1)
	for n := range 61 {
		holds(t, nest("0?2:", n, "1", ""), third)
		third = chosen(num(0), num(2), third)
	}
	for n := range 31 {
		holds(t, nest("2?", n, "1", ":0"), second)
		second = chosen(num(2), second, num(0))
	}
	for _, n := range []int{61, 62, 63, 64, 65, 1000} {
		fails(t, nest("0?2:", n, "1", ""), 4*60+2, api.ErrDeep) // the 2, as an assignment, a choice and a term
	}
	for _, n := range []int{31, 32, 33, 64, 65, 1000} {
		fails(t, nest("2?", n, "1", ":0"), 62, api.ErrDeep)
	}
	// What is asked is no deeper than the choice, however often one is asked.
	fine(t, nest("(", 10, "0", "?1:2)"))
	fine(t, nest("0?2:", 60, nest("-", 1, "1", ""), ""))
	fails(t, nest("0?2:", 60, nest("-", 2, "1", ""), ""), 4*60+2, api.ErrDeep)
}

// P13.2: behind a term, a bracket, a choice it is as deep again as it was ahead of them.
func TestNotDeepBesideOneAnother(t *testing.T) {
	t.Parallel()
	deep := nest("(", 20, "1", ")")
	fine(t, nest(deep+"+", 40, deep, ""))
	fine(t, nest("a="+nest("(", 19, "1", ")")+"-", 1, nest("(", 19, "a", ")"), ""))
	fine(t, nest("(", 19, "1", ")")+"?"+nest("(", 19, "1", ")")+":"+nest("(", 19, "1", ")"))
	fine(t, deep+"?1:2")
	fine(t, nest("-", 61, "1", "")+"+"+deep+"+"+nest("-", 61, "1", ""))
	fine(t, nest("(1)*", 499, "1", ""))
	fails(t, deep+"+("+deep+")", len(deep)+1+21, api.ErrDeep)
	fails(t, deep+"+"+deep+"+("+deep+")", 2*len(deep)+2+21, api.ErrDeep)
	fails(t, deep+"?"+deep+":1", len(deep)+1+20, api.ErrDeep)
	fine(t, deep+"?1:"+deep)
	fails(t, deep+"?1:-"+deep, len(deep)+4+20, api.ErrDeep)
	fails(t, deep+"*"+nest("-", 62, "1", ""), len(deep)+1+62, api.ErrDeep)
	fails(t, "(("+deep+"?1:2))", 21, api.ErrDeep)
}

// P13.2: brackets, signs, assignments, choices, mixed: just as many as may be, and one more.
func TestDeepMixed(t *testing.T) {
	t.Parallel()
	// Each of these goes down by so many, and wants an assignment within it, or a term.
	for _, m := range []struct {
		ahead, behind string
		down          int
	}{
		{"-(", ")", 4}, {"!~(", ")", 5}, {"(a=", ")", 4}, {"(a+=b=", ")", 5}, {"(1?", ":2)", 5}, {"(1?2:-(", "))", 8}, {"a=1?", ":2", 3},
		{"(a=1?b=", ":2)", 7}, {"(a=-(", "))", 8}, {"1+(", ")", 3}, {"1||2&&3|(", ")", 3}, {"(1?2:3?", ":4)", 6}, {"(1?2:3?4:(", "))", 8},
	} {
		for rest := range m.down {
			n := (deepest - 3 - rest) / m.down
			if n*m.down+rest != deepest-3 {
				continue
			}
			within := nest(m.ahead, n, nest("-", rest, "1", ""), m.behind)
			fine(t, within)
			fine(t, within+" ")
			within = nest(m.ahead, n, nest("-", rest+1, "1", ""), m.behind)
			fails(t, within, n*len(m.ahead)+rest+1, api.ErrDeep)
			within = nest(m.ahead, n, nest("a=", rest, "1", ""), m.behind)
			fine(t, within)
			within = nest(m.ahead, n, nest("a=", rest+1, "1", ""), m.behind)
			fails(t, within, n*len(m.ahead)+2*rest+2, api.ErrDeep)
		}
	}
}

// P13.2: of several places that are too deep the first one is told.
func TestWhichIsTooDeep(t *testing.T) {
	t.Parallel()
	deep := nest("(", 30, "1", ")")
	fails(t, deep+"+"+deep, 21, api.ErrDeep)
	fails(t, "1+"+deep+"+"+nest("-", 90, "1", ""), 23, api.ErrDeep)
	fails(t, nest("-", 90, "1", "")+"+"+deep, 62, api.ErrDeep)
	fails(t, "1?"+deep+":"+deep, 22, api.ErrDeep)
	fails(t, "a="+deep, 2+21, api.ErrDeep)
	fails(t, "a=b="+deep, 4+20, api.ErrDeep)
	fails(t, "a=b=c="+deep, 6+20, api.ErrDeep)
	fails(t, "a=b=c=d="+deep, 8+20, api.ErrDeep)
	fails(t, "a=b=c=d=e="+deep, 10+19, api.ErrDeep)
}

// P13.2: ErrDeep is named ahead of ErrMany.
func TestDeepAndMany(t *testing.T) {
	t.Parallel()
	many := nest("1+", 1500, "1", "")
	fails(t, many+"+"+nest("(", 21, "1", ")"), len(many)+1+21, api.ErrDeep)
	fails(t, nest("(", 21, "1", ")")+"+"+many, 21, api.ErrDeep)
	fails(t, nest("-", 3000, "1", ""), 62, api.ErrDeep)
	fails(t, nest("a=", 3000, "1", ""), 128, api.ErrDeep)
}
