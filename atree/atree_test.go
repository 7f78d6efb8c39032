package atree_test

import (
	"math"
	"strings"
	"testing"

	"windlass/api"
	"windlass/atree"
)

// The chapter's examples.
func TestExamples(t *testing.T) {
	t.Parallel()
	fails(t, "1+2*a=3", 5, api.ErrSyntax)
	for s, want := range map[string]string{"a=1+2*3": "(a=(1+(2*3)))", "x?-1:y": "(x?(-1):y)"} {
		l, place, err := atree.Parse(s)
		if got := atree.Print(l); got != want || place != 0 || err != api.OK {
			t.Errorf("Print of Parse(%s) = %s, %d, %v", s, got, place, err)
		}
	}
}

// P13.2: ordinary expressions.
func TestParse(t *testing.T) {
	t.Parallel()
	one, two, three, a, b := num(1), num(2), num(3), ref("a"), ref("b")
	holds(t, "1+2*3", both(one, "+", both(two, "*", three)))
	holds(t, "(1+2)*3", both(both(one, "+", two), "*", three))
	holds(t, "1*2+3", both(both(one, "*", two), "+", three))
	holds(t, "1-2-3", both(both(one, "-", two), "-", three))
	holds(t, "a<1||b>=2&&!a", both(both(a, "<", one), "||", both(both(b, ">=", two), "&&", signed("!", a))))
	holds(t, "a=1+2*3", set("a", "=", both(one, "+", both(two, "*", three))))
	holds(t, "a+=b-=3", set("a", "+=", set("b", "-=", three)))
	holds(t, "a?1:b?2:3", chosen(a, one, chosen(b, two, three)))
	holds(t, "(a=3)*a", both(set("a", "=", three), "*", a))
	holds(t, "1||(b=1)", both(one, "||", set("b", "=", one)))
	holds(t, "-a*-1", both(signed("-", a), "*", signed("-", one)))
	holds(t, "~1&3|2^1", both(both(signed("~", one), "&", three), "|", both(two, "^", one)))
	holds(t, "a==1?b=2:-3", chosen(both(a, "==", one), set("b", "=", two), signed("-", three)))
	holds(t, "1<<2+3", both(one, "<<", both(two, "+", three)))
	holds(t, "a = ( b = 1 ) ? 2 : 3", set("a", "=", chosen(set("b", "=", one), two, three)))
	holds(t, "7/0", both(num(7), "/", num(0)))
}

// P13.2: a row is written from below: each operation's Kids, with all beneath them, right ahead of it, in order.
func TestRow(t *testing.T) {
	t.Parallel()
	l, place, err := atree.Parse("a=-x?(1+2)*3:b<<=0x1F")
	if l != nil || place != 14 || err != api.ErrSyntax {
		t.Errorf("%s, %d, %v", listed(l), place, err)
	}
	l, place, err = atree.Parse("a=-x?(1+2)*3:(b<<=0x1F)")
	want := []api.Anode{
		{Op: "$", Name: "x"},
		{Op: "u-", Kids: []int{0}},
		{Op: "#", Num: 1},
		{Op: "#", Num: 2},
		{Op: "+", Kids: []int{2, 3}},
		{Op: "#", Num: 3},
		{Op: "*", Kids: []int{4, 5}},
		{Op: "#", Num: 31},
		{Op: "<<=", Name: "b", Kids: []int{7}},
		{Op: "?", Kids: []int{1, 6, 8}},
		{Op: "=", Name: "a", Kids: []int{9}},
	}
	if !equal(l, want) || place != 0 || err != api.OK {
		t.Errorf("%s, %d, %v", listed(l), place, err)
	}
}

// P13.2: numbers alone, of all three kinds, with their values.
func TestNumbersAlone(t *testing.T) {
	t.Parallel()
	for s, n := range map[string]int64{"0": 0, "1": 1, "9": 9, "10": 10, "007": 7, "010": 8, "0x1F": 31, "0XfF": 255, "9223372036854775807": math.MaxInt64, "0x7fffffffffffffff": math.MaxInt64, "0777777777777777777777": math.MaxInt64} {
		holds(t, s, num(n))
		holds(t, " "+s+"\n", num(n))
		holds(t, "("+s+")", num(n))
		holds(t, "-"+s, signed("-", num(n)))
	}
}

// P13.2: names alone; one that no assigning operator is right behind is no assignment.
func TestNamesAlone(t *testing.T) {
	t.Parallel()
	for _, s := range []string{"a", "_", "x1", "Z_9", "u", "do", "x0x1F", strings.Repeat("n", 70000)} {
		holds(t, s, ref(s))
		holds(t, "\t"+s+" ", ref(s))
		holds(t, "("+s+")", ref(s))
		holds(t, s+"=="+s, both(ref(s), "==", ref(s)))
		holds(t, s+"<="+s, both(ref(s), "<=", ref(s)))
		holds(t, s+" + "+s, both(ref(s), "+", ref(s)))
		holds(t, s+"=="+s+"!="+s, both(both(ref(s), "==", ref(s)), "!=", ref(s)))
	}
}

// P13.2: brackets within brackets tell what is in them.
func TestBrackets(t *testing.T) {
	t.Parallel()
	one, a := num(1), ref("a")
	for n := range 18 {
		holds(t, nest("(", n, "1", ")"), one)
		holds(t, nest("(", n, "a", ")"), a)
		holds(t, nest("( ", n, "a=1", ")\n"), set("a", "=", one))
		holds(t, nest("(", n, "a?1:a", ")"), chosen(a, one, a))
		holds(t, nest("(", n, "(1+a)", ")")+"*1", both(both(one, "+", a), "*", one))
		holds(t, "1*"+nest("(", n, "(1+a)", ")"), both(one, "*", both(one, "+", a)))
		holds(t, "a|="+nest("(", n, "a", ")"), set("a", "|=", a))
	}
	holds(t, "((1)+((a)))*(1)", both(both(one, "+", a), "*", one))
	holds(t, "(1)-(a-(1-a))", both(one, "-", both(a, "-", both(one, "-", a))))
	holds(t, "((((1-a))-1)-a)", both(both(both(one, "-", a), "-", one), "-", a))
}

// P13.2: blanks between tokens change nothing.
func TestBlanks(t *testing.T) {
	t.Parallel()
	want := set("a", "<<=", chosen(both(ref("b"), "&&", num(8)), signed("-", signed("-", num(1))), both(ref("c"), "<", num(31))))
	for _, b := range []string{"", " ", "\n", "\t", " \n\t ", strings.Repeat(" ", 3000)} {
		tokens := strings.Fields("a <<= b && 010 ? ( - ( - 1 ) ) : c < 0x1F")
		holds(t, b+strings.Join(tokens, b)+b, want)
	}
}
