package atree_test

import (
	"math"
	"slices"
	"strconv"
	"strings"
	"testing"

	"windlass/api"
	"windlass/atree"
)

// P13.3: numbers and names have no brackets.
func TestPrintNumbersAndNames(t *testing.T) {
	t.Parallel()
	for _, n := range []int64{0, 1, 7, 8, 9, 10, 42, 100, 1 << 31, 1 << 32, math.MaxInt64 - 1, math.MaxInt64} {
		prints(t, num(n), strconv.FormatInt(n, 10))
	}
	for _, s := range []string{"a", "_", "x1", "Z_9", strings.Repeat("n", 5000)} {
		prints(t, ref(s), s)
	}
}

// P13.3: each kind of operation.
func TestPrintEachKind(t *testing.T) {
	t.Parallel()
	for _, op := range joining {
		prints(t, both(num(1), op, num(2)), "(1"+op+"2)")
		prints(t, both(ref("a"), op, ref("b")), "(a"+op+"b)")
		prints(t, both(both(num(1), op, num(2)), op, num(3)), "((1"+op+"2)"+op+"3)")
		prints(t, both(num(1), op, both(num(2), op, num(3))), "(1"+op+"(2"+op+"3))")
	}
	for _, op := range signs {
		prints(t, signed(op, num(1)), "("+op+"1)")
		prints(t, signed(op, ref("a")), "("+op+"a)")
		prints(t, signed(op, signed(op, num(1))), "("+op+"("+op+"1))")
		prints(t, both(num(1), "-", signed(op, num(2))), "(1-("+op+"2))")
	}
	for _, op := range setting {
		prints(t, set("a", op, num(1)), "(a"+op+"1)")
		prints(t, set("_x", op, ref("a")), "(_x"+op+"a)")
		prints(t, set("u", op, set("b", op, num(1))), "(u"+op+"(b"+op+"1))")
		prints(t, both(set("a", op, num(1)), "*", set("b", op, num(2))), "((a"+op+"1)*(b"+op+"2))")
	}
	prints(t, chosen(num(1), num(2), num(3)), "(1?2:3)")
	prints(t, chosen(ref("a"), ref("b"), ref("c")), "(a?b:c)")
	inner := chosen(num(1), num(2), num(3))
	prints(t, chosen(inner, inner, inner), "((1?2:3)?(1?2:3):(1?2:3))")
	prints(t, chosen(set("a", "=", num(1)), signed("-", num(2)), both(num(3), "<<", ref("u"))), "((a=1)?(-2):(3<<u))")
}

// P13.3: all brackets, whatever the levels are, and all that stood in the text in other forms.
func TestPrintOfParse(t *testing.T) {
	t.Parallel()
	for s, want := range map[string]string{
		"1": "1", "((1))": "1", " a ": "a", "0x1F": "31", "010": "8", "000": "0",
		"1+2*3": "(1+(2*3))", "1*2+3": "((1*2)+3)", "1-2-3": "((1-2)-3)", "-1": "(-1)", "- -1": "(-(-1))", "!~a": "(!(~a))",
		"a=b=1": "(a=(b=1))", "a<<=1<<2": "(a<<=(1<<2))", "1?2:3?4:5": "(1?2:(3?4:5))", "1?2?3:4:5": "(1?(2?3:4):5)",
		"1||2&&3|4^5&6==7<8<<9+10*-11": "(1||(2&&(3|(4^(5&(6==(7<(8<<(9+(10*(-11)))))))))))",
		"1*2+3<<4<5==6&7^8|9&&10||11":  "((((((((((1*2)+3)<<4)<5)==6)&7)^8)|9)&&10)||11)",
		"a ? b = 1 : c":                "(a?(b=1):c)",
	} {
		l, _, err := atree.Parse(s)
		if got := atree.Print(l); got != want || err != api.OK {
			t.Errorf("Print of Parse(%s) = %s, %v, not %s", s, got, err, want)
		}
	}
}

// P13.3: the greatest fit rows.
func TestPrintTheGreatest(t *testing.T) {
	t.Parallel()
	left, right := num(1), ref("a")
	for range 499 {
		left, right = both(left, "-", num(1)), both(ref("a"), "-", right)
	}
	prints(t, signed("-", left), "(-"+nest("(", 499, "1", "-1)")+")")
	prints(t, set("b", "=", right), "(b="+nest("(a-", 499, "a", ")")+")")
	signs, sets, thirds, seconds, firsts := num(7), ref("a"), num(3), num(2), num(1)
	for range 999 {
		signs, sets = signed("!", signs), set("a", "|=", sets)
	}
	prints(t, signs, nest("(!", 999, "7", ")"))
	prints(t, sets, nest("(a|=", 999, "a", ")"))
	for range 333 {
		thirds, seconds, firsts = chosen(num(1), num(2), thirds), chosen(num(1), seconds, num(3)), chosen(firsts, num(2), num(3))
	}
	prints(t, thirds, nest("(1?2:", 333, "3", ")"))
	prints(t, seconds, nest("(1?", 333, "2", ":3)"))
	prints(t, firsts, nest("(", 333, "1", "?2:3)"))
	long := strings.Repeat("n", 3000)
	many := ref(long)
	for range 999 {
		many = set(long, "=", many)
	}
	prints(t, many, nest("("+long+"=", 999, long, ")"))
}

// 0.1: of rows that are not fit nothing is promised but that Print, Fit and Same end.
func TestUnfitRowsEnd(t *testing.T) {
	t.Parallel()
	n := api.Anode{Op: "#", Num: 1}
	rows := [][]api.Anode{
		nil, {}, {{}}, {n, n}, {{Op: "u-", Kids: []int{0}}}, {{Op: "u-", Kids: []int{-1}}}, {{Op: "u-", Kids: []int{1}}, {Op: "u-", Kids: []int{0}}}, {{Op: "+", Kids: []int{0, 0}}}, {n, {Op: "+", Kids: []int{1, 1}}},
		{n, {Op: "?", Kids: []int{0, 0, 0, 0}}}, {{Op: "?"}}, {{Op: "="}}, {{Op: "$"}}, {{Op: "#", Num: math.MinInt64}}, {{Op: "nosuch", Kids: []int{math.MaxInt, math.MinInt}}}, {{Op: "u"}}, {n, {Op: "u", Kids: []int{0}}},
		make([]api.Anode, 100000), slices.Repeat([]api.Anode{n}, 100000),
	}
	double := []api.Anode{n} // twice as much with each operation, were it gone through
	for i := range 900 {
		double = append(double, api.Anode{Op: "+", Kids: []int{i, i}})
	}
	deep := []api.Anode{n} // too many of them
	for i := range 1000000 {
		deep = append(deep, api.Anode{Op: "u-", Kids: []int{i}})
	}
	for _, l := range append(rows, double, deep) {
		atree.Print(l)
		isFit(t, l, false)
		if !atree.Same(l, slices.Clone(l)) {
			t.Errorf("%s is not itself", listed(l))
		}
	}
}
