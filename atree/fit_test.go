package atree_test

import (
	"math"
	"math/rand"
	"slices"
	"strings"
	"testing"

	"windlass/api"
	"windlass/atree"
)

// allKids is what kidsOf tells.
var allKids = kidsOf()

// kidsOf is how many Kids each Op has, as the chapter lists them.
func kidsOf() map[string]int {
	kids := map[string]int{"#": 0, "$": 0, "?": 3, "u+": 1, "u-": 1, "u!": 1, "u~": 1}
	for _, op := range setting {
		kids[op] = 1
	}
	for _, op := range joining {
		kids[op] = 2
	}
	return kids
}

// noOps are texts that are no Op.
var noOps = []string{"", " ", "u", "u*", "u?", "u=", "u#", "u$", "uu-", "-u", "U-", "u--", "!", "~", ":", "(", ")", "()", "?:", "##", "$$", "++", "--", "**", "===", "!==", "&&=", "||=", "<>", "=>", ">>>", "<<<", "=<", "~=", "!!", "a", "1", "+ ", " +", "len", "u+u", "+\x00", "\xff"}

// sample is an operation of an Op that is fit ahead of so many others.
func sample(op string, kids ...x) x {
	a := x{op: op, kids: kids}
	switch {
	case op == "#":
		a.num = 7
	case op == "$" || slices.Contains(setting, op):
		a.name = "n"
	}
	return a
}

// some is a row of so many trees.
func some(n int) []x {
	return []x{num(1), ref("b"), signed("-", num(2)), both(num(3), "+", ref("c"))}[:n]
}

// isFit asks whether a row is fit.
func isFit(t *testing.T, l []api.Anode, want bool) {
	t.Helper()
	if got := atree.Fit(l); got != want {
		t.Errorf("Fit(%s) = %v", listed(l), got)
	}
}

// P13.1: each Op with just its Kids is fit, and with less or more of them, which stand right ahead of it, it is not.
func TestKidsOfEachOp(t *testing.T) {
	t.Parallel()
	all := allKids
	if len(all) != 7+11+18 {
		t.Fatalf("%d Ops", len(all))
	}
	for op, kids := range all {
		for n := range 5 {
			l := row(sample(op, some(n)...))
			isFit(t, l, n == kids)
			isFit(t, row(both(num(1), "+", sample(op, some(n)...))), n == kids)
			isFit(t, row(both(sample(op, some(n)...), "+", num(1))), n == kids)
		}
	}
	for _, op := range noOps {
		if _, is := all[op]; is {
			t.Fatalf("%q is an Op", op)
		}
		for n := range 5 {
			isFit(t, row(sample(op, some(n)...)), false)
			isFit(t, row(signed("!", sample(op, some(n)...))), false)
		}
	}
}

// P13.1: a Name just of a $ and an assignment, and it is a name; a Num just of a #, from 0 on.
func TestFields(t *testing.T) {
	t.Parallel()
	for op, kids := range allKids {
		named := op == "$" || slices.Contains(setting, op)
		for _, name := range []string{"a", "_", "n9", "Z", "x_1", strings.Repeat("n", 5000)} {
			a := sample(op, some(kids)...)
			a.name = name
			isFit(t, row(a), named)
			isFit(t, row(chosen(num(1), a, num(2))), named)
		}
		for _, name := range []string{"", "1", "1a", " ", "a ", " a", "a b", "a-", "-", "$", "$a", "a=", "é", "a\n", "\x00", "\xff", "a\xff", "(a)"} {
			a := sample(op, some(kids)...)
			a.name = name
			isFit(t, row(a), !named && name == "")
			isFit(t, row(chosen(num(1), num(2), a)), !named && name == "")
		}
		for _, n := range []int64{0, 1, 2, math.MaxInt64, 1 << 32, 1 << 62, -1, -2, math.MinInt64, -1 << 32} {
			a := sample(op, some(kids)...)
			a.num = n
			isFit(t, row(a), n == 0 || op == "#" && n > 0)
			isFit(t, row(chosen(a, num(2), num(1))), n == 0 || op == "#" && n > 0)
		}
	}
}

// P13.1: no operations are not fit, nor more than 1000.
func TestHowManyAreFit(t *testing.T) {
	t.Parallel()
	isFit(t, nil, false)
	isFit(t, []api.Anode{}, false)
	isFit(t, []api.Anode{{}}, false)
	isFit(t, row(num(0)), true)
	left, right, signs, sets := num(1), num(1), num(1), ref("a")
	for n := 1; n < 1100; n++ {
		isFit(t, row(signs), n <= mostOps)
		isFit(t, row(sets), n <= mostOps)
		if 2*n-1 <= 1100 {
			isFit(t, row(left), 2*n-1 <= mostOps)
			isFit(t, row(right), 2*n-1 <= mostOps)
			isFit(t, row(signed("-", left)), 2*n <= mostOps)
			isFit(t, row(chosen(right, left, num(1)))[:2*n-1], 2*n-1 <= mostOps) // the first of its three
			left, right = both(left, "+", num(1)), both(num(1), "+", right)
		}
		signs, sets = signed("~", signs), set("a", "=", sets)
	}
	isFit(t, make([]api.Anode, 5000), false)
	isFit(t, slices.Repeat(row(num(1)), 999), false)
	isFit(t, slices.Repeat(row(num(1)), 1000), false)
}

// P13.1: rows that are fit.
func TestFitRows(t *testing.T) {
	t.Parallel()
	for _, s := range []string{"1", "a", "1+2*3", "a=1", "a?b:c", "-1", "(a=-x?(1+2)*3:(b<<=0x1F))", "1+(2+(3+4))", "((1+2)+3)+4", "(1+2)*(3+4)", "a=b=c", "!~-+1", "1?2?3:4:5?6:7"} {
		l, _, err := atree.Parse(s)
		if err != api.OK {
			t.Errorf("Parse(%s): %v", s, err)
		}
		isFit(t, l, true)
		for i := range len(l) {
			if i > 0 {
				isFit(t, l[i:], false) // its Kids are other ones now, or none are
			}
		}
	}
	isFit(t, []api.Anode{{Op: "#", Kids: []int{}}}, true)
	isFit(t, []api.Anode{{Op: "$", Name: "a", Kids: []int{}}, {Op: "u-", Kids: []int{0}}}, true)
}

// P13.1: a Kid that is not ahead, a place that is nobody's Kid or two operations', Kids that are out of order, or not right ahead.
func TestWrongKids(t *testing.T) {
	t.Parallel()
	n := api.Anode{Op: "#", Num: 1}
	op := func(op string, kids ...int) api.Anode { return api.Anode{Op: op, Kids: kids} }
	isFit(t, []api.Anode{n, n, op("+", 0, 1)}, true)
	isFit(t, []api.Anode{n, op("u-", 0), n, op("+", 1, 2)}, true)
	isFit(t, []api.Anode{n, n, n, op("+", 1, 2), op("+", 0, 3)}, true)
	isFit(t, []api.Anode{n, n, op("+", 0, 1), n, op("+", 2, 3)}, true)
	isFit(t, []api.Anode{n, n, n, op("?", 0, 1, 2)}, true)
	for _, l := range [][]api.Anode{
		// not ahead
		{op("u-", 0)}, {op("u-", -1)}, {n, op("u-", 1)}, {n, op("u-", 2)}, {n, op("u-", -1)}, {n, op("u-", math.MaxInt)}, {n, op("u-", math.MinInt)},
		{op("u-", 1), n}, {n, op("+", 0, 2), n}, {n, op("+", 0, 1)}, {n, n, op("+", 0, 2)}, {n, n, op("+", 2, 1)}, {n, n, op("+", -1, 1)}, {n, n, op("+", 0, 3)},
		{op("+", 1, 2), n, n}, {n, op("u-", 2), op("u-", 1)}, {n, n, n, op("?", 0, 1, 3)}, {n, n, n, op("?", 3, 1, 2)}, {n, n, n, op("?", 0, 4, 2)},
		// nobody's
		{n, n}, {n, n, n}, {n, n, op("u-", 1)}, {n, n, op("u-", 0)}, {n, op("u-", 0), n}, {n, n, n, op("+", 1, 2)}, {n, n, n, op("+", 0, 1)}, {n, n, n, op("+", 0, 2)},
		{n, n, op("+", 0, 1), n}, {n, n, n, n, op("?", 1, 2, 3)}, {n, n, op("+", 0, 1), n, op("u-", 3)},
		// two operations', or twice one's
		{n, op("u-", 0), op("u-", 0)}, {n, op("u-", 0), op("+", 0, 1)}, {n, op("+", 0, 0)}, {n, n, op("+", 0, 1), op("+", 1, 2)}, {n, n, op("+", 0, 0)}, {n, n, op("+", 1, 1)},
		{n, n, op("u-", 1), op("+", 0, 1)}, {n, n, n, op("?", 0, 1, 1)}, {n, n, n, op("?", 0, 0, 2)}, {n, n, op("?", 0, 1, 1)}, {n, n, n, op("?", 2, 2, 2)}, {n, n, op("+", 0, 1), op("+", 0, 2)},
		// out of order
		{n, n, op("+", 1, 0)}, {n, op("u-", 0), n, op("+", 2, 1)}, {n, n, n, op("?", 0, 2, 1)}, {n, n, n, op("?", 1, 0, 2)}, {n, n, n, op("?", 2, 1, 0)}, {n, n, n, op("?", 1, 2, 0)}, {n, n, n, op("+", 1, 2), op("+", 3, 0)},
		// not right ahead
		{n, n, op("u-", 0), op("+", 2, 1)}, {n, n, op("u-", 0), op("+", 1, 2)}, {n, n, n, op("+", 0, 1), op("+", 2, 3)}, {n, n, n, op("+", 0, 1), op("+", 3, 2)},
		{n, n, n, op("+", 0, 2), op("+", 1, 3)}, {n, n, n, op("+", 0, 2), op("+", 3, 1)}, {n, n, op("u-", 0), op("u-", 1), op("+", 2, 3)}, {n, n, n, n, op("+", 0, 1), op("+", 2, 3), op("+", 4, 5)},
		{n, n, n, n, op("+", 2, 3), op("u-", 1), op("?", 0, 5, 4)},
	} {
		isFit(t, l, false)
	}
}

// toldFit tells of small rows whether they are fit, told another way: the row is the one that its last operation's tree gives.
func toldFit(l []api.Anode) bool {
	if len(l) == 0 || len(l) > mostOps {
		return false
	}
	all := allKids
	var tree func(place, deep int) (x, bool)
	tree = func(place, deep int) (x, bool) {
		if place < 0 || place >= len(l) || deep > len(l) {
			return x{}, false
		}
		a := l[place]
		kids, is := all[a.Op]
		named := a.Op == "$" || slices.Contains(setting, a.Op)
		if !is || kids != len(a.Kids) || named != (a.Name != "") || a.Num < 0 || a.Num > 0 && a.Op != "#" {
			return x{}, false
		}
		whole := x{op: a.Op, num: a.Num, name: a.Name}
		for _, kid := range a.Kids {
			b, is := tree(kid, deep+1)
			if !is {
				return x{}, false
			}
			whole.kids = append(whole.kids, b)
		}
		return whole, true
	}
	whole, is := tree(len(l)-1, 0)
	return is && equal(row(whole), l)
}

// P13.1: all rows of up to three operations of a few Ops with Kids about the places that there are.
func TestAllSmallRows(t *testing.T) {
	t.Parallel()
	var one []api.Anode
	for _, op := range []string{"#", "u-", "+", "="} {
		for _, kids := range [][]int{nil, {-1}, {0}, {1}, {2}, {0, 0}, {0, 1}, {1, 0}, {1, 2}, {0, 2}, {1, 1}, {2, 1}, {0, 1, 2}} {
			a := api.Anode{Op: op, Kids: kids}
			if op == "=" {
				a.Name = "a"
			}
			one = append(one, a)
		}
	}
	fit := 0
	var all func(l []api.Anode)
	all = func(l []api.Anode) {
		want := toldFit(l)
		isFit(t, l, want)
		if want {
			fit++
		}
		if len(l) < 3 {
			for _, a := range one {
				all(append(slices.Clone(l), a))
			}
		}
	}
	all(nil)
	if fit != 1+2+(4+1) {
		t.Errorf("%d rows are fit", fit)
	}
}

// P13.1: rows by seeds, fit but for one change.
func TestFitBySeeds(t *testing.T) {
	t.Parallel()
	met := map[bool]int{}
	for seed := range int64(25000) {
		r := rand.New(rand.NewSource(seed))
		l := row(wildTree(r, 1+r.Intn(12)))
		isFit(t, l, true)
		i := r.Intn(len(l))
		switch a := &l[i]; r.Intn(6) {
		case 0:
			a.Kids = append(slices.Clone(a.Kids), r.Intn(i+2)-1)
		case 1:
			if len(a.Kids) > 0 {
				a.Kids = slices.Clone(a.Kids)
				a.Kids[r.Intn(len(a.Kids))] = r.Intn(len(l)+2) - 1
			}
		case 2:
			a.Op = wildTree(r, 1).op
		case 3:
			j := r.Intn(len(l))
			l[i], l[j] = l[j], l[i]
		case 4:
			l = slices.Delete(l, i, i+1)
		case 5:
			l = slices.Insert(l, i, l[r.Intn(len(l))])
		}
		want := toldFit(l)
		isFit(t, l, want)
		met[want]++
	}
	if met[true] < 1000 || met[false] < 1000 {
		t.Errorf("met: %v", met)
	}
}

// P13.1: Same asks all fields of all operations, in their order; an empty list is none.
func TestSame(t *testing.T) {
	t.Parallel()
	same := func(a, b []api.Anode, want bool) {
		t.Helper()
		if atree.Same(a, b) != want || atree.Same(b, a) != want {
			t.Errorf("Same(%s, %s) is not %v", listed(a), listed(b), want)
		}
	}
	l := row(set("a", "+=", chosen(ref("b"), signed("-", num(2)), both(num(3), "*", ref("c")))))
	same(nil, nil, true)
	same(nil, []api.Anode{}, true)
	same([]api.Anode{}, []api.Anode{}, true)
	same(l, l, true)
	same(l, slices.Clone(l), true)
	same(l, nil, false)
	same(l, []api.Anode{}, false)
	same([]api.Anode{{}}, nil, false)
	same([]api.Anode{{}}, []api.Anode{{Kids: []int{}}}, true)
	same([]api.Anode{{}}, []api.Anode{{}, {}}, false)
	same([]api.Anode{{Kids: []int{-5}}}, []api.Anode{{Kids: []int{-5}}}, true)
	for i := range l {
		same(l, l[:i], false)
		same(l, l[i+1:], false)
		same(l, slices.Concat(l, l[i:i+1]), false)
		for _, change := range []func(a *api.Anode){
			func(a *api.Anode) { a.Op += "=" }, func(a *api.Anode) { a.Op = "" }, func(a *api.Anode) { a.Op += "\x00" },
			func(a *api.Anode) { a.Num++ }, func(a *api.Anode) { a.Num = -a.Num - 1 }, func(a *api.Anode) { a.Num += 1 << 32 },
			func(a *api.Anode) { a.Name += "a" }, func(a *api.Anode) { a.Name = "B" }, func(a *api.Anode) { a.Name += "\xff" },
			func(a *api.Anode) { a.Kids = append(slices.Clone(a.Kids), 0) },
			func(a *api.Anode) { a.Kids = append([]int{0}, a.Kids...) },
			func(a *api.Anode) { a.Kids = append(slices.Clone(a.Kids), -1) },
		} {
			other := slices.Clone(l)
			change(&other[i])
			same(l, other, false)
			same(other, other, true)
		}
		for k := range l[i].Kids {
			other := slices.Clone(l)
			other[i].Kids = slices.Clone(l[i].Kids)
			other[i].Kids[k]++
			same(l, other, false)
			other[i].Kids = slices.Delete(slices.Clone(l[i].Kids), k, k+1)
			same(l, other, false)
		}
	}
	same(row(both(num(1), "+", num(2))), row(both(num(2), "+", num(1))), false)
	same([]api.Anode{{Op: "a"}, {Op: "b"}}, []api.Anode{{Op: "b"}, {Op: "a"}}, false)
	same([]api.Anode{{Op: "a"}}, []api.Anode{{Name: "a"}}, false)
	same([]api.Anode{{Kids: []int{1, 2}}}, []api.Anode{{Kids: []int{2, 1}}}, false)
	long := slices.Repeat(l, 20000)
	same(long, slices.Clone(long), true)
	same(long, long[1:], false)
}
