package atree_test

import (
	"math/rand"
	"slices"
	"strings"
	"sync"
	"testing"

	"windlass/api"
	"windlass/atree"
)

// deepAs is how many things are within one another, at most, in a tree that is written with all brackets as an assignment within so many; as a choice; as a term of level 11.
func deepAsAssignment(a x, within int) int { return deepAsTerm(a, within+2) }
func deepAsChoice(a x, within int) int     { return deepAsTerm(a, within+1) }
func deepAsTerm(a x, within int) int {
	within++
	switch {
	case len(a.kids) == 0:
		return within
	case slices.Contains(setting, a.op):
		return deepAsAssignment(a.kids[0], within+1)
	case len(a.kids) == 1:
		return deepAsTerm(a.kids[0], within+3)
	case len(a.kids) == 2:
		return max(deepAsTerm(a.kids[0], within+2), deepAsTerm(a.kids[1], within+2))
	}
	return max(deepAsTerm(a.kids[0], within+2), deepAsAssignment(a.kids[1], within+2), deepAsChoice(a.kids[2], within+2))
}

// returns asks that Parse of Print of a tree's row is that row, or too deep.
func returns(t *testing.T, a x) api.Errno {
	t.Helper()
	l := row(a)
	if !atree.Fit(l) {
		t.Errorf("%s is not fit", listed(l))
	}
	s := atree.Print(l)
	got, place, err := atree.Parse(s)
	deep := deepAsAssignment(a, 0)
	switch {
	case deep > deepest && (err != api.ErrDeep || got != nil):
		t.Errorf("Parse(%s) = %s, %d, %v, though it is %d deep", short(s), listed(got), place, err, deep)
	case deep <= deepest && (err != api.OK || place != 0 || !equal(got, l) || !atree.Same(got, l)):
		t.Errorf("Parse(%s) = %s, %d, %v, not %s", short(s), listed(got), place, err, listed(l))
	}
	return err
}

// P13.4: Parse of Print of a fit row is that row, if it is not too deep; trees by seeds.
func TestThereAndBack(t *testing.T) {
	t.Parallel()
	met := map[api.Errno]int{}
	for seed := range int64(8000) {
		r := rand.New(rand.NewSource(seed))
		n := 1 + r.Intn(25)
		if seed%8 == 0 {
			n = 1 + r.Intn(mostOps)
		}
		a := wildTree(r, n)
		if len(row(a)) <= mostOps {
			met[returns(t, a)]++
		}
	}
	if met[api.OK] < 4000 || met[api.ErrDeep] < 200 || len(met) != 2 {
		t.Errorf("errors met: %v", met)
	}
}

// P13.4: each Op with each Op as one of its Kids.
func TestEachInEachThereAndBack(t *testing.T) {
	t.Parallel()
	for op, kids := range allKids {
		for other, its := range allKids {
			for at := range kids {
				within := some(kids)
				within[at] = sample(other, some(its)...)
				returns(t, sample(op, within...))
			}
		}
	}
}

// balanced is a tree of operators of two terms, of 2 n - 1 operations.
func balanced(n int) x {
	if n == 1 {
		return num(int64(n))
	}
	return both(balanced(n/2), joining[n%len(joining)], balanced(n-n/2))
}

// P13.4: the greatest rows that are not too deep, and the deepest that are not, by each Kid of each kind.
func TestTheGreatestThereAndBack(t *testing.T) {
	t.Parallel()
	if err := returns(t, signed("-", balanced(500))); err != api.OK {
		t.Error(err)
	}
	if err := returns(t, set("a", "=", balanced(500))); err != api.OK {
		t.Error(err)
	}
	for kind, within := range []func(a x) x{
		func(a x) x { return signed("-", a) },
		func(a x) x { return set("a", "-=", a) },
		func(a x) x { return both(a, "-", num(1)) },
		func(a x) x { return both(num(1), "-", a) },
		func(a x) x { return chosen(a, num(1), num(2)) },
		func(a x) x { return chosen(num(1), a, num(2)) },
		func(a x) x { return chosen(num(1), num(2), a) },
		func(a x) x { return signed("-", set("a", "=", a)) },
		func(a x) x { return both(num(1), "-", chosen(num(1), signed("~", a), num(2))) },
	} {
		met := map[api.Errno]int{}
		a := num(0)
		for range 40 {
			met[returns(t, a)]++
			a = within(a)
		}
		if met[api.OK] < 6 || met[api.ErrDeep] < 6 {
			t.Errorf("of the kind %d: %v", kind, met)
		}
	}
}

// P13.4: what Parse tells is fit, and Print of it, where that is not too deep, is the same again.
func TestWhatIsToldIsFit(t *testing.T) {
	t.Parallel()
	met := map[api.Errno]int{}
	for seed := range int64(8000) {
		r := rand.New(rand.NewSource(seed))
		s := sparse(r, wildTree(r, 1+r.Intn(60)), 0)
		if seed%4 == 0 {
			i := r.Intn(len(s))
			s = s[:i] + "(?:)=+-a1"[r.Intn(9):][:1] + s[i:]
		}
		l, _, err := atree.Parse(s)
		met[err]++
		if err != api.OK {
			continue
		}
		if !atree.Fit(l) || !toldFit(l) {
			t.Fatalf("Parse(%s) = %s", short(s), listed(l))
		}
		again, _, err := atree.Parse(atree.Print(l))
		if err != api.ErrDeep && (err != api.OK || !atree.Same(again, l)) {
			t.Fatalf("Parse of Print of %s = %s, %v", listed(l), listed(again), err)
		}
	}
	if met[api.OK] < 4000 || met[api.ErrSyntax] < 400 {
		t.Errorf("errors met: %v", met)
	}
}

// 0.5: what one call told is not seen to change by another, and no two lists of one answer share memory.
func TestNothingIsShared(t *testing.T) {
	t.Parallel()
	const s = "a=-x?(1+2)*3:(b<<=0x1F)"
	first, _, _ := atree.Parse(s)
	second, _, _ := atree.Parse(s)
	want := row(set("a", "=", chosen(signed("-", ref("x")), both(both(num(1), "+", num(2)), "*", num(3)), set("b", "<<=", num(31)))))
	for i := range second {
		for k := range second[i].Kids {
			second[i].Kids[k] = -7
		}
		second[i] = api.Anode{Op: "changed"}
	}
	atree.Parse("other+texts")
	if !equal(first, want) {
		t.Errorf("%s are now %s", listed(want), listed(first))
	}
	for i := range first {
		kept := first[i].Kids
		for range 4 {
			first[i].Kids = append(first[i].Kids, -7)
		}
		first[i].Kids = kept
	}
	if !equal(first, want) {
		t.Errorf("by lists that share memory %s are now %s", listed(want), listed(first))
	}
	a, b := row(balanced(50)), row(balanced(50))
	atree.Same(a, b)
	atree.Fit(a)
	atree.Print(a)
	if !equal(a, b) {
		t.Errorf("a call changed its row to %s", listed(a))
	}
}

// 0.5: calls that go on at one time tell what each tells alone.
func TestAtOneTime(t *testing.T) {
	t.Parallel()
	var all sync.WaitGroup
	for seed := range int64(8) {
		all.Go(func() {
			r := rand.New(rand.NewSource(seed))
			for range 300 {
				a := wildTree(r, 1+r.Intn(12))
				if s := sparse(r, a, 0); !strings.Contains(s, "((((((((((((") {
					holds(t, s, a)
				}
				returns(t, a)
			}
		})
	}
	all.Wait()
}
