package glob_test

import (
	"math/rand"
	"slices"
	"strings"
	"testing"

	"windlass/tree"
)

// wildPart is a part as of reads it, with Magic or without; what a tree that grew has is often as it wants it.
func wildPart(r *rand.Rand) string {
	all := []string{
		"*", "*", "*", "?", "a*", "*a", "?*", "[ab]", "[!a]*", "[a-c]", "[[:alpha:]]", "[[:punct:]]*", "*-", "a?", ".*", ".?*", `\.*`, "[.]*", "..*", "*.", `\**`, `*\*`, "[[]*", "[a", "b]", "[!\xff]", "*\xff",
		"a", "b", "c", "ab", "a-", ".", ".", "..", ".a", "...", `\*`, `\[a`, "\xff", `\a`, "nothing",
	}
	return all[r.Intn(len(all))]
}

// wildPattern is a pattern of at most n parts, as of reads it, with slashes of all kinds between.
func wildPattern(r *rand.Rand, n int) string {
	slashes := []string{"/", "/", "/", "/", "//", `\/`, `/\/`, "///"}
	p := ""
	if r.Intn(4) == 0 {
		p = slashes[r.Intn(len(slashes))]
	}
	for i := range 1 + r.Intn(n) {
		if i > 0 {
			p += slashes[r.Intn(len(slashes))]
		}
		p += wildPart(r)
	}
	if r.Intn(4) == 0 {
		p += slashes[r.Intn(len(slashes))]
	}
	return p
}

// wildMarks is the pattern with quoted cut, or made longer, or with some of it another.
func wildMarks(r *rand.Rand, p pat) pat {
	switch r.Intn(8) {
	case 0:
		p.quoted = p.quoted[:r.Intn(len(p.quoted)+1)]
	case 1:
		p.quoted += filled("1011", r.Intn(5))
	case 2:
		p.quoted = strings.Map(func(c rune) rune { return rune("01012/1"[r.Intn(7)]) }, p.quoted)
	case 3:
		p.quoted = ""
	}
	return p
}

// P11.1, P11.2: patterns by seeds, in trees that grew by seeds, against the chapter told another way.
func TestBySeeds(t *testing.T) {
	t.Parallel()
	met := map[int]int{}
	for seed := range int64(5000) {
		r := rand.New(rand.NewSource(seed))
		s := grown(r, seed%2 == 0)
		holdFit(t, s)
		was := copied(s)
		for range 20 {
			cwd := []int{0, r.Intn(len(s.Nodes)), r.Intn(len(s.Nodes)+2) - 1}[r.Intn(3)]
			p := wildMarks(r, of(wildPattern(r, 4)))
			got := p.expand(s, cwd)
			if want := p.told(s, cwd); !slices.Equal(got, want) {
				t.Fatalf("seed %d: Expand of %v from %d = %s, not %s, in %v", seed, p, cwd, listed(got), listed(want), s)
			}
			met[min(len(got), 3)]++
			holdFollows(t, s, cwd, p, got, seed%2 == 0)
		}
		if !tree.Same(s, was) {
			t.Fatalf("seed %d: the tree was changed", seed)
		}
	}
	for n, times := range met {
		if times < 1000 {
			t.Errorf("%d paths, or more, just %d times", n, times)
		}
	}
	if len(met) != 4 {
		t.Errorf("met %v", met)
	}
}

// TestPieces: what the chapter told another way is held against cuts patterns as it should.
func TestPieces(t *testing.T) {
	for _, x := range []struct {
		p    pat
		want []piece
	}{
		{pat{"", ""}, nil},
		{pat{"//", "11"}, nil},
		{pat{"a", ""}, []piece{{pat{"a", "0"}, true}}},
		{pat{"a/b*", "0/01/"}, []piece{{pat{"a", "0"}, false}, {pat{"b*", "01"}, true}}},
		{pat{"//ab//c/", "1"}, []piece{{pat{"ab", "00"}, false}, {pat{"c", "0"}, true}}},
		{pat{"*/*", "0/1111"}, []piece{{pat{"*", "0"}, false}, {pat{"*", "1"}, true}}},
		{pat{"*a/*", "/1/1"}, []piece{{pat{"*a", "01"}, false}, {pat{"*", "1"}, true}}},
	} {
		if got := x.p.pieces(); !slices.Equal(got, x.want) {
			t.Errorf("pieces of %v = %v, not %v", x.p, got, x.want)
		}
	}
}

// P11.1: all short patterns of some bytes, plain, in a small tree, from several directories on.
func TestAllShort(t *testing.T) {
	t.Parallel()
	s := build(t, "a", "b/", "b/a", "b/b/", "b/b/a", ".a", ".b/", ".b/a", "[a/", "[a/b]", "l -> b")
	all := 0
	var more func(p string, left int)
	more = func(p string, left int) {
		for _, cwd := range []int{0, at(s, "b")} {
			got, want := plain(p).expand(s, cwd), plain(p).told(s, cwd)
			if all++; !slices.Equal(got, want) {
				t.Errorf("Expand of %q from %d = %s, not %s", p, cwd, listed(got), listed(want))
			}
		}
		for _, token := range []string{"*", "?", "/", "a", ".", "[", "]", "b"} {
			if left > 0 {
				more(p+token, left-1)
			}
		}
	}
	more("", 5)
	if all != 2*37449 {
		t.Errorf("just %d calls", all)
	}
}

// P11.1: all marks of some patterns, of all lengths up to one more than the pattern's.
func TestAllMarks(t *testing.T) {
	t.Parallel()
	s := build(t, "*", "**", "a", "*a", "d/", "d/*", "d/a", "d/?", "*d/", "*d/*", "*d/?", "?", "[d]/", "[d]/*")
	var all []string
	var more func(marks string, left int)
	more = func(marks string, left int) {
		all = append(all, marks)
		if left > 0 {
			more(marks+"0", left-1)
			more(marks+"1", left-1)
		}
	}
	more("", 7)
	for _, text := range []string{"*", "**", "*/*", "*d/*", "?/?", "//*//*", "*//?/", "[d]/*", "[d]/?/", "/?d/*", "*d//*/", "?*", "*/.?"} {
		for _, marks := range all {
			p := pat{text, marks}
			if got, want := p.expand(s, 0), p.told(s, 0); !slices.Equal(got, want) {
				t.Errorf("Expand of %v = %s, not %s", p, listed(got), listed(want))
			}
		}
	}
}

// P11.1: a tree's paths of a depth, those that no . begins, are those of so many *.
func TestStars(t *testing.T) {
	t.Parallel()
	met := 0
	for seed := range int64(400) {
		s := grown(rand.New(rand.NewSource(seed)), false)
		stars := ""
		for depth := range 6 {
			stars += "/*"
			var want []string
			for _, p := range tree.List(s) {
				if strings.Count(p, "/") == depth+1 && !strings.Contains(p, "/.") {
					want = append(want, p)
				}
			}
			slices.Sort(want)
			for _, p := range plain(stars).expand(s, 0) {
				// Those through links are in no list of the tree's.
				if at(s, p) >= 0 && (len(want) == 0 || want[0] != p) {
					t.Fatalf("seed %d: Expand of %s has %s ahead of %v", seed, stars, p, want)
				} else if at(s, p) >= 0 {
					want, met = want[1:], met+1
				}
			}
			if len(want) > 0 {
				t.Fatalf("seed %d: Expand of %s has no %v", seed, stars, want)
			}
		}
	}
	if met < 1000 {
		t.Errorf("just %d paths", met)
	}
}
