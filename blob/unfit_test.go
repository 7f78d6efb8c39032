package blob_test

import (
	"math"
	"math/rand"
	"slices"
	"strings"
	"testing"

	"windlass/api"
	"windlass/blob"
	"windlass/tree"
)

// trees makes each call that tells a tree, and tells these.
func trees(s api.Tree, ino, off, n int, text string) []api.Tree {
	a, _ := blob.Write(s, ino, off, text)
	b, _ := blob.Cut(s, ino, n)
	return []api.Tree{a, b}
}

// scrawl writes over all that a tree has, up to what its lists have room for.
func scrawl(s api.Tree) {
	nodes := s.Nodes[:cap(s.Nodes)]
	for i := range nodes {
		scrawlKids(nodes[i].Kids)
		nodes[i] = api.Inode{Kind: -7, Mode: -7, Links: -7, Data: "scrawled", Up: -7}
	}
}

func scrawlKids(kids []api.Entry) {
	kids = kids[:cap(kids)]
	for i := range kids {
		kids[i] = api.Entry{Name: "scrawled", Ino: -7}
	}
}

// somethings is what calls are given that do something, that do nothing, and that tell an error.
func somethings() []given {
	var all []given
	for _, ino := range []int{-1, rootIno, dirIno, emptyIno, fileIno, linkIno, freeIno, twoIno, pastIno} {
		all = append(all, given{0, ino, 0, 0, ""}, given{0, ino, 2, 3, "text"}, given{0, ino, 9, 5, "text"}, given{0, ino, 70000, 70000, "text"}, given{0, ino, -1, -1, "text"})
	}
	return all
}

// 0.5: what a call tells shares nothing with what it was given, beside an error neither.
func TestNothingShared(t *testing.T) {
	for _, s := range []api.Tree{sample(), room(sample(), 0)} {
		// Lists with room behind them, into which a call could write.
		s.Nodes = slices.Grow(s.Nodes, 4)
		s.Nodes[rootIno].Kids = slices.Grow(s.Nodes[rootIno].Kids, 4)
		was := copied(s)
		for _, g := range somethings() {
			for i, told := range trees(s, g.ino, g.off, g.n, g.text) {
				other := trees(s, g.ino, g.off, g.n, g.text)[i]
				want := copied(other)
				scrawl(told)
				holdSame(t, "what was given", s, was)
				holdSame(t, "what was told at another time", other, want)
			}
		}
	}
}

// 0.5: no two lists of what a call tells share anything.
func TestListsApart(t *testing.T) {
	for _, g := range somethings() {
		for _, s := range trees(sample(), g.ino, g.off, g.n, g.text) {
			for ino := range s.Nodes {
				was := copied(s)
				scrawlKids(s.Nodes[ino].Kids)
				s.Nodes[ino].Kids, was.Nodes[ino].Kids = nil, nil
				holdSame(t, "a tree whose list is scrawled on", s, was)
			}
		}
	}
}

// 0.5: a tree that was told stays what it is, whatever is done with it later.
func TestStays(t *testing.T) {
	s, _ := blob.Write(sample(), fileIno, 3, "new text")
	was := copied(s)
	text, _ := blob.Read(s, fileIno, 3, 8)
	for _, g := range somethings() {
		trees(s, g.ino, g.off, g.n, g.text)
		holdSame(t, "a tree that was told", s, was)
	}
	scrawl(s)
	if text != "new text" {
		t.Errorf("what was read is %q", text)
	}
}

// bare is a tree of inodes with the widest limits.
func bare(nodes ...api.Inode) api.Tree {
	return api.Tree{Nodes: nodes, MaxNodes: 256, MaxBytes: 65536}
}

// unfit is trees that can not be: limits, kinds, Links and sizes are what they are.
func unfit() []api.Tree {
	low, high := sample(), sample()
	low.MaxNodes, low.MaxBytes = math.MinInt, math.MinInt
	high.MaxNodes, high.MaxBytes = math.MaxInt, math.MaxInt
	few := room(sample(), -3)
	return []api.Tree{
		{}, bare(), bare(make([]api.Inode, 3)...), {MaxNodes: 4, MaxBytes: 4}, low, high, few,
		bare(file(0, "x"), file(-1, "y")), bare(link(""), link(strings.Repeat("x", 70000))),
		bare(api.Inode{}, file(1, strings.Repeat("x", 70000)), file(math.MaxInt, strings.Repeat("x", 65536))),
		bare(api.Inode{Kind: 4, Data: "abc"}, api.Inode{Kind: -1, Data: "abc"}, api.Inode{Kind: math.MaxInt}, api.Inode{Kind: math.MinInt}),
		bare(api.Inode{Data: "abc", Kids: entries("a", 9)}, api.Inode{Kind: api.InDir, Data: "abc", Kids: entries("b", -1, "a", 0)}),
		bare(api.Inode{Kind: api.InFile, Kids: entries("", 0, "/", 7), Up: -9, Mode: 99}),
		bare(slices.Repeat([]api.Inode{file(1, "abc")}, 400)...),
	}
}

// wild is a tree whose fields are what a seed says.
func wild(r *rand.Rand) api.Tree {
	number := func() int { return r.Intn(10) - 1 }
	s := api.Tree{MaxNodes: 12 + number(), MaxBytes: 20 + number()}
	for range 1 + r.Intn(6) {
		n := api.Inode{Kind: number(), Mode: number(), Links: number(), Data: wildText(r), Up: number()}
		for range r.Intn(3) {
			n.Kids = append(n.Kids, api.Entry{Name: []string{"", "a", "b", ".", "/", "\x00"}[r.Intn(6)], Ino: number()})
		}
		s.Nodes = append(s.Nodes, n)
	}
	return s
}

// 0.1, 0.5: no call panics, each ends, and none changes what it is given, at trees that are not fit.
func TestUnfit(t *testing.T) {
	all := unfit()
	for seed := range int64(200) {
		all = append(all, wild(rand.New(rand.NewSource(seed))))
	}
	numbers := append([]int{0, 1, 3, 4}, extremes()...)
	for _, s := range all {
		was := copied(s)
		for _, ino := range []int{-1, 0, 1, 2, 3, 4, 5, len(s.Nodes) - 1, len(s.Nodes), math.MinInt, math.MaxInt} {
			for _, off := range numbers {
				for _, n := range numbers {
					blob.Read(s, ino, off, n)
				}
				trees(s, ino, off, off, "")
				trees(s, ino, off, off, "text")
			}
			trees(s, ino, 1, 1, strings.Repeat("x", 65536))
		}
		if !tree.Same(s, was) {
			t.Fatalf("a tree that is not fit was changed: %.300s, and was %.300s", told(s), told(was))
		}
	}
}
