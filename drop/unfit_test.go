package drop_test

import (
	"math"
	"math/rand"
	"slices"
	"strings"
	"testing"

	"windlass/api"
	"windlass/drop"
	"windlass/tree"
)

// trees makes each call that there is, with such paths, and tells the trees.
func trees(s api.Tree, cwd int, old, p string) []api.Tree {
	a, _ := drop.Unlink(s, cwd, old)
	b, _ := drop.Rmdir(s, cwd, old)
	c, _ := drop.Rename(s, cwd, old, p)
	return []api.Tree{a, b, c}
}

// scrawl writes over all that a tree has, up to what its lists have room for.
func scrawl(s api.Tree) {
	nodes := s.Nodes[:cap(s.Nodes)]
	for i := range nodes {
		scrawlKids(nodes[i].Kids)
		nodes[i] = api.Inode{Kind: -7, Mode: -7, Links: -7, Data: "scrawled", Up: -7}
	}
}

func scrawlKids(kids []api.Entry) {
	kids = kids[:cap(kids)]
	for i := range kids {
		kids[i] = api.Entry{Name: "scrawled", Ino: -7}
	}
}

// pairs is paths at which something is done, and at which there is an error.
func pairs() [][2]string {
	return [][2]string{
		{"x", "new"}, {"x", "d/new"}, {"x", "d/g"}, {"x", "x"}, {"d", "d"}, {"d", "m/new"}, {"empty", "bare"}, {"d", "empty"}, {"y", "z"}, {"d/h", "m/in"},
		{"d", "d/new"}, {"x", "d"}, {"d", "x"}, {"nothing", "new"}, {"", ""}, {"x", "nothing/new"}, {"x/", "new"}, {"x", "\x00"}, {".", "new"},
	}
}

// 0.5: what a call tells shares nothing with what it was given, beside an error neither.
func TestNothingShared(t *testing.T) {
	for _, s := range []api.Tree{sample(t), mode(sample(t), "/d", 1)} {
		was := copied(s)
		for _, x := range pairs() {
			for i, told := range trees(s, 0, x[0], x[1]) {
				other := trees(s, 0, x[0], x[1])[i]
				want := copied(other)
				scrawl(told)
				holdSame(t, "what was given", s, was)
				holdSame(t, "what was told at another time", other, want)
			}
		}
	}
}

// 0.5: no two lists of what a call tells share anything.
func TestListsApart(t *testing.T) {
	for _, x := range pairs() {
		for _, s := range trees(sample(t), 0, x[0], x[1]) {
			for ino := range s.Nodes {
				was := copied(s)
				scrawlKids(s.Nodes[ino].Kids)
				s.Nodes[ino].Kids, was.Nodes[ino].Kids = nil, nil
				holdSame(t, "a tree whose list is scrawled on", s, was)
			}
		}
	}
}

// bare is a tree of inodes with the widest limits.
func bare(nodes ...api.Inode) api.Tree { return api.Tree{Nodes: nodes, MaxNodes: 256, MaxBytes: 65536} }

func entries(l ...any) []api.Entry {
	var kids []api.Entry
	for i := 0; i < len(l); i += 2 {
		kids = append(kids, api.Entry{Name: l[i].(string), Ino: l[i+1].(int)})
	}
	return kids
}

func dir(up int, kids ...any) api.Inode {
	return api.Inode{Kind: api.InDir, Mode: 7, Links: 1, Up: up, Kids: entries(kids...)}
}

func file(links int) api.Inode { return api.Inode{Kind: api.InFile, Mode: 6, Links: links} }

// unfit is trees whose names and Ups lead in rings, to what is not there, or out of order, and whose Links are what they are.
func unfit(t *testing.T) []api.Tree {
	s := sample(t)
	low, high := s, s
	low.MaxNodes, low.MaxBytes = math.MinInt, math.MinInt
	high.MaxNodes, high.MaxBytes = math.MaxInt, math.MaxInt
	wide := bare(dir(0), file(1))
	for range 5000 {
		wide.Nodes[0].Kids = append(wide.Nodes[0].Kids, api.Entry{Name: "a", Ino: 1})
	}
	return []api.Tree{
		{}, bare(), bare(make([]api.Inode, 3)...), {MaxNodes: 4, MaxBytes: 4}, low, high, wide,
		bare(dir(0, "a", 0), api.Inode{}), bare(dir(0), dir(2, "a", 2), dir(1, "b", 1), dir(3, "a", 2, "b", 3)),
		bare(dir(0, "a", 1, "b", 2), dir(2, "a", 1, "b", 2), dir(1, "a", 2, "b", 1)), bare(dir(1, "a", 1, "b", 2), dir(1), dir(2)),
		bare(dir(0, "a", 1, "b", 2, "c", 3, "d", 4), dir(7), dir(-1), dir(math.MinInt), dir(math.MaxInt), api.Inode{}),
		bare(dir(0, "a", -1, "b", 1, "c", 9, "d", math.MinInt, "e", math.MaxInt), file(1)),
		bare(dir(0, "c", 1, "b", 1, "a", 1), file(3)), bare(dir(0, "a", 1, "a", 2, "b", 1, "b", 2), file(1), dir(0)),
		bare(dir(0, "a", 1, "b", 2, "c", 3, "d", 4), file(0), file(-1), file(math.MinInt), file(math.MaxInt)), bare(dir(0, "a", 1, "b", 2), dir(1), dir(0)),
		bare(api.Inode{}, dir(0, "a", 2), api.Inode{Kind: 99, Mode: -1, Links: math.MaxInt}, api.Inode{Kind: -5}),
		bare(api.Inode{Kind: api.InFile, Kids: entries("a", 0)}, dir(1, "", 0, "/", 1)), bare(dir(0, "a", 1, "b", 2), api.Inode{Kids: entries("a", 0)}, file(1)),
		bare(dir(0, "a", 1, "b", 2), api.Inode{Kind: api.InLink}, api.Inode{Kind: api.InLink, Data: strings.Repeat("a/", 1<<15)}, api.Inode{}),
		bare(append(slices.Repeat([]api.Inode{dir(1)}, 300), dir(0))...),
	}
}

// wild is a tree whose fields are what a seed says.
func wild(r *rand.Rand) api.Tree {
	number := func() int { return r.Intn(10) - 1 }
	s := api.Tree{MaxNodes: 12 + number(), MaxBytes: 20 + number()}
	for range 1 + r.Intn(9) {
		n := api.Inode{Kind: []int{2, 2, 2, 1, 3, 0, 7}[r.Intn(7)], Mode: []int{7, 7, 3, number()}[r.Intn(4)], Links: number(), Data: strings.Repeat("a/", r.Intn(2)), Up: number()}
		for range r.Intn(4) {
			n.Kids = append(n.Kids, api.Entry{Name: []string{"", "a", "a", "b", "b", ".", "..", "/", "\x00"}[r.Intn(9)], Ino: number()})
		}
		s.Nodes = append(s.Nodes, n)
	}
	return s
}

// 0.1, 0.5: no call panics, each ends, and none changes what it is given, at trees that are not fit.
func TestUnfit(t *testing.T) {
	all := unfit(t)
	for seed := range int64(400) {
		all = append(all, wild(rand.New(rand.NewSource(seed))))
	}
	for _, s := range all {
		was := copied(s)
		cwds := []int{-1, len(s.Nodes) - 1, len(s.Nodes), math.MinInt, math.MaxInt}
		for cwd := range min(len(s.Nodes), 6) {
			cwds = append(cwds, cwd)
		}
		for _, cwd := range cwds {
			for _, old := range []string{"a", "b", "d", "e", "/a", "/b/a", "a/b", "a/b/", "../c", ".", "", "x"} {
				for _, p := range []string{"a", "b", "d", "e", "new", "/new", "a/new", "b/a/new", "../b", "/a/"} {
					trees(s, cwd, old, p)
				}
			}
		}
		if !tree.Same(s, was) {
			t.Fatalf("a tree that is not fit was changed: %v, and was %v", s, was)
		}
	}
}
