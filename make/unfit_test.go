package make_test

import (
	"math"
	"math/rand"
	"reflect"
	"slices"
	"strings"
	"testing"

	"windlass/api"
	"windlass/make"
)

// calls makes each call that there is, with such a path and mode, and tells the trees.
func calls(s api.Tree, cwd int, p, other string, mode int) []api.Tree {
	a, _, _ := make.Mkdir(s, cwd, p, mode)
	b, _, _ := make.Create(s, cwd, p, mode)
	c, _, _ := make.Symlink(s, cwd, other, p)
	d, _ := make.Link(s, cwd, other, p)
	e, _ := make.Chmod(s, cwd, p, mode)
	return []api.Tree{a, b, c, d, e}
}

// scrawl writes over all that a tree has, up to what its lists have room for.
func scrawl(s api.Tree) {
	nodes := s.Nodes[:cap(s.Nodes)]
	for i := range nodes {
		kids := nodes[i].Kids[:cap(nodes[i].Kids)]
		for k := range kids {
			kids[k] = api.Entry{Name: "scrawled", Ino: -7}
		}
		nodes[i] = api.Inode{Kind: -7, Mode: -7, Links: -7, Data: "scrawled", Up: -7}
	}
}

// 0.5: what a call tells shares nothing with what it was given, beside an error neither.
func TestNothingShared(t *testing.T) {
	b := sample(t)
	for _, x := range []struct{ p, other string }{
		{"d/new", "x"}, {"d/new", "d"}, {"x", "x"}, {"d", "toFile"}, {"", ""}, {"nothing/new", "nothing"}, {"new/", "x"}, {"d/\x00", "\x00"},
		{"d/new", strings.Repeat("n", 1025)},
	} {
		for _, mode := range []int{5, 8} {
			for _, s := range []api.Tree{b.Tree, b.full().Tree, b.mode("/d", 1).Tree} {
				was := copied(s)
				for i := range calls(s, 0, x.p, x.other, mode) {
					one := calls(s, 0, x.p, x.other, mode)[i]
					other := calls(s, 0, x.p, x.other, mode)[i]
					told := copied(other)
					scrawl(one)
					if !reflect.DeepEqual(s, was) || !reflect.DeepEqual(other, told) {
						t.Fatalf("call %d of %q: what it tells is shared", i, x.p)
					}
				}
			}
		}
	}
}

// 0.5: no two lists of what a call tells share anything.
func TestListsApart(t *testing.T) {
	b := sample(t)
	for i, s := range calls(b.Tree, 0, "d/new", "x", 5) {
		for ino := range s.Nodes {
			was := copied(s)
			kids := s.Nodes[ino].Kids[:cap(s.Nodes[ino].Kids)]
			for k := range kids {
				kids[k] = api.Entry{Name: "scrawled", Ino: -7}
			}
			s.Nodes[ino].Kids, was.Nodes[ino].Kids = nil, nil
			if !reflect.DeepEqual(s, was) {
				t.Fatalf("call %d: the Kids of %d are shared", i, ino)
			}
		}
	}
}

func entries(l ...any) []api.Entry {
	var kids []api.Entry
	for i := 0; i < len(l); i += 2 {
		kids = append(kids, api.Entry{Name: l[i].(string), Ino: l[i+1].(int)})
	}
	return kids
}

// bare is a tree of inodes with the widest limits.
func bare(nodes ...api.Inode) api.Tree { return api.Tree{Nodes: nodes, MaxNodes: 256, MaxBytes: 65536} }

func dir(up int, kids ...any) api.Inode {
	return api.Inode{Kind: api.InDir, Mode: 7, Links: 1, Up: up, Kids: entries(kids...)}
}

func free(n int) []api.Inode { return slices.Repeat([]api.Inode{{}}, n) }

// unfit is trees whose names and Ups lead in rings, to what is not there, or out of order.
func unfit(t *testing.T) []api.Tree {
	s := sample(t).Tree
	low, high := s, s
	low.MaxNodes, low.MaxBytes = math.MinInt, math.MinInt
	high.MaxNodes, high.MaxBytes = math.MaxInt, math.MaxInt
	wide := bare(dir(0), dir(0), api.Inode{})
	for range 5000 {
		wide.Nodes[0].Kids = append(wide.Nodes[0].Kids, api.Entry{Name: "a", Ino: 1})
	}
	return []api.Tree{
		{}, bare(), bare(free(3)...), {MaxNodes: 4, MaxBytes: 4}, low, high, wide,
		bare(dir(0, "a", 0), api.Inode{}), bare(dir(0), dir(2, "a", 2), dir(1, "b", 1), api.Inode{}),
		bare(dir(0, "a", 1), dir(7), dir(-1), dir(math.MinInt), dir(math.MaxInt), api.Inode{}),
		bare(dir(0, "a", -1, "b", 1, "c", 9, "d", math.MinInt, "e", math.MaxInt), api.Inode{}),
		bare(dir(0, "c", 1, "b", 1, "a", 1), api.Inode{Kind: api.InFile}, api.Inode{}),
		bare(api.Inode{}, dir(0, "a", 2), api.Inode{Kind: 99, Mode: -1, Links: math.MaxInt}, api.Inode{Kind: -5}),
		bare(api.Inode{Kind: api.InFile, Kids: entries("a", 0)}, dir(1, "", 0, "/", 1)),
		bare(append(free(2000), dir(0))...),
		bare(dir(0, "a", 1, "b", 2), api.Inode{Kind: api.InLink}, api.Inode{Kind: api.InLink, Data: strings.Repeat("a/", 1<<15)}, api.Inode{}),
		bare(api.Inode{Kind: api.InDir, Mode: -1, Kids: entries("a", 1)}, api.Inode{Kind: api.InFile, Mode: math.MinInt, Links: math.MinInt}, api.Inode{Kids: entries("a", 0)}),
	}
}

// wild is a tree whose fields are what a seed says.
func wild(r *rand.Rand) api.Tree {
	number := func() int { return r.Intn(14) - 2 }
	t := api.Tree{MaxNodes: 12 + number(), MaxBytes: 20 + number()}
	for range r.Intn(12) {
		n := api.Inode{Kind: r.Intn(6) - 1, Mode: number(), Links: number(), Data: strings.Repeat("a/", r.Intn(3)), Up: number()}
		for range r.Intn(5) {
			n.Kids = append(n.Kids, api.Entry{Name: []string{"", "a", "b", ".", "..", "/", "\x00"}[r.Intn(7)], Ino: number()})
		}
		t.Nodes = append(t.Nodes, n)
	}
	return t
}

// 0.1: no call panics, and each ends, at trees that are not fit.
func TestUnfit(t *testing.T) {
	all := unfit(t)
	for seed := range int64(1000) {
		all = append(all, wild(rand.New(rand.NewSource(seed))))
	}
	for _, s := range all {
		cwds := []int{-1, len(s.Nodes) - 1, len(s.Nodes), math.MinInt, math.MaxInt}
		for cwd := range min(len(s.Nodes), 6) {
			cwds = append(cwds, cwd)
		}
		for _, cwd := range cwds {
			for _, p := range []string{"a", "new", "/new", "a/new", "b/a/new", "../new", "/a/", "new/", ""} {
				calls(s, cwd, p, "a", 7)
				calls(s, cwd, p, "b/../a", 3)
			}
		}
	}
}
