package tree_test

import (
	"math"
	"math/rand"
	"strings"
	"testing"

	"windlass/api"
	"windlass/tree"
)

// double is n directories, each with two names of the next one: more paths than could ever be told.
func double(n int) api.Tree {
	t := bare()
	for i := range n {
		t.Nodes = append(t.Nodes, dir(max(i-1, 0), 2, "a", i+1, "b", i+1))
	}
	t.Nodes[n-1].Kids = nil
	return t
}

// unfit is trees in which going down, or up, might not end, or lead where nothing is.
func unfit() []api.Tree {
	self := bare(dir(0, 1, "a", 0))
	ring := bare(dir(0, 0), dir(2, 1, "a", 2), dir(1, 1, "b", 1))
	deepRing := bare(dir(2, 1, "a", 1), dir(0, 1, "b", 2), dir(1, 1, "c", 0))
	upSelf := bare(dir(0, 0), dir(1, 1, "a", 1))
	upAway := bare(dir(0, 0, "a", 1), dir(7, 1), dir(-1, 1), dir(math.MinInt, 1), dir(math.MaxInt, 1))
	upFile := bare(dir(0, 0, "a", 1), dir(2, 1), file(1, ""))
	noName := bare(dir(0, 0), dir(0, 1))
	kidAway := bare(dir(0, 0, "a", -1, "b", 1, "c", 9, "d", math.MinInt, "e", math.MaxInt))
	fallen := bare(dir(0, 0, "c", 1, "b", 1, "a", 1), file(3, ""))
	rootFile := bare(file(1, "x"), dir(0, 1, "a", 0))
	noDir := bare(api.Inode{Kind: -5, Kids: names("a", 0)}, api.Inode{Kind: 99, Mode: 8, Links: -1, Up: -1})
	long := bare(dir(0, 0, strings.Repeat("x", 1<<20), 1), dir(0, 1, "", 2), dir(1, 1, "/", 3), dir(2, 1, "\x00", 4), dir(3, 1))
	return []api.Tree{
		self, ring, deepRing, upSelf, upAway, upFile, noName, kidAway, fallen, rootFile, noDir, long,
		double(60), double(256), double(1000), chain(5000, func(int) string { return "a" }), wide(50000),
		{}, bare(), {Nodes: make([]api.Inode, 3)}, {MaxNodes: 5, MaxBytes: 5}, {Nodes: sample().Nodes}, {Nodes: sample().Nodes, MaxNodes: math.MinInt, MaxBytes: math.MinInt},
		{Nodes: sample().Nodes, MaxNodes: math.MaxInt, MaxBytes: math.MaxInt}, bare(make([]api.Inode, 100000)...),
	}
}

// wild is a tree whose fields are what a seed says.
func wild(seed int64) api.Tree {
	r := rand.New(rand.NewSource(seed))
	number := func() int { return r.Intn(14) - 2 }
	t := api.Tree{MaxNodes: 12 + number(), MaxBytes: 20 + number()}
	for range r.Intn(12) {
		n := api.Inode{Kind: r.Intn(6) - 1, Mode: number(), Links: number(), Data: strings.Repeat("x", r.Intn(3)), Up: number()}
		for range r.Intn(5) {
			n.Kids = append(n.Kids, api.Entry{Name: wildName(r), Ino: number()})
		}
		t.Nodes = append(t.Nodes, n)
	}
	return t
}

// callAll makes all calls that take a tree.
func callAll(s api.Tree) {
	tree.Used(s)
	tree.Same(s, copied(s))
	tree.List(s)
	for ino := -2; ino < min(len(s.Nodes), 300)+2; ino++ {
		tree.Place(s, ino)
		for _, name := range []string{"", "a", "b", "zz", "/"} {
			tree.Kid(s, ino, name)
		}
	}
	for _, ino := range []int{len(s.Nodes) - 1, len(s.Nodes), math.MinInt, math.MaxInt} {
		tree.Place(s, ino)
		tree.Kid(s, ino, "a")
	}
}

// 0.1, P3.1: of trees that are not fit Fit tells so, and all calls end.
func TestUnfit(t *testing.T) {
	for i, s := range unfit() {
		if tree.Fit(s) {
			t.Errorf("Fit = true: unfit tree %d", i)
		}
		callAll(s)
	}
	for seed := range int64(3000) {
		s := wild(seed)
		tree.Fit(s)
		callAll(s)
	}
}
