package tree_test

import (
	"math"
	"reflect"
	"slices"
	"strings"
	"testing"

	"windlass/api"
	"windlass/path"
	"windlass/tree"
)

// P3.1: New, at its limits, and beyond them.
func TestNew(t *testing.T) {
	for _, x := range []struct{ nodes, bytes int }{{1, 0}, {1, 65536}, {4, 100}, {255, 1}, {256, 0}, {256, 65535}, {256, 65536}} {
		got, err := tree.New(x.nodes, x.bytes)
		want := api.Tree{Nodes: make([]api.Inode, x.nodes), MaxNodes: x.nodes, MaxBytes: x.bytes}
		want.Nodes[0] = api.Inode{Kind: api.InDir, Mode: 7}
		if err != api.OK || !reflect.DeepEqual(got, want) {
			t.Errorf("New(%d, %d) = %v, %v", x.nodes, x.bytes, got, err)
		}
		if !tree.Fit(got) {
			t.Errorf("New(%d, %d) is not fit", x.nodes, x.bytes)
		}
	}
	for _, x := range []struct{ nodes, bytes int }{
		{0, 0}, {0, 100}, {-1, 100}, {257, 100}, {math.MaxInt, 100}, {math.MinInt, 100}, {4, -1}, {4, 65537}, {4, math.MaxInt}, {4, math.MinInt},
		{1, -1}, {256, 65537}, {0, -1}, {257, 65537}, {-1, -1},
	} {
		if got, err := tree.New(x.nodes, x.bytes); err != api.ErrInval || !reflect.DeepEqual(got, api.Tree{}) {
			t.Errorf("New(%d, %d) = %v, %v", x.nodes, x.bytes, got, err)
		}
	}
}

// P3.1: two new trees share nothing.
func TestNewIsNew(t *testing.T) {
	a, _ := tree.New(2, 2)
	b, _ := tree.New(2, 2)
	a.Nodes[0].Mode, a.Nodes[1].Kind = 0, api.InFile
	if c, _ := tree.New(2, 2); !tree.Same(b, c) || b.Nodes[0].Mode != 7 || b.Nodes[1].Kind != api.InFree {
		t.Error("a change of one new tree is seen in another one")
	}
}

// P3.1: the chapter's example.
func TestExample(t *testing.T) {
	s, err := tree.New(4, 100)
	if err != api.OK || !tree.Fit(s) {
		t.Errorf("New(4, 100) = %v, %v", s, err)
	}
	if nodes, bytes := tree.Used(s); nodes != 1 || bytes != 0 {
		t.Errorf("Used = %d, %d", nodes, bytes)
	}
	if l := tree.List(s); len(l) != 0 {
		t.Errorf("List = %q", l)
	}
	if p := tree.Place(s, 0); p != "/" {
		t.Errorf("Place of 0 = %q", p)
	}
}

// P3.1: Same, of trees that are alike, and of such as differ in one field alone.
func TestSame(t *testing.T) {
	for _, s := range []api.Tree{{}, sample(), wide(1024), grow(3).tree, bare(), {MaxNodes: -1}} {
		if !tree.Same(s, s) || !tree.Same(s, copied(s)) {
			t.Error("a tree and its copy are not the same")
		}
	}
	for _, c := range []change{
		{"MaxNodes", func(t *api.Tree) { t.MaxNodes++ }, false},
		{"MaxBytes", func(t *api.Tree) { t.MaxBytes-- }, false},
		{"an inode more", func(t *api.Tree) { t.Nodes = append(t.Nodes, api.Inode{}) }, false},
		{"an inode less", func(t *api.Tree) { t.Nodes = t.Nodes[:8] }, false},
		{"no inodes", func(t *api.Tree) { t.Nodes = nil }, false},
		{"Kind of the first", func(t *api.Tree) { t.Nodes[0].Kind = api.InFile }, false},
		{"Kind of the last", func(t *api.Tree) { t.Nodes[8].Kind = 9 }, false},
		{"Mode", func(t *api.Tree) { t.Nodes[4].Mode = 7 }, false},
		{"Links", func(t *api.Tree) { t.Nodes[4].Links = 2 }, false},
		{"Data", func(t *api.Tree) { t.Nodes[3].Data = "threE" }, false},
		{"Data that is shorter", func(t *api.Tree) { t.Nodes[3].Data = "thre" }, false},
		{"Data by a byte 0", func(t *api.Tree) { t.Nodes[4].Data = "\x00" }, false},
		{"Up", func(t *api.Tree) { t.Nodes[7].Up = 1 }, false},
		{"a Kid more", func(t *api.Tree) { t.Nodes[7].Kids = names("a", 3) }, false},
		{"a Kid less", func(t *api.Tree) { t.Nodes[0].Kids = t.Nodes[0].Kids[:3] }, false},
		{"no Kids", func(t *api.Tree) { t.Nodes[2].Kids = nil }, false},
		{"a Kid's name", func(t *api.Tree) { t.Nodes[0].Kids[3].Name = "n" }, false},
		{"a Kid's inode", func(t *api.Tree) { t.Nodes[0].Kids[3].Ino = 8 }, false},
		{"two Kids' order", func(t *api.Tree) { t.Nodes[1].Kids = names("g", 4, "e", 2) }, false},
		{"Kids that are an empty list", func(t *api.Tree) { t.Nodes[7].Kids = []api.Entry{} }, true},
	} {
		s := sample()
		c.do(&s)
		if a, b := tree.Same(sample(), s), tree.Same(s, sample()); a != c.fit || b != c.fit {
			t.Errorf("Same = %v, %v: %s", a, b, c.what)
		}
	}
	if !tree.Same(api.Tree{Nodes: []api.Inode{}}, api.Tree{}) {
		t.Error("an empty list of inodes is not the same as none")
	}
}

// P3.2: Kid, of all directories and names of the sample.
func TestKid(t *testing.T) {
	s := sample()
	for ino, want := range map[int]map[string]int{0: {"d": 1, "h": 3, "l": 6, "m": 7}, 1: {"e": 2, "g": 4}, 2: {"f": 3}, 7: {}} {
		for _, name := range []string{"", ".", "..", "/", "d", "/d", "d/", "d/e", "D", "dd", "e", "f", "g", "h", "l", "m", "n", "\x00", "\xff", "d\x00", strings.Repeat("d", 65)} {
			kid, there := want[name]
			if !there {
				kid = -1
			}
			if got := tree.Kid(s, ino, name); got != kid {
				t.Errorf("Kid(%d, %q) = %d", ino, name, got)
			}
		}
	}
	for _, ino := range []int{3, 4, 5, 6, 8, 9, 10, 256, math.MaxInt, -1, -2, math.MinInt} {
		for _, name := range []string{"", "d", "e", "f", ".", "/"} {
			if got := tree.Kid(s, ino, name); got != -1 {
				t.Errorf("Kid(%d, %q) = %d", ino, name, got)
			}
		}
	}
}

// P3.2: Kid, where the order by bytes differs from what one expects, where names are many, and in trees that grew.
func TestKidMany(t *testing.T) {
	s := bare(dir(0, 0, "-", 1, "...", 2, "10", 3, "9", 4, "Z", 5, "a", 6, "a-", 7, "aa", 8, "b", 9, "é", 10, "\xff", 11))
	for range s.Nodes[0].Kids {
		s.Nodes = append(s.Nodes, file(1, ""))
	}
	if !tree.Fit(s) {
		t.Fatal("not fit")
	}
	for _, e := range s.Nodes[0].Kids {
		if got := tree.Kid(s, 0, e.Name); got != e.Ino {
			t.Errorf("Kid(0, %q) = %d", e.Name, got)
		}
	}
	w := wide(1024)
	if tree.Kid(w, 0, "10000") != 1 || tree.Kid(w, 0, "11023") != 1 || tree.Kid(w, 0, "11024") != -1 || tree.Kid(w, 0, "9999") != -1 {
		t.Error("Kid in a directory of 1024 names")
	}
	for seed := range int64(100) {
		g := grow(seed)
		for in, kids := range g.kids {
			for name, ino := range kids {
				if got := tree.Kid(g.tree, in, name); got != ino {
					t.Fatalf("seed %d: Kid(%d, %q) = %d", seed, in, name, got)
				}
				if _, there := kids[name+"a"]; !there && tree.Kid(g.tree, in, name+"a") != -1 {
					t.Fatalf("seed %d: Kid(%d, %q) is there", seed, in, name+"a")
				}
			}
		}
	}
}

// P3.2: Used, of inodes that are not free, and of all bytes, those of a file of two names once.
func TestUsed(t *testing.T) {
	full := bare(append([]api.Inode{dir(0, 0)}, make([]api.Inode, 255)...)...)
	for i := 1; i < 256; i++ {
		full.Nodes[0].Kids = append(full.Nodes[0].Kids, api.Entry{Name: string([]byte{'a' + byte(i/16), 'a' + byte(i%16)}), Ino: i})
		full.Nodes[i] = file(1, strings.Repeat("x", 257))
	}
	full.Nodes[255].Data += "x"
	gap := bare(dir(0, 0, "a", 4), api.Inode{}, api.Inode{}, api.Inode{}, link(1, "\xff\xff"), api.Inode{})
	for _, x := range []struct {
		t            api.Tree
		nodes, bytes int
	}{{bare(dir(0, 0)), 1, 0}, {sample(), 7, 8}, {full, 256, 65536}, {gap, 2, 2}, {wide(1000), 2, 0}, {chain(256, func(int) string { return "a" }), 256, 0}} {
		if !tree.Fit(x.t) {
			t.Fatal("not fit")
		}
		if nodes, bytes := tree.Used(x.t); nodes != x.nodes || bytes != x.bytes {
			t.Errorf("Used = %d, %d, not %d, %d", nodes, bytes, x.nodes, x.bytes)
		}
	}
}

// P3.3: Place, of directories, and of all else.
func TestPlace(t *testing.T) {
	s := sample()
	for ino, want := range map[int]string{0: "/", 1: "/d", 2: "/d/e", 7: "/m"} {
		if got := tree.Place(s, ino); got != want {
			t.Errorf("Place(%d) = %q", ino, got)
		}
	}
	for _, ino := range []int{3, 4, 5, 6, 8, 9, 10, 255, 256, math.MaxInt, -1, -2, math.MinInt} {
		if got := tree.Place(s, ino); got != "" {
			t.Errorf("Place(%d) = %q", ino, got)
		}
	}
}

// P3.3: Place, deep down, by names that differ, and by the longest ones; of inodes whose numbers fall on the way down.
func TestPlaceDeep(t *testing.T) {
	for _, name := range []func(i int) string{
		func(int) string { return "a" },
		func(i int) string { return strings.Repeat(string([]byte{'a' + byte(i%26)}), 64) },
		func(i int) string { return string([]byte{' ', byte(i)}) },
	} {
		c := chain(256, func(i int) string { return strings.NewReplacer("/", "s", "\x00", "0").Replace(name(i)) })
		if !tree.Fit(c) {
			t.Fatal("not fit")
		}
		want := "/"
		for ino := range 256 {
			if got := tree.Place(c, ino); got != want {
				t.Fatalf("Place(%d) = %q, not %q", ino, got, want)
			}
			if ino < 255 {
				want = strings.TrimSuffix(want, "/") + "/" + c.Nodes[ino].Kids[0].Name
			}
		}
	}
	turned := bare(dir(0, 0, "x", 3), dir(2, 1), dir(3, 1, "z", 1), dir(0, 1, "y", 2))
	if got := tree.Place(turned, 1); !tree.Fit(turned) || got != "/x/y/z" {
		t.Errorf("Place = %q", got)
	}
}

// P3.3, P3.5: Place, in trees that grew, is where a directory was made; of unlike directories it is unlike.
func TestPlaceGrown(t *testing.T) {
	for seed := range int64(200) {
		g := grow(seed)
		whose := map[string]int{}
		for ino := range g.tree.Nodes {
			got := tree.Place(g.tree, ino)
			if got != g.places[ino] {
				t.Fatalf("seed %d: Place(%d) = %q, not %q", seed, ino, got, g.places[ino])
			}
			if other, there := whose[got]; there && got != "" {
				t.Fatalf("seed %d: %q is the Place of %d and %d", seed, got, other, ino)
			}
			whose[got] = ino
		}
	}
}

// P3.4: List, of trees by hand.
func TestList(t *testing.T) {
	for _, x := range []struct {
		what string
		t    api.Tree
		want []string
	}{
		{"a root alone", bare(dir(0, 0)), nil},
		{"the sample", sample(), []string{"/d", "/d/e", "/d/e/f", "/d/g", "/h", "/l", "/m"}},
		{"directories without names", bare(dir(0, 0, "a", 1, "b", 2), dir(0, 1), dir(0, 1, "c", 3), dir(2, 1)), []string{"/a", "/b", "/b/c"}},
		{"a directory's paths ahead of a name that rises less than a slash", bare(dir(0, 0, "a", 1, "a-", 2, "a.", 3), dir(0, 1, "x", 4), file(1, ""), dir(0, 1, "x", 4), file(2, "")),
			[]string{"/a", "/a/x", "/a-", "/a.", "/a./x"}},
		{"capitals, digits and bytes above ASCII", bare(dir(0, 0, "10", 1, "9", 1, "Z", 1, "a", 1, "é", 1, "\xff", 1), file(6, "")), []string{"/10", "/9", "/Z", "/a", "/é", "/\xff"}},
		{"by names, not by inodes", bare(dir(0, 0, "a", 3, "b", 1), dir(0, 1, "c", 2), file(1, ""), file(1, "")), []string{"/a", "/b", "/b/c"}},
		{"a link to a directory is not gone into", bare(dir(0, 0, "a", 1, "b", 2), dir(0, 1, "c", 3), link(1, "a"), link(1, "/")), []string{"/a", "/a/c", "/b"}},
		{"modes don't matter", api.Tree{Nodes: []api.Inode{{Kind: api.InDir, Kids: names("a", 1)}, {Kind: api.InDir, Links: 1, Kids: names("b", 2)}, {Kind: api.InFile, Links: 1}}, MaxNodes: 3}, []string{"/a", "/a/b"}},
		{"a name of dots, of blanks, with a byte 10", bare(dir(0, 0, "\n", 1, " ", 1, "...", 1), file(3, "")), []string{"/\n", "/ ", "/..."}},
	} {
		if !tree.Fit(x.t) {
			t.Fatalf("%s: not fit", x.what)
		}
		if got := tree.List(x.t); !slices.Equal(got, x.want) {
			t.Errorf("%s: List = %q", x.what, got)
		}
	}
	if got := tree.List(wide(1024)); len(got) != 1024 || got[0] != "/10000" || got[1023] != "/11023" {
		t.Errorf("List of 1024 names has %d", len(got))
	}
}

// below is the paths of what is in a directory, by what was noted down: what List is held against.
func (g grown) below(in int) []string {
	kids := g.kids[in]
	var ordered, l []string
	for name := range kids {
		ordered = append(ordered, name)
	}
	slices.Sort(ordered)
	for _, name := range ordered {
		l = append(l, strings.TrimSuffix(g.places[in], "/")+"/"+name)
		if _, isDir := g.kids[kids[name]]; isDir {
			l = append(l, g.below(kids[name])...)
		}
	}
	return l
}

// P3.4, P3.5: List, in trees that grew: as many paths as there are names, each in the Place of a directory that has that name.
func TestListGrown(t *testing.T) {
	for seed := range int64(200) {
		g := grow(seed)
		got := tree.List(g.tree)
		if !slices.Equal(got, g.below(0)) {
			t.Fatalf("seed %d: List = %q", seed, got)
		}
		if len(got) != g.names {
			t.Fatalf("seed %d: %d paths, %d names", seed, len(got), g.names)
		}
		at := map[string]int{}
		for ino := range g.kids {
			at[tree.Place(g.tree, ino)] = ino
		}
		for _, p := range got {
			if in, there := at[path.Dir(p)]; !there || tree.Kid(g.tree, in, path.Base(p)) < 0 {
				t.Fatalf("seed %d: %q is in no directory", seed, p)
			}
		}
	}
}

// P3.4, P3.5: List, deep down: each path is the Place of the next directory.
func TestListDeep(t *testing.T) {
	c := chain(256, func(int) string { return strings.Repeat("n", 64) })
	l := tree.List(c)
	if len(l) != 255 {
		t.Fatalf("%d paths", len(l))
	}
	for i, p := range l {
		if p != tree.Place(c, i+1) {
			t.Fatalf("path %d = %q", i, p)
		}
	}
}

// 0.5: what a call is given stays as it was, and what was told is the caller's.
func TestNothingShared(t *testing.T) {
	for _, s := range []api.Tree{sample(), grow(7).tree, unfit()[0]} {
		was := copied(s)
		tree.Fit(s)
		tree.Same(s, s)
		tree.Used(s)
		for ino := -1; ino <= len(s.Nodes); ino++ {
			tree.Kid(s, ino, "e")
			tree.Place(s, ino)
		}
		for i := range tree.List(s) {
			tree.List(s)[i] = "changed"
		}
		if !reflect.DeepEqual(s, was) {
			t.Error("a tree that was given is changed")
		}
	}
	l := tree.List(sample())
	l[0], l = "changed", append(l[:1], "changed")
	if got := tree.List(sample()); got[0] != "/d" || got[1] != "/d/e" {
		t.Errorf("List = %q behind a change of an earlier answer", got)
	}
}
