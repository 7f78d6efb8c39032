package walk_test

import (
	"math"
	"math/rand"
	"reflect"
	"slices"
	"strings"
	"testing"

	"windlass/api"
	"windlass/path"
	"windlass/tree"
	"windlass/walk"
)

// holdLead holds Walk and Parent of a path against what the chapter says, told by texts, and notes the errors down.
func holdLead(t *testing.T, s api.Tree, cwd int, p string, errs map[api.Errno]int) {
	t.Helper()
	for _, follow := range []bool{true, false} {
		want, wantErr := wantWalk(s, cwd, p, follow)
		if ino, err := walk.Walk(s, cwd, p, follow); ino != want || err != wantErr {
			t.Fatalf("Walk(%d, %.80q, %v) = %d, %v, not %d, %v", cwd, p, follow, ino, err, want, wantErr)
		}
		errs[wantErr]++
	}
	want, wantName, wantErr := wantParent(s, cwd, p)
	if dir, name, err := walk.Parent(s, cwd, p); dir != want || name != wantName || err != wantErr {
		t.Fatalf("Parent(%d, %.80q) = %d, %.80q, %v, not %d, %.80q, %v", cwd, p, dir, name, err, want, wantName, wantErr)
	}
	errs[wantErr]++
}

// holdMet wants each of these errors to have been met often enough to tell something.
func holdMet(t *testing.T, met map[api.Errno]int, least int, errs ...api.Errno) {
	t.Helper()
	for _, err := range errs {
		if met[err] < least {
			t.Errorf("%v was met just %d times", err, met[err])
		}
	}
}

// texts hands out all texts of at most n of these pieces, the empty one first.
func texts(pieces []string, n int, f func(p string)) {
	f("")
	for line := []string{""}; n > 0; n-- {
		var longer []string
		for _, s := range line {
			for _, piece := range pieces {
				f(s + piece)
				longer = append(longer, s+piece)
			}
		}
		line = longer
	}
}

// P4.2, P4.3: all short paths of a small tree, from each of its inodes.
func TestShortPaths(t *testing.T) {
	b := build(t, "d/", "d/d/", "d/f", "d/l -> ../l", "f", "l -> d/d").mode("/d/d", 6)
	met := map[api.Errno]int{}
	texts([]string{"/", ".", "..", "d", "f", "l"}, 5, func(p string) {
		for cwd := -1; cwd <= len(b.Nodes); cwd++ {
			holdLead(t, b.Tree, cwd, p, met)
		}
	})
	holdMet(t, met, 1000, api.OK, api.ErrNone, api.ErrNotDir, api.ErrAccess)
	holdMet(t, met, 10, api.ErrThere)
}

// P4.2, P4.3: paths by seeds, in trees that grew by seeds.
func TestGrown(t *testing.T) {
	met := map[api.Errno]int{}
	for seed := range int64(2000) {
		s := grown(seed)
		if !tree.Fit(s) {
			t.Fatalf("seed %d: not fit", seed)
		}
		r := rand.New(rand.NewSource(seed))
		for range 100 {
			holdLead(t, s, r.Intn(len(s.Nodes)+2)-1, wildPath(r, 8), met)
		}
	}
	holdMet(t, met, 1000, api.OK, api.ErrNone, api.ErrNotDir, api.ErrAccess, api.ErrLoop)
}

// P4.2, P4.3: as many links on a way as there may be, and about as many, of many shapes: links that lead by several others, which lead by several others.
func TestManyLinks(t *testing.T) {
	met := map[api.Errno]int{}
	for seed := range int64(400) {
		r := rand.New(rand.NewSource(seed))
		lines := []string{"d/", "d/up -> ..", "here -> .", "f"}
		for i := 1; i <= 4; i++ {
			var to []string
			for range 1 + r.Intn(3) {
				to = append(to, []string{"here", "d/up", "d/..", "l" + digit(r.Intn(i)+1), "."}[r.Intn(5)])
			}
			lines = append(lines, "l"+digit(i)+" -> "+strings.Join(to, "/"))
		}
		b := build(t, lines...)
		for range 100 {
			var p []string
			for range r.Intn(8) {
				p = append(p, []string{"here", "d/up", "l1", "l2", "l3", "l4", "."}[r.Intn(7)])
			}
			p = append(p, []string{"f", "d", "here", "l1", "l2", "l3", "l4", "d/", "here/", "nothing"}[r.Intn(10)])
			holdLead(t, b.Tree, 0, strings.Join(p, "/"), met)
		}
	}
	holdMet(t, met, 1000, api.OK, api.ErrLoop, api.ErrNone)
}

// grownDirs is a tree that grew, each directory of which may be searched, and its directories.
func grownDirs(seed int64) (api.Tree, []int) {
	s := grown(seed)
	var dirs []int
	for ino := range s.Nodes {
		if s.Nodes[ino].Kind == api.InDir {
			s.Nodes[ino].Mode |= 1
			dirs = append(dirs, ino)
		}
	}
	return s, dirs
}

// P4.4: Walk of a directory's Place is it, from wherever, with slashes behind, too.
func TestPlaces(t *testing.T) {
	for seed := range int64(300) {
		s, dirs := grownDirs(seed)
		for _, dir := range dirs {
			for _, cwd := range dirs {
				for _, p := range []string{tree.Place(s, dir), tree.Place(s, dir) + "/"} {
					if ino, err := walk.Walk(s, cwd, p, false); ino != dir || err != api.OK {
						t.Fatalf("seed %d: Walk(%d, %q) = %d, %v, not %d", seed, cwd, p, ino, err, dir)
					}
				}
			}
		}
	}
}

// P4.4: Walk of a Place as long as a path may be; of longer ones the limit of a path's bytes holds.
func TestLongPlaces(t *testing.T) {
	var lines []string
	for i, p := 0, ""; i < 20; i++ {
		p += strings.Repeat("n", 63) + "/"
		lines = append(lines, p)
	}
	b := build(t, lines...)
	for dir := range 21 {
		p := tree.Place(b.Tree, dir)
		ino, err := walk.Walk(b.Tree, 0, p, true)
		if len(p) <= 1024 && (ino != dir || err != api.OK) || len(p) > 1024 && (ino != 0 || err != api.ErrName) {
			t.Errorf("Walk of a Place of %d bytes = %d, %v, not %d", len(p), ino, err, dir)
		}
	}
	if p := tree.Place(b.Tree, 16); len(p) != 1024 {
		t.Errorf("a Place of %d bytes, not of 1024", len(p))
	}
}

// P4.4: Walk of a path without links is where its names lead, one by one, each from where the one ahead of it led.
func TestOneByOne(t *testing.T) {
	gone := 0
	for seed := range int64(500) {
		s, dirs := grownDirs(seed)
		for ino := range s.Nodes {
			if s.Nodes[ino].Kind == api.InLink {
				s.Nodes[ino].Kind = api.InFile
			}
		}
		r := rand.New(rand.NewSource(seed))
		for range 50 {
			cwd, p := dirs[r.Intn(len(dirs))], strings.TrimRight(wildPath(r, 6), "/")
			if p == "" {
				continue
			}
			at, wantErr := cwd, api.OK
			if p[0] == '/' {
				at = 0
			}
			for _, name := range path.Parts(p) {
				if wantErr == api.OK && s.Nodes[at].Kind != api.InDir {
					at, wantErr = 0, api.ErrNotDir
				}
				if wantErr == api.OK {
					at, wantErr = walk.Walk(s, at, name, true)
				}
			}
			if ino, err := walk.Walk(s, cwd, p, true); ino != at || err != wantErr {
				t.Fatalf("seed %d: Walk(%d, %q) = %d, %v, one by one %d, %v", seed, cwd, p, ino, err, at, wantErr)
			}
			if wantErr == api.OK {
				gone++
			}
		}
	}
	if gone < 1000 {
		t.Errorf("just %d ways were gone", gone)
	}
}

// P4.5: no way ends at a link, if it is to be followed at its end, nor does Parent's; what is told is there.
func TestNoLinkAtEnd(t *testing.T) {
	met := 0
	for seed := range int64(1000) {
		s := grown(seed)
		r := rand.New(rand.NewSource(-seed - 1))
		for range 100 {
			cwd, p := r.Intn(len(s.Nodes)), wildPath(r, 5)
			if ino, err := walk.Walk(s, cwd, p, true); err == api.OK && s.Nodes[ino].Kind != api.InFile && s.Nodes[ino].Kind != api.InDir {
				t.Fatalf("seed %d: Walk(%d, %q) ends at %d, of kind %d", seed, cwd, p, ino, s.Nodes[ino].Kind)
			}
			if ino, err := walk.Walk(s, cwd, p, false); err == api.OK && s.Nodes[ino].Kind == api.InLink {
				met++
				if strings.HasSuffix(p, "/") {
					t.Fatalf("seed %d: Walk(%d, %q) ends at the link %d", seed, cwd, p, ino)
				}
			}
			if dir, _, err := walk.Parent(s, cwd, p); err == api.OK && s.Nodes[dir].Kind != api.InDir {
				t.Fatalf("seed %d: Parent(%d, %q) is %d, of kind %d", seed, cwd, p, dir, s.Nodes[dir].Kind)
			}
		}
	}
	if met < 1000 {
		t.Errorf("just %d links were not followed", met)
	}
}

// P4.2, P4.3: Walk of Parent's directory and its last name is Walk of the path, wherever that ends with no slash.
func TestParentAndName(t *testing.T) {
	for seed := range int64(300) {
		s, dirs := grownDirs(seed)
		r := rand.New(rand.NewSource(seed))
		for range 100 {
			cwd, p := dirs[r.Intn(len(dirs))], strings.TrimRight(wildPath(r, 5), "/")
			dir, name, err := walk.Parent(s, cwd, p)
			if err != api.OK {
				continue
			}
			want, wantErr := walk.Walk(s, dir, name, false)
			if ino, err := walk.Walk(s, cwd, p, false); ino != want || err != wantErr {
				t.Fatalf("seed %d: Walk(%d, %q) = %d, %v, of Parent's %d, %q %d, %v", seed, cwd, p, ino, err, dir, name, want, wantErr)
			}
		}
	}
}

// wild is a tree whose fields are what a seed says: names, Ups and kinds that lead to nothing among them.
func wild(seed int64) api.Tree {
	r := rand.New(rand.NewSource(seed))
	number := func() int {
		return []int{r.Intn(14) - 2, r.Intn(6), r.Intn(6), []int{math.MinInt, math.MaxInt, -1}[r.Intn(3)]}[r.Intn(4)]
	}
	s := api.Tree{MaxNodes: number(), MaxBytes: number()}
	for range r.Intn(12) {
		n := api.Inode{Kind: []int{2, 2, 2, 3, 3, number()}[r.Intn(6)], Mode: []int{7, 7, number()}[r.Intn(3)], Links: number(), Up: number()}
		if r.Intn(3) > 0 {
			n.Data = wildPath(r, 3)
		}
		for range r.Intn(5) {
			n.Kids = append(n.Kids, api.Entry{Name: wildName(r), Ino: number()})
		}
		slices.SortFunc(n.Kids, func(a, b api.Entry) int { return strings.Compare(a.Name, b.Name) })
		s.Nodes = append(s.Nodes, n)
	}
	return s
}

// 0.1: of trees that are not fit all calls end, and what a way leads to is there all the same, so that a layer above may look at it.
func TestUnfit(t *testing.T) {
	for seed := range int64(5000) {
		s := wild(seed)
		r := rand.New(rand.NewSource(seed))
		was := copied(s)
		for cwd := -2; cwd < len(s.Nodes)+2; cwd++ {
			for range 5 {
				p := wildPath(r, 6)
				for _, follow := range []bool{true, false} {
					if ino, err := walk.Walk(s, cwd, p, follow); err == api.OK && (ino < 0 || ino >= len(s.Nodes)) {
						t.Fatalf("seed %d: Walk(%d, %q) = %d", seed, cwd, p, ino)
					}
				}
				if dir, _, err := walk.Parent(s, cwd, p); err == api.OK && (dir < 0 || dir >= len(s.Nodes)) {
					t.Fatalf("seed %d: Parent(%d, %q) = %d", seed, cwd, p, dir)
				}
				walk.May(s, cwd, r.Intn(8))
				if what := []int{-1, -8, 8, 9, 10, math.MinInt, math.MaxInt}[r.Intn(7)]; walk.May(s, cwd, what) {
					t.Fatalf("seed %d: May(%d, %d) = true", seed, cwd, what)
				}
			}
		}
		if !reflect.DeepEqual(s, was) {
			t.Fatalf("seed %d: a tree that was given is changed", seed)
		}
	}
}

// 0.1: of trees with nothing in them, and with links of no bytes, and of very many, all calls end.
func TestUnfitLinks(t *testing.T) {
	dir := func(kids ...api.Entry) api.Inode {
		return api.Inode{Kind: api.InDir, Mode: 7, Kids: kids}
	}
	link := func(to string) api.Tree {
		return api.Tree{Nodes: []api.Inode{dir(api.Entry{Name: "l", Ino: 1}), {Kind: api.InLink, Data: to}}}
	}
	for _, s := range []api.Tree{
		{}, {Nodes: []api.Inode{{}}}, {Nodes: []api.Inode{{}, dir()}}, {Nodes: []api.Inode{{Kind: api.InLink, Data: "/"}, dir()}},
		link(""), link("l"), link(strings.Repeat("./", 1<<13) + "l"), link(strings.Repeat("l/", 1<<13)),
	} {
		for cwd := -1; cwd < 3; cwd++ {
			for _, p := range []string{"", "/", "l", "l/", "l/l", "../l", "/l/.", "x"} {
				walk.Walk(s, cwd, p, true)
				walk.Walk(s, cwd, p, false)
				walk.Parent(s, cwd, p)
			}
		}
	}
}
