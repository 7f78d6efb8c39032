package drop_test

import (
	"math/rand"
	"slices"
	"strings"
	"testing"

	"windlass/api"
	"windlass/drop"
	"windlass/tree"
	"windlass/walk"
)

// place is where a path's last name stands, or could: its directory, the path of the name from the root on, the name; or walk.Parent's error.
func place(s api.Tree, cwd int, p string) (int, string, string, api.Errno) {
	dir, name, err := walk.Parent(s, cwd, p)
	if err != api.OK {
		return 0, "", "", err
	}
	return dir, strings.TrimSuffix(tree.Place(s, dir), "/") + "/" + name, name, api.OK
}

func mayChange(s api.Tree, dir int) bool { return s.Nodes[dir].Mode == 3 || s.Nodes[dir].Mode == 7 }

// wantName is what the chapter says of a name that is to go, by paths.
func wantName(s api.Tree, f flat, cwd int, p string) (string, api.Errno) {
	dir, old, name, err := place(s, cwd, p)
	if err != api.OK {
		return "", err
	}
	if name == "." || name == ".." {
		return "", api.ErrInval
	}
	if _, there := f.paths[old]; !there {
		return "", api.ErrNone
	}
	if !mayChange(s, dir) {
		return "", api.ErrAccess
	}
	return old, api.OK
}

// wantUnlink is what the chapter says of Unlink, by paths.
func wantUnlink(s api.Tree, cwd int, p string) (api.Tree, api.Errno) {
	f := flatten(s)
	gone, err := wantName(s, f, cwd, p)
	switch {
	case err != api.OK:
		return s, err
	case f.isDir(gone):
		return s, api.ErrIsDir
	case p[len(p)-1] == '/':
		return s, api.ErrNotDir
	}
	return f.without(gone).tree(), api.OK
}

// wantRmdir is what the chapter says of Rmdir, by paths.
func wantRmdir(s api.Tree, cwd int, p string) (api.Tree, api.Errno) {
	f := flatten(s)
	gone, err := wantName(s, f, cwd, p)
	switch {
	case err != api.OK:
		return s, err
	case !f.isDir(gone):
		return s, api.ErrNotDir
	case f.full(gone):
		return s, api.ErrEmpty
	case tree.Place(s, cwd) == gone:
		return s, api.ErrInval
	}
	return f.without(gone).tree(), api.OK
}

// wantRename is what the chapter says of Rename, by paths.
func wantRename(s api.Tree, cwd int, old, p string) (api.Tree, api.Errno) {
	f := flatten(s)
	from, err := wantName(s, f, cwd, old)
	if err != api.OK {
		return s, err
	}
	dir, to, name, err := place(s, cwd, p)
	if err != api.OK {
		return s, err
	}
	isDir := f.isDir(from)
	switch {
	case name == "." || name == ".." || strings.Contains(name, "\x00"):
		return s, api.ErrInval
	case !mayChange(s, dir):
		return s, api.ErrAccess
	case !isDir && (old[len(old)-1] == '/' || p[len(p)-1] == '/'):
		return s, api.ErrNotDir
	case isDir && strings.HasPrefix(to, from+"/"):
		return s, api.ErrInval
	}
	ino, there := f.paths[to]
	switch {
	case there && ino == f.paths[from]:
		return s, api.OK
	case there && isDir && !f.isDir(to):
		return s, api.ErrNotDir
	case f.isDir(to) && !isDir:
		return s, api.ErrIsDir
	case there && f.full(to):
		return s, api.ErrEmpty
	case there && to == tree.Place(s, cwd):
		return s, api.ErrInval
	case !there && len(s.Nodes[dir].Kids) == 1024:
		return s, api.ErrSpace
	}
	return f.without(to).moved(from, to).tree(), api.OK
}

// call is a call: what it is given, what it told, what it was to tell.
type call struct {
	what      string
	cwd       int
	old, p    string // of Unlink and Rmdir just the first one
	got, want api.Tree
	err, must api.Errno
}

func callUnlink(s api.Tree, cwd int, p string) call {
	c := call{what: "Unlink", cwd: cwd, old: p}
	c.got, c.err = drop.Unlink(s, cwd, p)
	c.want, c.must = wantUnlink(s, cwd, p)
	return c
}

func callRmdir(s api.Tree, cwd int, p string) call {
	c := call{what: "Rmdir", cwd: cwd, old: p}
	c.got, c.err = drop.Rmdir(s, cwd, p)
	c.want, c.must = wantRmdir(s, cwd, p)
	return c
}

func callRename(s api.Tree, cwd int, old, p string) call {
	c := call{what: "Rename", cwd: cwd, old: old, p: p}
	c.got, c.err = drop.Rename(s, cwd, old, p)
	c.want, c.must = wantRename(s, cwd, old, p)
	return c
}

// met counts, of each call, what it told.
type met map[string]map[api.Errno]int

func (m met) add(c call) {
	if m[c.what] == nil {
		m[c.what] = map[api.Errno]int{}
	}
	m[c.what][c.err]++
}

// hold wants each call to have told each of its errors, and OK, so many times.
func (m met) hold(t *testing.T, times int) {
	t.Helper()
	all := []api.Errno{api.OK, api.ErrNone, api.ErrThere, api.ErrNotDir, api.ErrAccess, api.ErrInval, api.ErrLoop, api.ErrName}
	for what, errs := range map[string][]api.Errno{
		"Unlink": append(slices.Clone(all), api.ErrIsDir),
		"Rmdir":  append(slices.Clone(all), api.ErrEmpty),
		"Rename": append(slices.Clone(all), api.ErrIsDir, api.ErrEmpty),
	} {
		for _, err := range errs {
			if m[what][err] < times {
				t.Errorf("%s told %v just %d times", what, err, m[what][err])
			}
		}
	}
}

// hold wants a call to have told what it was to, and what follows from OK to hold.
func (c call) hold(t *testing.T, s, was api.Tree) {
	t.Helper()
	if c.err != c.must || !tree.Same(c.got, c.want) {
		t.Fatalf("%s(%d, %.80q, %.80q) = %v, %v, not %v, %v, of %v", c.what, c.cwd, c.old, c.p, c.got, c.err, c.want, c.must, was)
	}
	if !tree.Same(s, was) {
		t.Fatalf("%s(%d, %.80q, %.80q) changed what it was given: %v, and was %v", c.what, c.cwd, c.old, c.p, s, was)
	}
	if c.err == api.OK {
		holdStays(t, s, c)
		if c.what == "Rename" {
			holdMoved(t, s, c)
		}
	}
}

// listed is the paths of a tree, and of each the inode with what is in it but its names.
func listed(s api.Tree) map[string]api.Inode {
	all := map[string]api.Inode{}
	for _, p := range tree.List(s) {
		n := s.Nodes[at(s, p)]
		all[p] = api.Inode{Kind: n.Kind, Mode: n.Mode, Data: n.Data, Up: at(s, p)} // Up: which inode it is
	}
	return all
}

// holdStays wants what P6.4 says of a call that told OK: the tree is fit, the name that went is there no more, all others lead to what they led to.
func holdStays(t *testing.T, s api.Tree, c call) {
	t.Helper()
	holdFit(t, c.what, c.got)
	_, old, _, _ := place(s, c.cwd, c.old)
	was, is := listed(s), listed(c.got)
	if _, there := is[old]; there && !(c.what == "Rename" && tree.Same(s, c.got)) {
		t.Fatalf("%s of %q: %s is still there", c.what, c.old, old)
	}
	to := ""
	if c.what == "Rename" {
		_, to, _, _ = place(s, c.cwd, c.p)
	}
	for p, n := range was {
		if p == old || p == to || strings.HasPrefix(p, old+"/") {
			continue
		}
		if m, there := is[p]; !there || !sameNode(n, m) {
			t.Fatalf("%s of %q, %q: %s is not what it was", c.what, c.old, c.p, p)
		}
	}
	if c.what != "Rename" && len(is) != len(was)-1 {
		t.Fatalf("%s of %q: %d paths of %d", c.what, c.old, len(is), len(was))
	}
}

func sameNode(a, b api.Inode) bool {
	return a.Kind == b.Kind && a.Mode == b.Mode && a.Data == b.Data && a.Up == b.Up
}

// holdMoved wants what P6.5 says of a Rename that told OK: what stood at old stands at p, with all in it; renamed back it is as before, if nothing stood at p.
func holdMoved(t *testing.T, s api.Tree, c call) {
	t.Helper()
	_, old, _, _ := place(s, c.cwd, c.old)
	_, to, _, _ := place(s, c.cwd, c.p)
	was, is := listed(s), listed(c.got)
	for p, n := range was {
		if below, in := strings.CutPrefix(p+"/", old+"/"); in {
			q := strings.TrimSuffix(to+"/"+below, "/")
			if m, there := is[q]; !there || !sameNode(n, m) {
				t.Fatalf("Rename of %s to %s: %s is not what %s was", old, to, q, p)
			}
		}
	}
	if _, there := was[to]; there {
		return
	}
	// A Mode can bar the straight way to either of the names.
	_, _, errTo := walk.Parent(c.got, 0, to)
	_, _, errOld := walk.Parent(c.got, 0, old)
	if errTo != api.OK || errOld != api.OK {
		return
	}
	back, err := drop.Rename(c.got, 0, to, old)
	if err != api.OK || !tree.Same(back, s) {
		t.Fatalf("Rename of %s to %s, and back = %v, %v, not %v", old, to, back, err, s)
	}
}

// P6.1 to P6.5: calls by seeds, one behind the other, in trees that grew by seeds.
func TestBySeeds(t *testing.T) {
	all := met{}
	for seed := range int64(1200) {
		r := rand.New(rand.NewSource(seed))
		s := grown(r)
		holdFit(t, "a tree that grew", s)
		for range 40 {
			was, cwd := copied(s), []int{0, 0, r.Intn(len(s.Nodes)+2) - 1}[r.Intn(3)]
			var c call
			switch r.Intn(8) {
			case 0:
				c = callUnlink(s, cwd, wildText(r))
			case 1:
				c = callRmdir(s, cwd, wildText(r))
			default:
				c = callRename(s, cwd, wildText(r), wildText(r))
			}
			c.hold(t, s, was)
			all.add(c)
			if r.Intn(3) > 0 { // else the next call is made in the same tree, so that not all is gone soon
				s = c.got
			}
		}
	}
	all.hold(t, 20)
}

// P6.1 to P6.5: all paths of a small tree by all paths, from several directories on, by several Modes.
func TestAllPaths(t *testing.T) {
	base := build(t, "a/", "a/b/", "a/f", "a/g = a/f", "c/", "c/d/", "e/", "x", "l -> a", "k = l", "m -> e/")
	var paths []string
	for _, p := range append(tree.List(base), "/n", "/a/n", "/a/b/n", "/e/n", "/l/b", "/l/n", "/m/n", "/x/n", "/n/n", "/.", "/a/.", "/a/b/..", "/a/n\x00") {
		paths = append(paths, p, p+"/")
	}
	paths = append(paths, "", "/", "b", "../e", "..", "n")
	all := 0
	for _, s := range []api.Tree{base, mode(base, "/a", 5), mode(base, "/c", 6), mode(mode(base, "/e", 4), "/a", 3), mode(base, "/", 1), mode(base, "/", 6)} {
		was := copied(s)
		for _, cwd := range []int{0, at(s, "/a"), at(s, "/a/b"), at(s, "/e"), at(s, "/x")} {
			for _, old := range paths {
				calls := []call{callUnlink(s, cwd, old), callRmdir(s, cwd, old)}
				for _, p := range paths {
					calls = append(calls, callRename(s, cwd, old, p))
				}
				for _, c := range calls {
					all++
					c.hold(t, s, was)
				}
			}
		}
	}
	if all < 50000 {
		t.Errorf("just %d calls", all)
	}
}
