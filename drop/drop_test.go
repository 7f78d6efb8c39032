package drop_test

import (
	"math"
	"strings"
	"testing"

	"windlass/api"
	"windlass/drop"
	"windlass/make"
	"windlass/tree"
)

// dropper is one of the calls that take a name away.
type dropper struct {
	what string
	do   func(s api.Tree, cwd int, p string) (api.Tree, api.Errno)
}

var (
	unlink = dropper{"Unlink", drop.Unlink}
	rmdir  = dropper{"Rmdir", drop.Rmdir}
)

// rename is Rename of what is at a path given from any directory to one that is free, as one of those that take a name away.
func rename(to string) dropper {
	return dropper{"Rename to " + to + " of", func(s api.Tree, cwd int, p string) (api.Tree, api.Errno) {
		return drop.Rename(s, cwd, p, to)
	}}
}

// row is a path from a directory on, and the path of the name that goes, from the root on; or the error (an Errno).
type row struct {
	cwd, p string
	want   any
}

// hold makes one of the calls for each row, each on the tree as it is.
func (d dropper) hold(t *testing.T, s api.Tree, rows []row) {
	t.Helper()
	holdFit(t, "what is given", s)
	for _, x := range rows {
		was := copied(s)
		made, err := d.do(s, at(s, x.cwd), x.p)
		holdSame(t, d.what+" "+x.p+": what was given", s, was)
		want, wantErr := s, api.OK
		if gone, is := x.want.(string); is {
			want = flatten(s).without(gone).tree()
			holdFit(t, "what is wanted", want)
		} else {
			wantErr = x.want.(api.Errno)
		}
		if err != wantErr {
			t.Errorf("%s(%s, %.80q) = %v, not %v", d.what, x.cwd, x.p, err, wantErr)
			continue
		}
		holdSame(t, d.what+" "+x.p, made, want)
	}
}

// P6.1 to P6.3: the chapter's example.
func TestExample(t *testing.T) {
	s := build(t, "a/", "a/f")
	for _, x := range []struct {
		d    dropper
		p    string
		want api.Errno
	}{
		{rmdir, "a", api.ErrEmpty},
		{unlink, "a", api.ErrIsDir},
		{rename("a/b"), "a", api.ErrInval},
		{unlink, "a/f", api.OK},
		{rename("a/b"), "a", api.ErrInval},
		{rmdir, "a", api.OK},
		{rmdir, "a", api.ErrNone},
	} {
		var err api.Errno
		if s, err = x.d.do(s, 0, x.p); err != x.want {
			t.Errorf("%s %s = %v, not %v", x.d.what, x.p, err, x.want)
		}
		holdFit(t, x.d.what, s)
	}
	if used, bytes := tree.Used(s); used != 1 || bytes != 0 || len(tree.List(s)) != 0 {
		t.Errorf("behind all: %v", s)
	}
}

// P6.1: names of files and of links, through links on the way; a link that is named is not followed.
func TestUnlink(t *testing.T) {
	unlink.hold(t, sample(t), []row{
		{"/", "x", "/x"}, {"/", "/x", "/x"}, {"/d", "/x", "/x"}, {"/d", "../x", "/x"}, {"/d", "g", "/d/g"}, {"/d", "./g", "/d/g"}, {"/", "//d//g", "/d/g"},
		{"/", "d/e/f", "/d/e/f"}, {"/", "d/h", "/d/h"}, {"/d/e", "f", "/d/e/f"}, {"/", "y", "/y"}, {"/", "z", "/z"}, {"/empty", "../d/e/../h", "/d/h"},
		{"/", "toDir/f", "/d/e/f"}, {"/", "toRoot/x", "/x"}, {"/", "toRoot/toRoot", "/toRoot"}, {"/m", "up/x", "/x"}, {"/", "n/d/g", "/d/g"},
		{"/", "toDir/../g", "/d/g"}, {"/", strings.Repeat("./", 511) + "x", "/x"},
		{"/", "toFile", "/toFile"}, {"/", "toDir", "/toDir"}, {"/", "toEmpty", "/toEmpty"}, {"/", "toRoot", "/toRoot"}, {"/", "toNothing", "/toNothing"},
		{"/", "toItself", "/toItself"}, {"/", "m/up", "/m/up"}, {"/m", "rel", "/m/rel"}, {"/", "n", "/n"}, {"/", "m/up/n", "/n"},
	})
}

// P6.1: a directory is none for Unlink, be there names in it or not; a path that ends with a slash asks for one.
func TestUnlinkOfDirs(t *testing.T) {
	unlink.hold(t, sample(t), []row{
		{"/", "d", api.ErrIsDir}, {"/", "empty", api.ErrIsDir}, {"/", "d/e", api.ErrIsDir}, {"/empty", "../empty", api.ErrIsDir}, {"/", "toRoot/bare", api.ErrIsDir},
		{"/", "d/", api.ErrIsDir}, {"/", "empty/", api.ErrIsDir}, {"/", "d/e//", api.ErrIsDir},
		{"/", "x/", api.ErrNotDir}, {"/", "d/g/", api.ErrNotDir}, {"/", "d/h//", api.ErrNotDir}, {"/", "y/", api.ErrNotDir},
		{"/", "toFile/", api.ErrNotDir}, {"/", "toDir/", api.ErrNotDir}, {"/", "toRoot/", api.ErrNotDir}, {"/", "toNothing/", api.ErrNotDir},
		{"/", "toItself/", api.ErrNotDir}, {"/", "n/", api.ErrNotDir},
	})
}

// P6.1: of an inode with several names one goes at a time, Links 1 less, and all else of it stays; behind the last one it is free, and its bytes are gone.
func TestLinks(t *testing.T) {
	s := build(t, "d/", "d/a", "b = d/a", "c = d/a", "l -> to", "k = l")
	a, l := at(s, "b"), at(s, "l")
	_, before := tree.Used(s)
	for i, p := range []string{"b", "d/a", "c"} {
		var err api.Errno
		if s, err = drop.Unlink(s, 0, p); err != api.OK {
			t.Fatalf("Unlink of %s = %v", p, err)
		}
		holdFit(t, "behind "+p, s)
		want := api.Inode{Kind: api.InFile, Mode: 6, Links: 2 - i, Data: "d/a"}
		if i == 2 {
			want = api.Inode{}
		}
		holdSame(t, "the inode behind "+p, api.Tree{Nodes: s.Nodes[a : a+1]}, api.Tree{Nodes: []api.Inode{want}})
	}
	if _, bytes := tree.Used(s); bytes != before-len("d/a") {
		t.Errorf("%d bytes are used, and %d ahead of that", bytes, before)
	}
	s, _ = drop.Unlink(s, 0, "l")
	if n := s.Nodes[l]; n.Links != 1 || n.Data != "to" || n.Kind != api.InLink {
		t.Errorf("the link of a name that is left: %v", n)
	}
	s, _ = drop.Unlink(s, 0, "k")
	holdSame(t, "the link", api.Tree{Nodes: s.Nodes[l : l+1]}, api.Tree{Nodes: []api.Inode{{}}})
	if used, bytes := tree.Used(s); used != 2 || bytes != 0 {
		t.Errorf("%d inodes and %d bytes are used", used, bytes)
	}
}

// P6.1, P6.2: what went is room for what is new: the inode, the bytes, the name.
func TestRoom(t *testing.T) {
	s := build(t, "f", "e/")
	s.Nodes, s.MaxNodes, s.MaxBytes = s.Nodes[:3], 3, 1
	holdFit(t, "the tree", s)
	if _, _, err := make.Symlink(s, 0, "x", "new"); err != api.ErrSpace {
		t.Errorf("in a full tree: %v", err)
	}
	s, _ = drop.Unlink(s, 0, "f")
	s, ino, err := make.Symlink(s, 0, "x", "f")
	if ino != 1 || err != api.OK {
		t.Errorf("behind Unlink = %d, %v", ino, err)
	}
	s, _ = drop.Rmdir(s, 0, "e")
	if s, ino, err = make.Mkdir(s, 0, "e", 5); ino != 2 || err != api.OK {
		t.Errorf("behind Rmdir = %d, %v", ino, err)
	}
	holdFit(t, "behind all", s)
}

// P6.2: directories without names, by paths with and without a slash at the end, through links on the way.
func TestRmdir(t *testing.T) {
	rmdir.hold(t, sample(t), []row{
		{"/", "empty", "/empty"}, {"/", "bare", "/bare"}, {"/", "/empty", "/empty"}, {"/", "empty/", "/empty"}, {"/", "empty///", "/empty"}, {"/d", "../empty", "/empty"},
		{"/d/e", "../../bare/", "/bare"}, {"/", "toRoot/empty", "/empty"}, {"/m", "up/empty/", "/empty"}, {"/empty", "../bare", "/bare"}, {"/empty", "/bare", "/bare"},
	})
	s := build(t, "a/", "a/b/", "a/b/c/", "a/x/")
	rmdir.hold(t, s, []row{
		{"/", "a/b/c", "/a/b/c"}, {"/a/b", "c", "/a/b/c"}, {"/a/b", "../x", "/a/x"}, {"/a/x", "../b/c/", "/a/b/c"}, {"/a/b/c", "../../x", "/a/x"},
		{"/", "a/b", api.ErrEmpty}, {"/", "a", api.ErrEmpty},
	})
}

// P6.2: what is no directory, be it a link to one; a directory with names; the directory one is in, by whichever path.
func TestRmdirOfNone(t *testing.T) {
	s := sample(t)
	rmdir.hold(t, s, []row{
		{"/", "x", api.ErrNotDir}, {"/", "x/", api.ErrNotDir}, {"/", "d/h", api.ErrNotDir}, {"/", "y", api.ErrNotDir},
		{"/", "toEmpty", api.ErrNotDir}, {"/", "toEmpty/", api.ErrNotDir}, {"/", "toDir/", api.ErrNotDir}, {"/", "toRoot", api.ErrNotDir}, {"/", "toNothing", api.ErrNotDir},
		{"/", "toItself/", api.ErrNotDir}, {"/", "n", api.ErrNotDir},
		{"/", "d", api.ErrEmpty}, {"/", "d/", api.ErrEmpty}, {"/", "d/e", api.ErrEmpty}, {"/", "m", api.ErrEmpty}, {"/d", "/m/", api.ErrEmpty},
		{"/d", "../d", api.ErrEmpty}, {"/d", "/d", api.ErrEmpty}, {"/d/e", "/d/e/", api.ErrEmpty}, {"/d/e", "/d", api.ErrEmpty},
		{"/empty", "../empty", api.ErrInval}, {"/empty", "/empty", api.ErrInval}, {"/empty", "/empty/", api.ErrInval}, {"/bare", "../m/up/bare", api.ErrInval},
	})
	rmdir.hold(t, mode(s, "/empty", 0), []row{{"/", "empty", "/empty"}, {"/empty", "/empty", api.ErrInval}, {"/empty", "../empty", api.ErrAccess}})
}

// droppers is all calls that take a name away, Rename to paths that are and aren't free.
func droppers() []dropper {
	return []dropper{unlink, rmdir, rename("/new"), rename("/x"), rename("/d"), rename("/d/new"), rename(""), rename("nothing/new"), rename("/"), rename("\x00")}
}

// P6.1 to P6.3: what walk.Parent tells of a name is told; names that are . or .., that are not there; whatever Rename's other path would tell.
func TestNoName(t *testing.T) {
	for _, d := range droppers() {
		d.hold(t, sample(t), []row{
			{"/", "", api.ErrNone}, {"/", "/", api.ErrThere}, {"/d", "///", api.ErrThere},
			{"/x", "g", api.ErrNone}, {"/toDir", "f", api.ErrNone}, {"/nothing", "x", api.ErrNone}, {"/x", "/d/g", api.ErrNone}, {"/nothing", "/", api.ErrNone},
			{"/", "nothing/x", api.ErrNone}, {"/", "toNothing/x", api.ErrNone}, {"/", "x/y", api.ErrNotDir}, {"/", "x/.", api.ErrNotDir}, {"/", "x/../y", api.ErrNotDir},
			{"/", "toFile/x", api.ErrNotDir}, {"/", "toItself/x", api.ErrLoop}, {"/", strings.Repeat("n", 65), api.ErrName}, {"/", strings.Repeat("n", 65) + "/x", api.ErrName},
			{"/", strings.Repeat("./", 512) + "x", api.ErrName}, {"/", strings.Repeat("/", 1025), api.ErrName}, {"/", "d/" + strings.Repeat("\x00", 65), api.ErrName},
			{"/", ".", api.ErrInval}, {"/", "..", api.ErrInval}, {"/d", ".", api.ErrInval}, {"/d", "..", api.ErrInval}, {"/", "d/.", api.ErrInval}, {"/", "d/e/..", api.ErrInval},
			{"/empty", ".", api.ErrInval}, {"/", "empty/.", api.ErrInval}, {"/", "./", api.ErrInval}, {"/d", "../", api.ErrInval}, {"/", "toDir/..", api.ErrInval}, {"/", "toEmpty/.//", api.ErrInval},
			{"/", "nothing", api.ErrNone}, {"/", "nothing/", api.ErrNone}, {"/d", "x", api.ErrNone}, {"/", "d/f", api.ErrNone}, {"/", "toDir/g", api.ErrNone},
			{"/", "...", api.ErrNone}, {"/", "X", api.ErrNone}, {"/", "x ", api.ErrNone}, {"/", "d/gg", api.ErrNone}, {"/", "em", api.ErrNone},
			{"/", "\x00", api.ErrNone}, {"/", "x\x00", api.ErrNone}, {"/", "d\x00/", api.ErrNone}, {"/", strings.Repeat("n", 64), api.ErrNone},
		})
	}
}

// allowed is what is wanted where a Mode has all these bits; else ErrAccess is.
func allowed(mode, bits int) func(want any) any {
	return func(want any) any {
		if mode&bits == bits {
			return want
		}
		return api.ErrAccess
	}
}

// P6.1 to P6.3: all Modes of the name's directory, of one on the way to it, of the root; that of what goes is nothing to it.
func TestDirModes(t *testing.T) {
	for m := range 8 {
		in, by := allowed(m, 3), allowed(m, 1)
		s := build(t, "d/", "d/e/", "d/e/f", "d/e/c/", "d/g", "d/k/", "x", "c/")
		closed := mode(s, "/d", m)
		unlink.hold(t, closed, []row{
			{"/", "d/g", in("/d/g")}, {"/d", "g", in("/d/g")}, {"/d", "/d/g", in("/d/g")}, {"/d", "./g", in("/d/g")}, {"/", "d/e/f", by("/d/e/f")}, {"/d/e", "f", "/d/e/f"},
			{"/", "d/nothing", api.ErrNone}, {"/", "d/..", api.ErrInval}, {"/", "d/e/..", by(api.ErrInval)}, {"/", "x", "/x"}, {"/d", "../x", by("/x")},
			{"/", "d/k", in(api.ErrIsDir)}, {"/", "d/g/", in(api.ErrNotDir)}, {"/", "d", api.ErrIsDir},
		})
		rmdir.hold(t, closed, []row{
			{"/", "d/k", in("/d/k")}, {"/d", "k", in("/d/k")}, {"/", "d/k/", in("/d/k")}, {"/", "d/e/c", by("/d/e/c")}, {"/d/e", "c", "/d/e/c"},
			{"/", "d/nothing", api.ErrNone}, {"/", "d/.", api.ErrInval}, {"/", "c", "/c"}, {"/d", "/c", "/c"},
			{"/", "d/e", in(api.ErrEmpty)}, {"/", "d/g", in(api.ErrNotDir)}, {"/d/k", "/d/k", in(api.ErrInval)}, {"/", "d", api.ErrEmpty},
		})
		unlink.hold(t, mode(s, "/x", m), []row{{"/", "x", "/x"}})
		rmdir.hold(t, mode(s, "/c", m), []row{{"/", "c", "/c"}, {"/c", "/c", api.ErrInval}})
		root := mode(s, "/", m)
		unlink.hold(t, root, []row{{"/", "x", in("/x")}, {"/d", "/x", in("/x")}, {"/d", "g", "/d/g"}, {"/", "d/g", by("/d/g")}, {"/", "nothing", api.ErrNone}})
		rmdir.hold(t, root, []row{{"/", "c", in("/c")}, {"/d", "../c", in("/c")}, {"/d", "k", "/d/k"}, {"/", "d/k", by("/d/k")}, {"/", ".", api.ErrInval}})
	}
}

// P6.1 to P6.3: a cwd that is no directory, or is not there.
func TestCwd(t *testing.T) {
	s := sample(t)
	for _, cwd := range []int{-1, at(s, "x"), at(s, "toDir"), len(s.Nodes) - 1, len(s.Nodes), math.MinInt, math.MaxInt} {
		for _, p := range []string{"", "x", "/x", "/", "d/g", "/empty", "nothing", "x/", ".", "x\x00", strings.Repeat("n", 65)} {
			for _, d := range droppers() {
				made, err := d.do(s, cwd, p)
				if err != api.ErrNone {
					t.Errorf("%s(%d, %.80q) = %v", d.what, cwd, p, err)
				}
				holdSame(t, d.what, made, s)
			}
		}
	}
}

// P6.1, P6.2: a directory of as many names as there may be loses one, and another one can come.
func TestCrowdedDir(t *testing.T) {
	for _, in := range []string{"/", "/d"} {
		s := crowded(build(t, "d/", "d/k10100a/", "k10100b/", "x"), in, 1024)
		unlink.hold(t, s, []row{{in, "k10500", strings.TrimSuffix(in, "/") + "/k10500"}, {"/", "x", "/x"}, {in, "nothing", api.ErrNone}})
		rmdir.hold(t, s, []row{{"/", "d/k10100a", "/d/k10100a"}, {"/", "k10100b", "/k10100b"}, {in, "k10500", api.ErrNotDir}})
	}
}
