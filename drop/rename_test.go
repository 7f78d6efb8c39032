package drop_test

import (
	"fmt"
	"strings"
	"testing"

	"windlass/api"
	"windlass/drop"
	"windlass/tree"
)

// renamed is two paths from a directory on, and what is wanted: "/old /p", the path that goes and the one that takes its place, both from the root on; stays; or the error (an Errno).
type renamed struct {
	cwd, old, p string
	want        any
}

// stays is wanted where OK is told, and nothing changes.
const stays = "stays"

// holdRename makes Rename for each row, each on the tree as it is.
func holdRename(t *testing.T, s api.Tree, rows []renamed) {
	t.Helper()
	holdFit(t, "what is given", s)
	for _, x := range rows {
		what := fmt.Sprintf("Rename(%s, %.80q, %.80q)", x.cwd, x.old, x.p)
		was := copied(s)
		made, err := drop.Rename(s, at(s, x.cwd), x.old, x.p)
		holdSame(t, what+": what was given", s, was)
		want, wantErr := s, api.OK
		if e, is := x.want.(api.Errno); is {
			wantErr = e
		} else if x.want != stays {
			old, p, _ := strings.Cut(x.want.(string), " ")
			want = flatten(s).without(p).moved(old, p).tree()
			holdFit(t, "what is wanted", want)
		}
		if err != wantErr {
			t.Errorf("%s = %v, not %v", what, err, wantErr)
			continue
		}
		holdSame(t, what, made, want)
	}
}

// P6.3: to names that are free: in the same directory and in another one, up and down, ahead of, between and behind those that are there, through links on the way.
func TestRename(t *testing.T) {
	holdRename(t, sample(t), []renamed{
		{"/", "x", "new", "/x /new"}, {"/", "/x", "/d/new", "/x /d/new"}, {"/d", "g", "new", "/d/g /d/new"}, {"/d", "g", "/new", "/d/g /new"}, {"/d", "e/f", "../m/new", "/d/e/f /m/new"},
		{"/d/e", "../../x", "new", "/x /d/e/new"}, {"/", "x", "empty/x", "/x /empty/x"}, {"/", "m/in", "in", "/m/in /in"}, {"/", "x", "A", "/x /A"}, {"/", "x", "~", "/x /~"},
		{"/", "x", "d/a", "/x /d/a"}, {"/", "x", "d/ee", "/x /d/ee"}, {"/", "x", "d/z", "/x /d/z"}, {"/", "x", "d/\xff", "/x /d/\xff"}, {"/", "x", "d/...", "/x /d/..."},
		{"/", "x", "xx", "/x /xx"}, {"/", "x", "X", "/x /X"}, {"/", "d/g", "d/gg", "/d/g /d/gg"}, {"/", "x", strings.Repeat("n", 64), "/x /" + strings.Repeat("n", 64)},
		{"/", "x", strings.Repeat("./", 511) + "mm", "/x /mm"},
		{"/", "toDir/f", "toEmpty/f", "/d/e/f /empty/f"}, {"/", "toRoot/x", "n/new", "/x /new"}, {"/m", "up/x", "up/d/new", "/x /d/new"}, {"/", "y", "new", "/y /new"}, {"/", "z", "d/y", "/z /d/y"},
		{"/", "d/h", "h", "/d/h /h"}, {"/", "d/h", "d/e/h", "/d/h /d/e/h"}, {"/", "toDir/../g", "toDir/g", "/d/g /d/e/g"},
	})
}

// P6.3: links are moved themselves, wherever they lead, and still have what they had.
func TestRenameOfLinks(t *testing.T) {
	holdRename(t, sample(t), []renamed{
		{"/", "toFile", "new", "/toFile /new"}, {"/", "toDir", "d/new", "/toDir /d/new"}, {"/", "toRoot", "m/new", "/toRoot /m/new"}, {"/", "toNothing", "nothing", "/toNothing /nothing"},
		{"/", "toItself", "new", "/toItself /new"}, {"/", "m/up", "up", "/m/up /up"}, {"/", "n", "d/e/n", "/n /d/e/n"}, {"/", "m/up/toDir", "new", "/toDir /new"},
		{"/", "toDir", "toDir/new", "/toDir /d/e/new"}, {"/", "toEmpty", "toEmpty/toEmpty", "/toEmpty /empty/toEmpty"},
	})
}

// P6.3: directories, with all that is in them; Up of a directory that is in another one now is that.
func TestRenameOfDirs(t *testing.T) {
	s := sample(t)
	holdRename(t, s, []renamed{
		{"/", "d", "new", "/d /new"}, {"/", "d", "m/new", "/d /m/new"}, {"/", "d/e", "e", "/d/e /e"}, {"/", "d/e", "empty/e", "/d/e /empty/e"}, {"/d/e", "/d", "/m/d", "/d /m/d"},
		{"/", "empty", "d/e/empty", "/empty /d/e/empty"}, {"/d", "../empty", "e/new", "/empty /d/e/new"}, {"/", "m", "d/e/m", "/m /d/e/m"}, {"/", "d", "toEmpty/d", "/d /empty/d"},
		{"/", "d/", "new", "/d /new"}, {"/", "d", "new/", "/d /new"}, {"/", "d//", "m/new///", "/d /m/new"}, {"/", "empty/", "bare/in/", "/empty /bare/in"},
		{"/empty", "../empty", "../new", "/empty /new"}, {"/empty", "/empty", "/d/new", "/empty /d/new"}, {"/d/e", "../e", "/e", "/d/e /e"}, {"/", "toRoot/d", "toRoot/new", "/d /new"},
		{"/", "d", "dd", "/d /dd"}, {"/", "empty", "emp", "/empty /emp"},
	})
	made, err := drop.Rename(s, 0, "d/e", "empty/in")
	if e := at(s, "d/e"); err != api.OK || made.Nodes[e].Up != at(s, "empty") || made.Nodes[e].Links != 1 || tree.Place(made, e) != "/empty/in" || at(made, "/empty/in/f") != at(s, "/d/e/f") {
		t.Errorf("Rename of d/e = %v, %v", made, err)
	}
}

// P6.3: a new name that can not stand in a directory.
func TestRenameToNoName(t *testing.T) {
	for _, old := range []string{"x", "d", "empty", "toDir", "y", "d/e", "x/", "d/"} {
		for _, p := range []string{".", "..", "d/.", "d/..", "d/e/..", "empty/.", "./", "../", "d/e/../", "toDir/.", "toDir/..", "\x00", "x\x00", "\x00x", "d/e/x\x00y", "d/\x00/", strings.Repeat("\x00", 64)} {
			holdRename(t, sample(t), []renamed{{"/", old, p, api.ErrInval}})
		}
	}
}

// P6.3: what walk.Parent tells of the new name's path is told.
func TestRenameToNowhere(t *testing.T) {
	for _, old := range []string{"x", "d", "empty", "toDir", "y", "d/e/f", "x/"} {
		for p, err := range map[string]api.Errno{
			"": api.ErrNone, "/": api.ErrThere, "//": api.ErrThere, "nothing/new": api.ErrNone, "toNothing/new": api.ErrNone, "d\x00/new": api.ErrNone,
			"x/new": api.ErrNotDir, "x/.": api.ErrNotDir, "toFile/new": api.ErrNotDir, "x/../new": api.ErrNotDir, "toItself/new": api.ErrLoop, "x/\x00": api.ErrNotDir,
			strings.Repeat("n", 65): api.ErrName, strings.Repeat("n", 65) + "/": api.ErrName, strings.Repeat("./", 511) + "new": api.ErrName, strings.Repeat("n/", 1<<16): api.ErrName,
			"d/" + strings.Repeat("\x00", 65): api.ErrName,
		} {
			holdRename(t, sample(t), []renamed{{"/", old, p, err}})
		}
	}
}

// P6.3: a slash at the end of either path asks for a directory, which a link to one is not.
func TestRenameSlash(t *testing.T) {
	for _, old := range []string{"x", "y", "d/h", "toFile", "toDir", "toEmpty", "toRoot", "toNothing", "toItself", "n", "m/up"} {
		for _, p := range []string{"new", "d/new", "x", "z", "d", "empty", "toDir", "d/e", old} {
			holdRename(t, sample(t), []renamed{
				{"/", old + "/", p, api.ErrNotDir}, {"/", old, p + "/", api.ErrNotDir}, {"/", old + "//", p + "//", api.ErrNotDir},
			})
		}
	}
	holdRename(t, sample(t), []renamed{{"/", "d/", "x/", api.ErrNotDir}, {"/", "d/", "toEmpty/", api.ErrNotDir}, {"/", "empty/", "bare/", "/empty /bare"}, {"/", "d/", "d/", stays}})
}

// P6.3: a directory to a place in itself, and deeper in itself, be there something or not; what just has a like name is another one.
func TestRenameIntoItself(t *testing.T) {
	s := build(t, "a/", "a/b/", "a/b/c/", "a/f", "ab/", "ab/b/", "l -> a/b", "m -> a")
	holdRename(t, s, []renamed{
		{"/", "a", "a/new", api.ErrInval}, {"/", "a", "a/b/new", api.ErrInval}, {"/", "a", "a/b/c/new", api.ErrInval}, {"/", "a/", "a/new/", api.ErrInval}, {"/", "a", "a/a", api.ErrInval},
		{"/", "a", "a/b", api.ErrInval}, {"/", "a", "a/f", api.ErrInval}, {"/", "a", "a/b/c", api.ErrInval}, {"/", "a/b", "a/b/c", api.ErrInval}, {"/", "a/b", "a/b/c/b", api.ErrInval},
		{"/", "a/b/c", "a/b/c/c", api.ErrInval}, {"/", "a", "l/new", api.ErrInval}, {"/", "a", "m/new", api.ErrInval}, {"/", "m/b", "l/new", api.ErrInval}, {"/a/b", "../../a", "new", api.ErrInval},
		{"/a/b", "/a", "c/new", api.ErrInval}, {"/a", "../a", "new", api.ErrInval}, {"/a/b/c", "../../../ab", "/ab/b/new", api.ErrInval},
		{"/", "a", "ab/new", "/a /ab/new"}, {"/", "a", "ab/a", "/a /ab/a"}, {"/", "a/b", "ab/new", "/a/b /ab/new"}, {"/", "ab", "a/new", "/ab /a/new"}, {"/", "ab", "a/b/c/new", "/ab /a/b/c/new"},
		{"/", "a/b/c", "a/b/new", "/a/b/c /a/b/new"}, {"/", "a/b/c", "a/new", "/a/b/c /a/new"}, {"/", "a/b/c", "c", "/a/b/c /c"}, {"/", "a/b", "b", "/a/b /b"}, {"/", "ab/b", "a/b/c", "/ab/b /a/b/c"},
		{"/", "a/b", "a", api.ErrEmpty}, {"/", "a/b/c", "a", api.ErrEmpty}, {"/", "a/f", "a/b/new", "/a/f /a/b/new"}, {"/", "m", "m/new", "/m /a/new"},
	})
}

// P6.3: going Up is asked as far as it goes: in the longest row of directories that there can be.
func TestRenameDeep(t *testing.T) {
	s, _ := tree.New(256, 0)
	for i := 1; i < 255; i++ {
		s.Nodes[i-1].Kids = []api.Entry{{Name: "a", Ino: i}}
		s.Nodes[i] = api.Inode{Kind: api.InDir, Mode: 7, Links: 1, Up: i - 1}
	}
	s.Nodes[0].Kids = append(s.Nodes[0].Kids, api.Entry{Name: "b", Ino: 255})
	s.Nodes[255] = api.Inode{Kind: api.InDir, Mode: 7, Links: 1}
	deep := strings.Repeat("/a", 254)
	holdRename(t, s, []renamed{
		{"/", "a", deep + "/new", api.ErrInval}, {"/", "a/a", deep + "/new", api.ErrInval}, {"/", deep, deep + "/new", api.ErrInval}, {"/", "a", deep[2:], api.ErrInval},
		{"/", "b", deep + "/new", "/b " + deep + "/new"}, {"/", deep, "b/new", deep + " /b/new"}, {"/", "b", deep, "/b " + deep}, {"/", "a", "b/new", "/a /b/new"},
	})
}

// P6.3: the same inode at both paths: by the same name, or by another one of a file, a link.
func TestRenameToTheSame(t *testing.T) {
	s := sample(t)
	holdRename(t, s, []renamed{
		{"/", "x", "x", stays}, {"/", "d", "d", stays}, {"/", "empty", "empty", stays}, {"/", "toDir", "toDir", stays}, {"/", "toItself", "toItself", stays}, {"/d", "g", "/d/g", stays},
		{"/", "y", "z", stays}, {"/", "z", "y", stays}, {"/", "d/h", "d/e/f", stays}, {"/", "d/e/f", "toDir/../h", stays}, {"/", "n", "m/up", stays}, {"/", "m/up", "n", stays},
		{"/", "d/e", "toDir/../e", stays}, {"/", "d/", "d", stays}, {"/", "d", "d/", stays}, {"/d", "../d", "/d", stays}, {"/empty", "/empty", "../empty", stays}, {"/d", "../d/", "/d/", stays},
		{"/", "toFile", "d/e/f", "/toFile /d/e/f"}, {"/", "d/e/f", "toFile", "/d/e/f /toFile"},
	})
	holdRename(t, crowded(s, "/d", 1024), []renamed{{"/d", "g", "g", stays}, {"/d", "k10500", "k10501", stays}, {"/", "x", "d/k10500", stays}, {"/", "d/k10500", "x", stays}, {"/", "d", "d", stays}})
}

// P6.3: a file or a link over another one, of one name and of two: the other one's name goes, and it with its last one.
func TestRenameOver(t *testing.T) {
	s := sample(t)
	holdRename(t, s, []renamed{
		{"/", "x", "y", "/x /y"}, {"/", "y", "x", "/y /x"}, {"/", "x", "d/g", "/x /d/g"}, {"/d", "g", "../x", "/d/g /x"}, {"/", "d/h", "y", "/d/h /y"}, {"/", "z", "d/e/f", "/z /d/e/f"},
		{"/", "x", "toFile", "/x /toFile"}, {"/", "x", "toDir", "/x /toDir"}, {"/", "x", "toEmpty", "/x /toEmpty"}, {"/", "x", "toItself", "/x /toItself"}, {"/", "toDir", "x", "/toDir /x"},
		{"/", "toDir", "toEmpty", "/toDir /toEmpty"}, {"/", "n", "x", "/n /x"}, {"/", "x", "n", "/x /n"}, {"/", "x", "m/up", "/x /m/up"}, {"/", "m/rel", "m/up", "/m/rel /m/up"},
		{"/", "d/g", "d/h", "/d/g /d/h"}, {"/", "d/h", "d/g", "/d/h /d/g"},
	})
	one, _ := drop.Rename(s, 0, "x", "d/g")
	if g := at(s, "d/g"); one.Nodes[g].Kind != api.InFree || one.Nodes[g].Data != "" || one.Nodes[at(s, "x")].Links != 1 {
		t.Errorf("over a file of one name: %v", one)
	}
	two, _ := drop.Rename(s, 0, "x", "y")
	if n := two.Nodes[at(s, "y")]; n.Kind != api.InFile || n.Data != "y" || n.Links != 1 || at(two, "z") != at(s, "y") || at(two, "y") != at(s, "x") {
		t.Errorf("over a file of two names: %v", two)
	}
}

// P6.3: what can not go: a directory for a file, a file or a link for a directory, a directory with names, the directory one is in.
func TestRenameOverWhatStays(t *testing.T) {
	s := sample(t)
	holdRename(t, s, []renamed{
		{"/", "d", "x", api.ErrNotDir}, {"/", "empty", "x", api.ErrNotDir}, {"/", "empty", "y", api.ErrNotDir}, {"/", "d", "m/in", api.ErrNotDir}, {"/", "empty", "toDir", api.ErrNotDir},
		{"/", "empty", "toEmpty", api.ErrNotDir}, {"/", "empty", "toEmpty/", api.ErrNotDir}, {"/", "bare/", "toItself", api.ErrNotDir}, {"/", "d/e", "d/g", api.ErrNotDir}, {"/", "d", "n", api.ErrNotDir},
		{"/", "x", "d", api.ErrIsDir}, {"/", "x", "empty", api.ErrIsDir}, {"/", "toDir", "d", api.ErrIsDir}, {"/", "toDir", "d/e", api.ErrIsDir}, {"/", "toEmpty", "empty", api.ErrIsDir},
		{"/", "d/e/f", "d/e", api.ErrIsDir}, {"/", "d/e/f", "d", api.ErrIsDir}, {"/", "y", "m/up/d", api.ErrIsDir}, {"/empty", "/x", "/empty", api.ErrIsDir}, {"/d", "g", "/d", api.ErrIsDir},
		{"/", "empty", "d", api.ErrEmpty}, {"/", "empty", "d/e", api.ErrEmpty}, {"/", "d", "m", api.ErrEmpty}, {"/", "d/e", "d", api.ErrEmpty}, {"/d", "/m", "../d", api.ErrEmpty}, {"/d", "/empty", "/d", api.ErrEmpty},
		{"/empty", "/bare", "/empty", api.ErrInval}, {"/empty", "/d", "../empty", api.ErrInval}, {"/bare", "../d/e", "../m/up/bare", api.ErrInval}, {"/empty", "/d/", "/empty/", api.ErrInval},
	})
}

// P6.3: a directory over one without names, which goes first.
func TestRenameOverEmpty(t *testing.T) {
	s := sample(t)
	holdRename(t, s, []renamed{
		{"/", "d", "empty", "/d /empty"}, {"/", "bare", "empty", "/bare /empty"}, {"/", "d/e", "empty", "/d/e /empty"}, {"/", "m/", "bare/", "/m /bare"}, {"/d", "e", "/bare", "/d/e /bare"},
		{"/bare", "../bare", "../empty", "/bare /empty"}, {"/d", "/d", "/empty", "/d /empty"}, {"/", "d", "toRoot/empty/", "/d /empty"},
	})
	holdRename(t, build(t, "a/", "a/b/", "a/b/f", "c/", "c/d/", "c/d/e/"), []renamed{{"/", "a", "c/d/e", "/a /c/d/e"}, {"/", "a/b", "c/d/e", "/a/b /c/d/e"}, {"/c", "d/e", "/a/b", api.ErrEmpty}, {"/", "c/d", "a", api.ErrEmpty}})
	made, _ := drop.Rename(s, 0, "d/e", "empty")
	if e := at(s, "d/e"); made.Nodes[at(s, "empty")].Kind != api.InFree || made.Nodes[e].Links != 1 || made.Nodes[e].Up != 0 || tree.Place(made, e) != "/empty" {
		t.Errorf("over an empty directory: %v", made)
	}
}

// P6.3: all Modes of both directories, of one on the way, of the root; those of what is moved, and of what goes for it, are nothing to it.
func TestRenameModes(t *testing.T) {
	for m := range 8 {
		in, by := allowed(m, 3), allowed(m, 1)
		s := build(t, "d/", "d/e/", "d/e/f", "d/g", "d/c/", "m/", "m/f", "x", "c/")
		holdRename(t, mode(s, "/d", m), []renamed{
			{"/", "x", "d/new", in("/x /d/new")}, {"/", "d/g", "new", in("/d/g /new")}, {"/d", "g", "new", in("/d/g /d/new")}, {"/", "d/g", "d/g", in(stays)}, {"/", "c", "d/c", in("/c /d/c")},
			{"/", "d/e/f", "new", by("/d/e/f /new")}, {"/", "x", "d/e/new", by("/x /d/e/new")}, {"/d/e", "f", "new", "/d/e/f /d/e/new"}, {"/", "d", "m/new", "/d /m/new"}, {"/", "d", "c", "/d /c"},
			{"/", "x", "d/e", in(api.ErrIsDir)}, {"/", "x", "d/nothing/new", by(api.ErrNone)}, {"/", "d/nothing", "new", api.ErrNone}, {"/", "x", "d/\x00", api.ErrInval}, {"/", "m", "m/new", api.ErrInval},
			{"/", "x", "d/new/", in(api.ErrNotDir)}, {"/", "d/..", "new", api.ErrInval}, {"/", "x", "d/..", api.ErrInval}, {"/", "d", "d/new", in(api.ErrInval)}, {"/", "x", "m/f", "/x /m/f"},
		})
		holdRename(t, mode(mode(s, "/x", m), "/c", m), []renamed{{"/", "x", "new", "/x /new"}, {"/", "m/f", "x", "/m/f /x"}, {"/", "c", "m/c", "/c /m/c"}, {"/", "m", "c", "/m /c"}, {"/c", "/m", "/c", api.ErrInval}})
		holdRename(t, mode(s, "/", m), []renamed{
			{"/", "x", "new", in("/x /new")}, {"/d", "/x", "g", in("/x /d/g")}, {"/d", "g", "/new", in("/d/g /new")}, {"/d", "g", "new", "/d/g /d/new"}, {"/d", "g", "/m/new", by("/d/g /m/new")},
		})
	}
}

// P6.3: directories of 1023 and of 1024 names, the root, too: no further name comes there, not of one of its own names neither; names that are there take what comes.
func TestRenameCrowded(t *testing.T) {
	s := build(t, "d/", "d/c/", "d/g", "m/", "m/f", "m/g = m/f", "m/e/", "x", "c/")
	for _, in := range []string{"/", "/d"} {
		as := strings.TrimSuffix(in, "/")
		less := crowded(s, in, 1023)
		holdRename(t, less, []renamed{
			{in, "/m/f", "new", "/m/f " + as + "/new"}, {in, "/m/e", "A", "/m/e " + as + "/A"}, {in, "k10500", "new", as + "/k10500 " + as + "/new"}, {in, "/m/f", "k10500", "/m/f " + as + "/k10500"},
			{in, "c", "~", as + "/c " + as + "/~"}, {in, "k10500", "/m/new", as + "/k10500 /m/new"},
		})
		full := crowded(s, in, 1024)
		holdRename(t, full, []renamed{
			{in, "/m/f", "new", api.ErrSpace}, {in, "/m/e", "A", api.ErrSpace}, {in, "/m/e/", "new/", api.ErrSpace}, {in, "k10500", "new", api.ErrSpace}, {in, "c", "~", api.ErrSpace},
			{in, "/m/f", "k10500", "/m/f " + as + "/k10500"}, {in, "/m/e", "c", "/m/e " + as + "/c"}, {in, "/m/f", "c", api.ErrIsDir}, {in, "/m/e", "k10500", api.ErrNotDir},
			{in, "k10500", "/m/new", as + "/k10500 /m/new"}, {in, "c", "/m/e", as + "/c /m/e"}, {in, "k10500", "/m/f", as + "/k10500 /m/f"}, {in, "/m/f", "k10500\x00", api.ErrInval}, {in, "/m/f", "new/", api.ErrNotDir},
		})
		holdRename(t, mode(full, in, 5), []renamed{{in, "/m/f", "new", api.ErrAccess}})
	}
	over := crowded(s, "/d", 1024)
	holdRename(t, over, []renamed{{"/", "m/f", "d/g", "/m/f /d/g"}, {"/", "d/g", "d/k10500", "/d/g /d/k10500"}, {"/", "m", "d/m", api.ErrSpace}, {"/", "m", "d/c", "/m /d/c"}, {"/", "d", "new", "/d /new"}})
}
