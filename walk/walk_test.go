package walk_test

import (
	"math"
	"reflect"
	"strings"
	"testing"

	"windlass/api"
	"windlass/tree"
	"windlass/walk"
)

// name64 is a name as long as a name may be, name65 one that is a byte too long.
var (
	name64 = strings.Repeat("n", api.MaxName)
	name65 = strings.Repeat("n", api.MaxName+1)
)

// row is a way of a table: from where, by which path, and what is there if a link at its end is followed, and if it is not: a path from the root, or an error; not is nil, if that makes no difference.
type row struct {
	cwd, p    string
	want, not any
}

// told is the inode and the error that what a row wants stands for.
func (b built) told(want any) (int, api.Errno) {
	if err, is := want.(api.Errno); is {
		return 0, err
	}
	return b.ino(want.(string)), api.OK
}

// holdWalk holds Walk against what each row wants.
func holdWalk(t *testing.T, b built, rows []row) {
	t.Helper()
	b.holdFit(t)
	for _, x := range rows {
		if x.not == nil {
			x.not = x.want
		}
		for follow, want := range map[bool]any{true: x.want, false: x.not} {
			ino, err := b.told(want)
			if got, gotErr := walk.Walk(b.Tree, b.ino(x.cwd), x.p, follow); got != ino || gotErr != err {
				t.Errorf("from %s Walk(%.80q, %v) = %d, %v, not %v (%d)", x.cwd, x.p, follow, got, gotErr, want, ino)
			}
		}
	}
}

// parent is a row of Parent: the directory, or the error, and the last name.
type parent struct {
	cwd, p string
	want   any
	name   string
}

// holdParent holds Parent against what each row wants.
func holdParent(t *testing.T, b built, rows []parent) {
	t.Helper()
	b.holdFit(t)
	for _, x := range rows {
		ino, err := b.told(x.want)
		if got, name, gotErr := walk.Parent(b.Tree, b.ino(x.cwd), x.p); got != ino || name != x.name || gotErr != err {
			t.Errorf("from %s Parent(%.80q) = %d, %.80q, %v, not %v (%d), %.80q", x.cwd, x.p, got, name, gotErr, x.want, ino, x.name)
		}
	}
}

// numbers is all inodes of a tree, and numbers of none.
func numbers(b built) []int {
	l := []int{math.MinInt, -257, -2, -1, len(b.Nodes), len(b.Nodes) + 1, 255, 256, 1 << 32, math.MaxInt}
	for ino := range b.Nodes {
		l = append(l, ino)
	}
	return l
}

// P4.1: May, of each Mode, of each what from below 0 to above 7, of each kind of inode.
func TestMay(t *testing.T) {
	b := sample(t)
	for _, p := range []string{"/", "/d", "/d/e", "/m", "/x", "/d/e/f", "/toFile", "/toNothing"} {
		for mode := range 8 {
			m := b.mode(p, mode)
			m.holdFit(t)
			for what := -9; what <= 17; what++ {
				want := 0 <= what && what <= 7
				for bit := 1; bit <= 4; bit *= 2 {
					want = want && (what/bit%2 == 0 || mode/bit%2 == 1)
				}
				if got := walk.May(m.Tree, m.ino(p), what); got != want {
					t.Errorf("May(%s, %d) = %v, of Mode %d", p, what, got, mode)
				}
			}
		}
	}
	for _, what := range []int{math.MinInt, math.MinInt + 1, -8, -7, 8, 15, 16, 263, 1 << 32, 1<<32 + 1, math.MaxInt} {
		if walk.May(b.Tree, 0, what) {
			t.Errorf("May(/, %d) = true", what)
		}
	}
}

// P4.1: May, of an inode that is free, or not there: false, even if nothing is asked for.
func TestMayNothing(t *testing.T) {
	b := sample(t)
	free := len(b.Nodes)
	b.Nodes = append(b.Nodes, api.Inode{}, api.Inode{})
	b.holdFit(t)
	for _, ino := range []int{free, free + 1, free + 2, free + 3, 256, 1 << 32, math.MaxInt, -1, -2, math.MinInt} {
		for what := -1; what <= 8; what++ {
			if walk.May(b.Tree, ino, what) {
				t.Errorf("May(%d, %d) = true", ino, what)
			}
		}
	}
}

// P4.2, P4.3: the chapter's examples.
func TestExamples(t *testing.T) {
	b := build(t)
	holdWalk(t, b, []row{{"/", "/", "/", nil}, {"/", "x", api.ErrNone, nil}, {"/", "..", "/", nil}})
	holdParent(t, b, []parent{{"/", "x/", "/", "x"}})
}

// P4.2: Walk, by names alone, from the root and from a directory on.
func TestWalkNames(t *testing.T) {
	holdWalk(t, sample(t), []row{
		{"/", "d", "/d", nil}, {"/", "d/e", "/d/e", nil}, {"/", "d/e/f", "/d/e/f", nil}, {"/", "d/g", "/d/g", nil}, {"/", "x", "/x", nil},
		{"/", "m", "/m", nil},
		{"/", "/d", "/d", nil}, {"/", "/d/e/f", "/d/e/f", nil}, {"/", "d/h", "/d/e/f", nil}, {"/", "d//e///f", "/d/e/f", nil}, {"/", "//d", "/d", nil},
		{"/d", "e", "/d/e", nil}, {"/d", "e/f", "/d/e/f", nil}, {"/d", "/d", "/d", nil}, {"/d", "/x", "/x", nil}, {"/d/e", "f", "/d/e/f", nil},
		{"/d/e", "//d//g", "/d/g", nil},
		{"/d", "d", api.ErrNone, nil}, {"/d", "x", api.ErrNone, nil}, {"/d/e", "g", api.ErrNone, nil}, {"/", "f", api.ErrNone, nil},
		{"/", "/e", api.ErrNone, nil},
		{"/", "D", api.ErrNone, nil}, {"/", "dd", api.ErrNone, nil}, {"/", "d ", api.ErrNone, nil}, {"/", " ", api.ErrNone, nil},
		{"/", "d\x00", api.ErrNone, nil}, {"/", "\x00", api.ErrNone, nil},
		{"/", "d\x00/e", api.ErrNone, nil}, {"/", "\xff", api.ErrNone, nil}, {"/", "d\\e", api.ErrNone, nil}, {"/", "*", api.ErrNone, nil},
		{"/", "~", api.ErrNone, nil},
		{"/", "nothing/there", api.ErrNone, nil}, {"/", "d/nothing/e/f", api.ErrNone, nil},
		{"/", "x/y", api.ErrNotDir, nil}, {"/", "x/y/z", api.ErrNotDir, nil}, {"/", "d/e/f/e", api.ErrNotDir, nil}, {"/d", "g/e", api.ErrNotDir, nil},
		{"/", "x/d", api.ErrNotDir, nil},
	})
}

// P4.2: Walk, of . and .., anywhere, above the root too.
func TestWalkDots(t *testing.T) {
	holdWalk(t, sample(t), []row{
		{"/", ".", "/", nil}, {"/", "..", "/", nil}, {"/", "/.", "/", nil}, {"/", "/..", "/", nil}, {"/", "../..", "/", nil},
		{"/", "../../../d", "/d", nil}, {"/", "/../d/..", "/", nil},
		{"/d", ".", "/d", nil}, {"/d", "..", "/", nil}, {"/d", "./.", "/d", nil}, {"/d", "../.", "/", nil}, {"/d", "./..", "/", nil},
		{"/d", "../..", "/", nil}, {"/d", "../d", "/d", nil}, {"/d", "/.", "/", nil},
		{"/d/e", ".", "/d/e", nil}, {"/d/e", "..", "/d", nil}, {"/d/e", "../..", "/", nil}, {"/d/e", "../../..", "/", nil},
		{"/d/e", "../g", "/d/g", nil}, {"/d/e", "../../x", "/x", nil}, {"/d/e", "./f", "/d/e/f", nil},
		{"/", "d/./e", "/d/e", nil}, {"/", "d/../d/e/../g", "/d/g", nil}, {"/", "d/e/..", "/d", nil}, {"/", "d/e/../..", "/", nil},
		{"/", "d/e/.", "/d/e", nil}, {"/", "d/e/./../../m", "/m", nil},
		{"/", "x/.", api.ErrNotDir, nil}, {"/", "x/..", api.ErrNotDir, nil}, {"/", "d/g/..", api.ErrNotDir, nil}, {"/", "x/../d", api.ErrNotDir, nil},
		{"/", "d/e/f/./", api.ErrNotDir, nil},
		{"/", "nothing/.", api.ErrNone, nil}, {"/", "nothing/..", api.ErrNone, nil}, {"/", "nothing/../d", api.ErrNone, nil},
		{"/", "...", api.ErrNone, nil}, {"/", "d/...", api.ErrNone, nil}, {"/", ". ", api.ErrNone, nil}, {"/", ".d", api.ErrNone, nil},
		{"/", "..d", api.ErrNone, nil},
	})
	dots := build(t, ".../", ".../..x", ".y/")
	holdWalk(t, dots, []row{{"/", "...", "/...", nil}, {"/", ".../..x", "/.../..x", nil}, {"/", ".../../.y", "/.y", nil}})
}

// P4.2: Walk, of an empty path, of slashes alone, and of a path that ends with /: at a file, at a directory, at nothing.
func TestWalkSlashes(t *testing.T) {
	holdWalk(t, sample(t), []row{
		{"/", "", api.ErrNone, nil}, {"/d", "", api.ErrNone, nil}, {"/d/e", "", api.ErrNone, nil},
		{"/", "/", "/", nil}, {"/d", "/", "/", nil}, {"/d/e", "//", "/", nil}, {"/m", "////", "/", nil},
		{"/", "d/", "/d", nil}, {"/", "d//", "/d", nil}, {"/", "/d/e/", "/d/e", nil}, {"/d", "e/", "/d/e", nil}, {"/d", "./", "/d", nil},
		{"/d", "../", "/", nil}, {"/", "..//", "/", nil},
		{"/", "x/", api.ErrNotDir, nil}, {"/", "x//", api.ErrNotDir, nil}, {"/", "/d/g/", api.ErrNotDir, nil}, {"/d/e", "f/", api.ErrNotDir, nil},
		{"/", "d/h/", api.ErrNotDir, nil},
		{"/", "nothing/", api.ErrNone, nil}, {"/", "d/nothing//", api.ErrNone, nil},
	})
}

// P4.2, P4.5: Walk, of links at the end of a path: followed or not.
func TestWalkLinkAtEnd(t *testing.T) {
	holdWalk(t, sample(t), []row{
		{"/", "toFile", "/d/e/f", "/toFile"}, {"/", "toDir", "/d/e", "/toDir"}, {"/d", "../toDir", "/d/e", "/toDir"},
		{"/m", "/toFile", "/d/e/f", "/toFile"},
		{"/", "toRoot", "/", "/toRoot"}, {"/d/e", "/toSlashes", "/", "/toSlashes"}, {"/", "toDot", "/", "/toDot"}, {"/", "toUp", "/", "/toUp"},
		{"/", "toNothing", api.ErrNone, "/toNothing"}, {"/", "toNothingThere", api.ErrNone, "/toNothingThere"},
		{"/", "toBelowFile", api.ErrNotDir, "/toBelowFile"},
		{"/", "toLinkFile", "/d/e/f", "/toLinkFile"}, {"/", "toLinkDir", "/d/e", "/toLinkDir"}, {"/", "toLinkNothing", api.ErrNone, "/toLinkNothing"},
		{"/", "toItself", api.ErrLoop, "/toItself"}, {"/", "toItselfSlash", api.ErrLoop, "/toItselfSlash"},
		{"/", "toItselfBelow", api.ErrLoop, "/toItselfBelow"}, {"/", "toOther", api.ErrLoop, "/toOther"}, {"/", "toBack", api.ErrLoop, "/toBack"},
		{"/m", "up", "/", "/m/up"}, {"/m", "abs", "/d/e", "/m/abs"}, {"/m", "rel", "/d/g", "/m/rel"}, {"/", "m/e2", "/d/e", "/m/e2"},
		{"/", "m/e3", "/d/e", "/m/e3"}, {"/", "m/through", "/d/e/f", "/m/through"}, {"/d", "../m/dir", "/d", "/m/dir"}, {"/", "m/two", "/", "/m/two"},
		{"/", "toDirSlash", "/d/e", "/toDirSlash"},
		// p has no slash at its end, whatever the link's text has.
		{"/", "toFileSlash", "/d/e/f", "/toFileSlash"},
		// One link, two names: it leads from the directory that it was come to in.
		{"/", "n", "/", "/m/up"}, {"/d", "/n", "/", "/n"},
	})
	two := build(t, "a/", "a/b/", "a/b/up -> ..", "up = a/b/up", "a/x", "a/b/x", "x")
	holdWalk(t, two, []row{{"/", "a/b/up", "/a", "/up"}, {"/", "up", "/", "/up"}, {"/a/b", "up/x", "/a/x", nil}, {"/", "up/x", "/x", nil}})
}

// P4.2: Walk, of links on the way, which are followed whether one at the end is or not.
func TestWalkLinkOnWay(t *testing.T) {
	holdWalk(t, sample(t), []row{
		{"/", "toDir/f", "/d/e/f", nil}, {"/", "toDir/.", "/d/e", nil}, {"/", "toDir/..", "/d", nil}, {"/", "toDir/../g", "/d/g", nil},
		{"/", "toDirSlash/f", "/d/e/f", nil}, {"/", "toLinkDir/f", "/d/e/f", nil}, {"/", "toLinkDir/../h", "/d/e/f", nil},
		{"/", "toRoot/x", "/x", nil}, {"/d", "/toSlashes/d/e", "/d/e", nil}, {"/", "toRoot/toDir/../g", "/d/g", nil},
		{"/", "toDot/toDot/d", "/d", nil}, {"/", "toUp/toUp/x", "/x", nil},
		{"/", "toRoot/toDir", "/d/e", "/toDir"}, {"/", "toDot/toNothing", api.ErrNone, "/toNothing"},
		{"/", "toRoot/toItself", api.ErrLoop, "/toItself"}, {"/m", "up/toFile", "/d/e/f", "/toFile"},
		{"/", "toFile/y", api.ErrNotDir, nil}, {"/", "toFile/.", api.ErrNotDir, nil}, {"/", "toFile/..", api.ErrNotDir, nil},
		{"/", "toFileSlash/y", api.ErrNotDir, nil}, {"/", "toLinkFile/x", api.ErrNotDir, nil},
		{"/", "toDir/nothing", api.ErrNone, nil}, {"/", "toNothing/x", api.ErrNone, nil}, {"/", "toNothing/..", api.ErrNone, nil},
		{"/", "toLinkNothing/x", api.ErrNone, nil}, {"/", "toBelowFile/x", api.ErrNotDir, nil},
		{"/", "toItself/x", api.ErrLoop, nil}, {"/", "toItself/..", api.ErrLoop, nil}, {"/", "toItselfBelow/y", api.ErrLoop, nil},
		{"/", "toOther/x", api.ErrLoop, nil},
		{"/m", "up/x", "/x", nil}, {"/m", "abs/f", "/d/e/f", nil}, {"/m", "abs/../g", "/d/g", nil}, {"/m", "rel/x", api.ErrNotDir, nil},
		{"/m", "e2/f", "/d/e/f", nil}, {"/m", "e2/..", "/d", nil}, {"/m", "dir/e/f", "/d/e/f", nil}, {"/", "m/two/m/two/m/up/x", "/x", nil},
	})
}

// P4.2: Walk, of links at the end of a path that ends with /: they are followed either way.
func TestWalkLinkSlash(t *testing.T) {
	holdWalk(t, sample(t), []row{
		{"/", "toDir/", "/d/e", nil}, {"/", "toDir//", "/d/e", nil}, {"/", "toDirSlash/", "/d/e", nil}, {"/", "toLinkDir/", "/d/e", nil},
		{"/", "toRoot/", "/", nil}, {"/", "toSlashes/", "/", nil}, {"/", "toDot/", "/", nil}, {"/d", "../toUp/", "/", nil},
		{"/m", "e2/", "/d/e", nil}, {"/m", "dir/", "/d", nil},
		{"/", "toFile/", api.ErrNotDir, nil}, {"/", "toFileSlash/", api.ErrNotDir, nil}, {"/", "toLinkFile/", api.ErrNotDir, nil},
		{"/m", "rel//", api.ErrNotDir, nil}, {"/m", "through/", api.ErrNotDir, nil}, {"/", "toBelowFile/", api.ErrNotDir, nil},
		{"/", "toNothing/", api.ErrNone, nil}, {"/", "toNothingThere/", api.ErrNone, nil}, {"/", "toLinkNothing/", api.ErrNone, nil},
		{"/", "toItself/", api.ErrLoop, nil}, {"/", "toOther//", api.ErrLoop, nil},
	})
}

// chained has links 0 to 9 by two names, each of which leads to the one of a number less, the 0 to a file or a directory; and a link to where it is itself.
func chained(t *testing.T) built {
	lines := []string{"d/", "d/f", "f", "h -> .", "link0 -> f", "dir0 -> d"}
	for _, s := range []string{"link", "dir"} {
		for i := 1; i <= 9; i++ {
			lines = append(lines, s+digit(i)+" -> "+s+digit(i-1))
		}
	}
	return build(t, lines...)
}

func digit(i int) string { return string([]byte{'0' + byte(i)}) }

// P4.2, P4.3: 8 links may be followed on a way, not 9, be it one within another or one behind another; those that are not followed don't count.
func TestLinks(t *testing.T) {
	b := chained(t)
	h := func(n int) string { return strings.Repeat("h/", n) }
	holdWalk(t, b, []row{
		{"/", "link6", "/f", "/link6"}, {"/", "link7", "/f", "/link7"}, {"/", "link8", api.ErrLoop, "/link8"}, {"/", "link9", api.ErrLoop, "/link9"},
		{"/", "dir7", "/d", "/dir7"}, {"/", "dir7/", "/d", nil}, {"/", "dir7/f", "/d/f", nil}, {"/", "dir8", api.ErrLoop, "/dir8"},
		{"/", "dir8/", api.ErrLoop, nil}, {"/", "dir8/f", api.ErrLoop, nil}, {"/", "dir8/nothing", api.ErrLoop, nil},
		{"/", h(8), "/", nil}, {"/", h(9), api.ErrLoop, nil}, {"/", h(8) + "f", "/f", nil}, {"/", h(9) + "f", api.ErrLoop, nil},
		{"/", h(8) + "nothing", api.ErrNone, nil}, {"/", h(8) + "f/x", api.ErrNotDir, nil},
		{"/", h(7) + "h", "/", "/h"}, {"/", h(8) + "h", api.ErrLoop, "/h"}, {"/", h(9) + "h", api.ErrLoop, nil}, {"/", h(100) + "h", api.ErrLoop, nil},
		{"/", h(4) + "dir3/f", "/d/f", nil}, {"/", h(5) + "dir3/f", api.ErrLoop, nil}, {"/", "dir3/../" + h(4) + "f", "/f", nil},
		{"/", "dir3/../" + h(5) + "f", api.ErrLoop, nil}, {"/", "dir3/../dir3/../link0", api.ErrLoop, "/link0"}, {"/", "dir3/../dir3/f", "/d/f", nil},
		// What comes first on the way is told: here nothing is there, ahead of the link that is one too many.
		{"/", "nothing/" + h(9), api.ErrNone, nil}, {"/", "f/" + h(9), api.ErrNotDir, nil},
	})
	holdParent(t, b, []parent{
		{"/", h(8) + "x", "/", "x"}, {"/", h(9) + "x", api.ErrLoop, ""}, {"/", h(8) + "h", "/", "h"}, {"/", h(8) + "h/", "/", "h"},
		{"/", h(9), "/", "h"}, {"/", h(10), api.ErrLoop, ""},
		{"/", "link9", "/", "link9"}, {"/", "link9/", "/", "link9"}, {"/", "dir7/x", "/d", "x"}, {"/", "dir8/x", api.ErrLoop, ""},
		{"/", "dir8/..", api.ErrLoop, ""}, {"/", "link7/x", api.ErrNotDir, ""}, {"/", "link8/x", api.ErrLoop, ""},
	})
	// How many were followed on one way is nothing to the next one.
	for range 20 {
		holdWalk(t, b, []row{{"/", "link7", "/f", "/link7"}})
	}
}

// P4.2, P4.3: each single Mode of a directory: its 1 alone lets one go on by a name of it; one that is come to at the end is not asked.
func TestModes(t *testing.T) {
	for mode := range 8 {
		may := func(want string) any {
			if mode%2 == 1 {
				return want
			}
			return api.ErrAccess
		}
		var nothing, behindFile any = api.ErrAccess, api.ErrAccess
		if mode%2 == 1 {
			nothing, behindFile = api.ErrNone, api.ErrNotDir
		}
		holdWalk(t, sample(t).mode("/d", mode), []row{
			{"/", "d", "/d", nil}, {"/", "d/", "/d", nil}, {"/", "d/e", may("/d/e"), nil}, {"/", "d/e/f", may("/d/e/f"), nil},
			{"/", "d/e/", may("/d/e"), nil}, {"/", "d/.", may("/d"), nil}, {"/", "d/..", may("/"), nil}, {"/", "d/./", may("/d"), nil},
			{"/", "d/../x", may("/x"), nil},
			{"/", "d/nothing", nothing, nil}, {"/", "d/g/y", behindFile, nil}, {"/d", ".", may("/d"), nil}, {"/d", "..", may("/"), nil},
			{"/d", "e", may("/d/e"), nil}, {"/d", "/x", "/x", nil}, {"/d", "/", "/", nil}, {"/d/e", "..", "/d", nil}, {"/d/e", "f", "/d/e/f", nil},
			{"/d/e", "../g", may("/d/g"), nil},
			{"/", "toDir", may("/d/e"), "/toDir"}, {"/", "toDir/", may("/d/e"), nil}, {"/", "toFile", may("/d/e/f"), "/toFile"},
			{"/m", "dir", may("/d"), "/m/dir"}, {"/m", "rel", may("/d/g"), "/m/rel"}, {"/", "x", "/x", nil},
		})
		holdWalk(t, sample(t).mode("/", mode), []row{
			{"/", "/", "/", nil}, {"/", "//", "/", nil}, {"/d", "/", "/", nil}, {"/", ".", may("/"), nil}, {"/", "..", may("/"), nil},
			{"/", "d", may("/d"), nil}, {"/", "/d", may("/d"), nil}, {"/", "nothing", nothing, nil}, {"/", "x/y", behindFile, nil},
			{"/", "/toDir", may("/d/e"), may("/toDir")},
			{"/d", "e", "/d/e", nil}, {"/d", "e/../g", "/d/g", nil}, {"/d", "..", "/", nil}, {"/d", "../", "/", nil}, {"/d", "../x", may("/x"), nil},
			{"/d", "../..", may("/"), nil}, {"/d", "/d", may("/d"), nil}, {"/m", "up", "/", "/m/up"}, {"/m", "up/", "/", nil},
			{"/m", "abs", may("/d/e"), "/m/abs"},
		})
		holdParent(t, sample(t).mode("/d", mode), []parent{
			{"/", "d/new", "/d", "new"}, {"/", "d/e/new", may("/d/e"), named(mode, "new")}, {"/d", "new", "/d", "new"}, {"/", "d/..", "/d", ".."},
			{"/", "d/../new", may("/"), named(mode, "new")}, {"/d", "./new", may("/d"), named(mode, "new")}, {"/d", "/new", "/", "new"},
		})
		// A file's Mode, and a link's, is nothing to a way.
		holdWalk(t, sample(t).mode("/x", mode), []row{{"/", "x", "/x", nil}, {"/", "x/", api.ErrNotDir, nil}, {"/", "x/y", api.ErrNotDir, nil}})
		holdWalk(t, sample(t).mode("/toDir", mode), []row{{"/", "toDir", "/d/e", "/toDir"}, {"/", "toDir/f", "/d/e/f", nil}, {"/", "toLinkDir/", "/d/e", nil}})
	}
}

// named is the last name beside a directory that may be come to by this Mode, and none beside the error.
func named(mode int, name string) string {
	if mode%2 == 1 {
		return name
	}
	return ""
}

// P4.2, P4.3: which error is told, where the way has several things that are wrong: the first one that is come to, and of one name no directory ahead of no access ahead of nothing there.
func TestFirstError(t *testing.T) {
	b := sample(t).mode("/x", 0).mode("/d", 6).mode("/m", 0)
	holdWalk(t, b, []row{
		{"/", "x/d/../toItself", api.ErrNotDir, nil}, {"/", "d/nothing/x", api.ErrAccess, nil}, {"/", "nothing/d/x", api.ErrNone, nil},
		{"/", "toItself/d/x", api.ErrLoop, nil}, {"/", "m/up/d/e", api.ErrAccess, nil}, {"/", "toDir/nothing", api.ErrAccess, nil},
		{"/", "toNothing/", api.ErrNone, nil},
		{"/", "x/", api.ErrNotDir, nil}, {"/", "d/g/", api.ErrAccess, nil},
	})
	holdParent(t, b, []parent{
		{"/", "x/y/z", api.ErrNotDir, ""}, {"/", "x/y", api.ErrNotDir, ""}, {"/", "x/y/", api.ErrNotDir, ""}, {"/", "d/e/z", api.ErrAccess, ""},
		{"/", "d/nothing/z", api.ErrAccess, ""}, {"/", "nothing/z", api.ErrNone, ""}, {"/", "toItself/z", api.ErrLoop, ""},
		{"/", "toNothing/z", api.ErrNone, ""},
	})
}

// P4.2, P4.3: a cwd that is no directory, or is not there, is ErrNone ahead of all else.
func TestCwd(t *testing.T) {
	b := sample(t)
	b.Nodes = append(b.Nodes, api.Inode{})
	b.holdFit(t)
	for _, cwd := range numbers(b) {
		if 0 <= cwd && cwd < len(b.Nodes) && b.Nodes[cwd].Kind == api.InDir {
			continue
		}
		for _, p := range []string{"", "/", "//", ".", "..", "d", "/d", "/d/e/f", "x/", "toDir", "nothing", name65, "/" + name65, strings.Repeat("/", 1025), strings.Repeat("a/", 1<<15)} {
			for _, follow := range []bool{true, false} {
				if ino, err := walk.Walk(b.Tree, cwd, p, follow); ino != 0 || err != api.ErrNone {
					t.Errorf("Walk(%d, %.20q, %v) = %d, %v", cwd, p, follow, ino, err)
				}
			}
			if dir, name, err := walk.Parent(b.Tree, cwd, p); dir != 0 || name != "" || err != api.ErrNone {
				t.Errorf("Parent(%d, %.20q) = %d, %.20q, %v", cwd, p, dir, name, err)
			}
		}
	}
}

// P4.2, P4.3: paths of 1024 and of 1025 bytes.
func TestPathLength(t *testing.T) {
	b := sample(t)
	here := func(n int) string { return strings.Repeat("./", n/2) + strings.Repeat("/", n%2) }
	holdWalk(t, b, []row{
		{"/", strings.Repeat("/", 1024), "/", nil}, {"/d", strings.Repeat("/", 1023) + "d", "/d", nil}, {"/d", here(1024), "/d", nil},
		{"/", here(1023) + "d", "/d", nil}, {"/", "d" + strings.Repeat("/", 1023), "/d", nil},
		{"/", "x" + strings.Repeat("/", 1022) + "y", api.ErrNotDir, nil}, {"/", here(1018) + "toFile", "/d/e/f", "/toFile"},
		{"/", strings.Repeat("../", 341) + "x", "/x", nil},
		{"/", strings.Repeat("/", 1025), api.ErrName, nil}, {"/d", strings.Repeat("/", 1024) + "d", api.ErrName, nil},
		{"/d", here(1025), api.ErrName, nil}, {"/", here(1024) + "d", api.ErrName, nil}, {"/", "d" + strings.Repeat("/", 1024), api.ErrName, nil},
		{"/", "x" + strings.Repeat("/", 1023) + "y", api.ErrName, nil}, {"/", "nothing/" + here(1017), api.ErrName, nil},
		{"/", strings.Repeat("n/", 1<<16), api.ErrName, nil},
	})
	holdParent(t, b, []parent{
		{"/d", here(1023) + "x", "/d", "x"}, {"/d", strings.Repeat("/", 1023) + "x", "/", "x"}, {"/", "x" + strings.Repeat("/", 1023), "/", "x"},
		{"/", here(1024), "/", "."}, {"/", strings.Repeat("/", 1024), api.ErrThere, ""},
		{"/d", here(1024) + "x", api.ErrName, ""}, {"/d", strings.Repeat("/", 1024) + "x", api.ErrName, ""},
		{"/", "x" + strings.Repeat("/", 1024), api.ErrName, ""}, {"/", here(1025), api.ErrName, ""},
		{"/", strings.Repeat("/", 1025), api.ErrName, ""}, {"/", strings.Repeat("n/", 1<<16), api.ErrName, ""},
	})
}

// P4.2, P4.3: names of 64 and of 65 bytes, those of links, too, which are not asked for their length.
func TestNameLength(t *testing.T) {
	short := func(s string) string { return s + strings.Repeat("k", 64-len(s)) }
	b := build(t,
		name64+"/", name64+"/"+name64, "x", short("to")+" -> x",
		"to64 -> "+name64+"/"+name64, "to65 -> "+name65, "to65on -> "+name65+"/../x", "toHere65 -> x/"+name65,
		"to1024 -> "+strings.Repeat("./", 512), "to1024x -> "+strings.Repeat("./", 511)+"/x", "toAll -> "+strings.Repeat("n", 1024), "toMany -> "+strings.Repeat("../", 341)+"x",
	)
	holdWalk(t, b, []row{
		{"/", name64, "/" + name64, nil}, {"/", name64 + "/", "/" + name64, nil}, {"/", name64 + "/" + name64, "/" + name64 + "/" + name64, nil},
		{"/" + name64, name64, "/" + name64 + "/" + name64, nil}, {"/", short("x"), api.ErrNone, nil}, {"/", short("to"), "/x", "/" + short("to")},
		{"/", strings.Repeat("\xff", 64), api.ErrNone, nil}, {"/", strings.Repeat(".", 64), api.ErrNone, nil},
		{"/", name65, api.ErrName, nil}, {"/", name65 + "/", api.ErrName, nil}, {"/", "/" + name65, api.ErrName, nil},
		{"/", strings.Repeat("\xff", 65), api.ErrName, nil}, {"/", strings.Repeat(".", 65), api.ErrName, nil},
		{"/", strings.Repeat("é", 33), api.ErrName, nil}, {"/", name64 + "\x00", api.ErrName, nil},
		{"/", strings.Repeat("n", 1024), api.ErrName, nil},
		// A name that is too long is told ahead of all that the way would tell.
		{"/", "nothing/" + name65, api.ErrName, nil}, {"/", name65 + "/nothing", api.ErrName, nil}, {"/", "x/" + name65, api.ErrName, nil},
		{"/", name65 + "/..", api.ErrName, nil}, {"/", name64 + "/" + name64 + "/" + name65, api.ErrName, nil},
		{"/", "x/" + name64, api.ErrNotDir, nil},
		{"/", "to64", "/" + name64 + "/" + name64, "/to64"}, {"/", "to65", api.ErrNone, "/to65"}, {"/", "to65/", api.ErrNone, nil},
		{"/", "to65/x", api.ErrNone, nil}, {"/", "to65on", api.ErrNone, "/to65on"}, {"/", "toHere65", api.ErrNotDir, "/toHere65"},
		{"/", "toAll", api.ErrNone, "/toAll"},
		// A link's names, with what is behind it, may be more bytes than a path.
		{"/", "to1024", "/", "/to1024"}, {"/", "to1024/x", "/x", nil}, {"/", "to1024x", "/x", "/to1024x"},
		{"/", "to1024/" + strings.Repeat("./", 508) + "x", "/x", nil}, {"/", "to1024/to1024/to1024/to1024/to1024/to1024/to1024/to1024/x", "/x", nil},
		{"/", "toMany", "/x", "/toMany"},
	})
	holdParent(t, b, []parent{
		{"/", name64, "/", name64}, {"/", name64 + "/", "/", name64}, {"/", name64 + "/" + name64, "/" + name64, name64},
		{"/", short("x"), "/", short("x")},
		{"/", name65, api.ErrName, ""}, {"/", name65 + "/", api.ErrName, ""}, {"/", name65 + "/x", api.ErrName, ""},
		{"/", "nothing/" + name65, api.ErrName, ""}, {"/", "x/y/" + name65, api.ErrName, ""}, {"/", name64 + "/" + name65, api.ErrName, ""},
		{"/", strings.Repeat("n", 1024), api.ErrName, ""},
		{"/", "to65/x", api.ErrNone, ""}, {"/", "to65", "/", "to65"}, {"/", "toHere65/y", api.ErrNotDir, ""}, {"/", "to1024/x", "/", "x"},
	})
	holdWalk(t, b.mode("/", 0), []row{{"/", name65, api.ErrName, nil}, {"/", "to65", api.ErrAccess, nil}})
}

// P4.3: Parent, of paths with names: the last one is not gone, be it there or not.
func TestParent(t *testing.T) {
	holdParent(t, sample(t), []parent{
		{"/", "d", "/", "d"}, {"/", "new", "/", "new"}, {"/", "/d", "/", "d"}, {"/d", "/new", "/", "new"}, {"/d", "e", "/d", "e"},
		{"/d", "new", "/d", "new"}, {"/", "d/e", "/d", "e"}, {"/", "d/new", "/d", "new"}, {"/", "d/e/new", "/d/e", "new"},
		{"/", "//d//e//new//", "/d/e", "new"},
		{"/", "x", "/", "x"}, {"/", "d/h", "/d", "h"}, {"/", "d/", "/", "d"}, {"/", "new/", "/", "new"}, {"/", "x/", "/", "x"}, {"/", "d/e//", "/d", "e"},
		{"/", ".", "/", "."}, {"/", "..", "/", ".."}, {"/d", ".", "/d", "."}, {"/d", "..", "/d", ".."}, {"/d/e", "../", "/d/e", ".."},
		{"/d/e", "../new", "/d", "new"}, {"/d/e", "../..", "/d", ".."}, {"/d/e", "./new", "/d/e", "new"}, {"/", "../../new", "/", "new"},
		{"/", "/..", "/", ".."}, {"/", "d/./e/../new", "/d", "new"}, {"/", "d/.", "/d", "."},
		{"/", "...", "/", "..."}, {"/", "new\x00", "/", "new\x00"}, {"/", "d/\xff", "/d", "\xff"},
		{"/", "x/new", api.ErrNotDir, ""}, {"/", "x/.", api.ErrNotDir, ""}, {"/", "x/../new", api.ErrNotDir, ""},
		{"/", "d/g/new/", api.ErrNotDir, ""}, {"/", "d/e/f/new", api.ErrNotDir, ""}, {"/", "d/e/f/new/new", api.ErrNotDir, ""},
		{"/", "nothing/new", api.ErrNone, ""}, {"/", "nothing/nothing/new", api.ErrNone, ""}, {"/", "d/nothing/..", api.ErrNone, ""},
		{"/d", "d/new", api.ErrNone, ""},
	})
}

// P4.3: Parent, of links: those ahead of the last name are followed, at the end of these, too; the last name is not, whether p ends with / or not.
func TestParentLinks(t *testing.T) {
	holdParent(t, sample(t), []parent{
		{"/", "toDir", "/", "toDir"}, {"/", "toDir/", "/", "toDir"}, {"/", "toFile", "/", "toFile"}, {"/", "toItself", "/", "toItself"},
		{"/", "toItself//", "/", "toItself"}, {"/", "toNothing", "/", "toNothing"}, {"/m", "up", "/m", "up"}, {"/m", "/m/up", "/m", "up"},
		{"/", "toDir/new", "/d/e", "new"}, {"/", "toDir/..", "/d/e", ".."}, {"/", "toDir/../new", "/d", "new"},
		{"/", "toDirSlash/new", "/d/e", "new"}, {"/", "toLinkDir/new", "/d/e", "new"}, {"/", "toRoot/new", "/", "new"},
		{"/d", "/toSlashes/new", "/", "new"}, {"/", "toDot/new", "/", "new"}, {"/", "toUp/toDir", "/", "toDir"}, {"/m", "up/new", "/", "new"},
		{"/m", "abs/new/", "/d/e", "new"}, {"/m", "e2/new", "/d/e", "new"}, {"/d", "../m/dir/new", "/d", "new"}, {"/m", "two/new", "/", "new"},
		{"/", "toFile/new", api.ErrNotDir, ""}, {"/", "toFileSlash/new", api.ErrNotDir, ""}, {"/", "toLinkFile/new", api.ErrNotDir, ""},
		{"/", "toBelowFile/new", api.ErrNotDir, ""}, {"/m", "rel/new", api.ErrNotDir, ""}, {"/m", "through/.", api.ErrNotDir, ""},
		{"/", "toNothing/new", api.ErrNone, ""}, {"/", "toLinkNothing/new", api.ErrNone, ""}, {"/", "toNothingThere/new", api.ErrNone, ""},
		{"/", "toItself/new", api.ErrLoop, ""}, {"/", "toOther/new", api.ErrLoop, ""}, {"/", "toDir/toItself", "/d/e", "toItself"},
	})
}

// P4.3: Parent, of an empty path, and of one of slashes alone.
func TestParentNoNames(t *testing.T) {
	for _, cwd := range []string{"/", "/d", "/d/e"} {
		holdParent(t, sample(t), []parent{{cwd, "", api.ErrNone, ""}, {cwd, "/", api.ErrThere, ""}, {cwd, "//", api.ErrThere, ""}, {cwd, "/////", api.ErrThere, ""}})
		holdParent(t, sample(t).mode("/", 0), []parent{{cwd, "", api.ErrNone, ""}, {cwd, "/", api.ErrThere, ""}})
	}
}

// 0.5: what a call is given stays as it was.
func TestNothingChanged(t *testing.T) {
	for _, s := range []api.Tree{sample(t).Tree, chained(t).Tree, grown(7)} {
		was := copied(s)
		for _, p := range []string{"", "/", "d/e/f", "toDir/f", "toDir/", "h/h/h", "link9", "dir7/x", "a/b/../c", name65} {
			for cwd := range s.Nodes {
				walk.Walk(s, cwd, p, true)
				walk.Walk(s, cwd, p, false)
				walk.Parent(s, cwd, p)
				walk.May(s, cwd, cwd)
			}
		}
		if !reflect.DeepEqual(s, was) || !tree.Same(s, was) {
			t.Error("a tree that was given is changed")
		}
	}
}
