package make_test

import (
	"math"
	"strings"
	"testing"

	"windlass/api"
	"windlass/make"
)

// link is Link of what is at a path.
func link(old string) maker {
	return maker{"Link", linkOf(old), func(b built, p string) built { return b.named(p, b.ino(old)) }}
}

// P5.3: one more name of a file, of a link (which is not followed), each of which has one name or several.
func TestLink(t *testing.T) {
	b := sample(t)
	for _, old := range []string{
		"/x", "/d/g", "/d/e/f", "/d/h", "/toFile", "/toDir", "/toDirSlash", "/toRoot", "/toNothing", "/toNew", "/toItself", "/m/up", "/n", "/m/rel",
	} {
		for _, x := range []row{{"/", "new", "/new"}, {"/d", "new", "/d/new"}, {"/m", "up/d/e/new", "/d/e/new"}, {"/", "A", "/A"}} {
			link(old).hold(t, b, x)
			x.p += "/"
			x.want = api.ErrNotDir
			link(old).hold(t, b, x)
		}
		// Its own name is there already, so that the name of it that is asked for is none.
		link(old).hold(t, b, row{"/", old, api.ErrThere})
		link(old).hold(t, b.full().room(0), row{"/", "new", "/new"})
	}
	for _, x := range []struct{ cwd, old, ino string }{
		{"/d", "g", "/d/g"}, {"/d/e", "../../x", "/x"}, {"/", "toDir/f", "/d/e/f"}, {"/m", "up/x", "/x"}, {"/m", "up", "/m/up"},
		{"/d", "./e/../h", "/d/h"}, {"/", "toRoot/toRoot", "/toRoot"},
	} {
		m := maker{"Link", linkOf(x.old), func(b built, p string) built { return b.named(p, b.ino(x.ino)) }}
		m.hold(t, b, row{x.cwd, "/d/new", "/d/new"})
		m.hold(t, b, row{x.cwd, "/toDir/new", "/d/e/new"})
	}
}

// P5.3: Link of what can have no more names: a directory, and what is not there. That is told ahead of what the new name would tell.
func TestLinkOfNone(t *testing.T) {
	for old, err := range map[string]api.Errno{
		"/": api.ErrPerm, "d": api.ErrPerm, "/d/e": api.ErrPerm, "d/": api.ErrPerm, ".": api.ErrPerm, "..": api.ErrPerm, "d/e/..": api.ErrPerm,
		"toDir/":  api.ErrPerm,
		"toRoot/": api.ErrPerm, "toDir/.": api.ErrPerm, "m/up/d": api.ErrPerm,
		"": api.ErrNone, "nothing": api.ErrNone, "d/nothing": api.ErrNone, "toNothing/": api.ErrNone, "toNew/x": api.ErrNone, "x\x00": api.ErrNone,
		"x/": api.ErrNotDir, "x/y": api.ErrNotDir, "toFile/": api.ErrNotDir, "d/g/..": api.ErrNotDir, "toItself/": api.ErrLoop,
		"toItself/x":            api.ErrLoop,
		strings.Repeat("n", 65): api.ErrName, strings.Repeat("/", 1025): api.ErrName,
	} {
		b := sample(t)
		for _, p := range []string{
			"new", "/d/new", "x", "d", "", ".", "\x00", "nothing/new", "x/new", "new/", "toItself/new", strings.Repeat("n", 65),
		} {
			link(old).hold(t, b, row{"/", p, err})
		}
		link(old).hold(t, b.crowded("/m", 1024), row{"/", "m/new", err})
		link(old).hold(t, b.mode("/m", 1), row{"/", "m/new", err})
		link(old).hold(t, b, row{"/nothing", "/new", api.ErrNone})
	}
	b := sample(t).mode("/d", 6)
	link("/d/g").hold(t, b, row{"/", "x", api.ErrAccess})
	link("/d/e").hold(t, b, row{"/", "new", api.ErrAccess})
}

// changed is a path from a directory on, and what the Mode is changed of; or the error.
type changed struct {
	cwd, p string
	want   any
}

// holdChmod changes to a mode, which may be one that can not be.
func holdChmod(t *testing.T, b built, mode int, rows []changed) {
	t.Helper()
	for _, x := range rows {
		was := copied(b.Tree)
		want, wantErr := b, api.OK
		if mode < 0 || mode > 7 {
			wantErr = api.ErrInval
		} else if at, is := x.want.(string); is {
			want = b.mode(at, mode)
		} else {
			wantErr = x.want.(api.Errno)
		}
		made, err := make.Chmod(b.Tree, b.ino(x.cwd), x.p, mode)
		if err != wantErr {
			t.Errorf("Chmod(%s, %.80q, %d) = %v, not %v", x.cwd, x.p, mode, err, wantErr)
		}
		holdSame(t, "Chmod of "+x.p, made, want.Tree)
		holdSame(t, "Chmod of "+x.p+": what was given", b.Tree, was)
	}
}

// P5.3: Chmod to each mode, of files, of directories, of the root, of what links lead to, never of a link; of what is not there the way's error.
func TestChmod(t *testing.T) {
	for _, mode := range numbers() {
		holdChmod(t, sample(t), mode, []changed{
			{"/", "x", "/x"}, {"/", "d", "/d"}, {"/", "d/", "/d"}, {"/d", ".", "/d"}, {"/d", "g", "/d/g"}, {"/d/e", "..", "/d"},
			{"/d/e", "f", "/d/e/f"}, {"/", "d/h", "/d/e/f"},
			{"/", "/", "/"}, {"/", ".", "/"}, {"/", "..", "/"}, {"/d", "..", "/"}, {"/d", "/", "/"}, {"/", "d/e//", "/d/e"},
			{"/", "toFile", "/d/e/f"}, {"/", "toDir", "/d/e"}, {"/", "toDir/", "/d/e"}, {"/", "toDir/f", "/d/e/f"}, {"/", "toRoot", "/"},
			{"/m", "up", "/"}, {"/m", "rel", "/d/g"},
			{"/", "n", "/"}, {"/d", "../n/../x", "/x"},
			{"/", "", api.ErrNone}, {"/", "nothing", api.ErrNone}, {"/", "toNothing", api.ErrNone}, {"/", "d/nothing", api.ErrNone},
			{"/nothing", "x", api.ErrNone}, {"/x", "/d", api.ErrNone},
			{"/", "x/", api.ErrNotDir}, {"/", "toFile/", api.ErrNotDir}, {"/", "x/y", api.ErrNotDir}, {"/", "toItself", api.ErrLoop},
			{"/", strings.Repeat("n", 65), api.ErrName},
			{"/", strings.Repeat("/", 1025), api.ErrName}, {"/", "x\x00", api.ErrNone},
		})
	}
}

// P5.3: what is there, but no way leads to, keeps its Mode; a Mode of what one comes to is not asked.
func TestChmodModes(t *testing.T) {
	for old := range 8 {
		b := sample(t).mode("/d", old).mode("/x", old)
		var in any = api.ErrAccess
		if old&1 == 1 {
			in = "/d/g"
		}
		for _, mode := range []int{0, 3, 7, 8} {
			holdChmod(t, b, mode, []changed{{"/", "d", "/d"}, {"/", "x", "/x"}, {"/", "d/g", in}, {"/m", "rel", in}, {"/d", "g", in}, {"/d", "..", b.upOf(old)}})
		}
	}
}

// upOf is where .. leads from /d, if that has a Mode.
func (b built) upOf(mode int) any {
	if mode&1 == 1 {
		return "/"
	}
	return api.ErrAccess
}

// P5.1 to P5.3: a cwd that is no directory, or is not there.
func TestCwd(t *testing.T) {
	b := sample(t)
	for _, cwd := range []int{-1, b.ino("x"), b.ino("toDir"), len(b.Nodes) - 1, len(b.Nodes), math.MinInt, math.MaxInt} {
		for _, p := range []string{"", "new", "/new", "x", "/x", "/", "d/new", "new/", "new\x00", strings.Repeat("n", 65)} {
			for _, m := range append(makers(), link("/nothing"), link("/d")) {
				made, ino, err := m.do(b.Tree, cwd, p)
				if ino != 0 || err != api.ErrNone {
					t.Errorf("%s(%d, %.80q) = %d, %v", m.what, cwd, p, ino, err)
				}
				holdSame(t, m.what, made, b.Tree)
			}
			made, err := make.Chmod(b.Tree, cwd, p, 5)
			if err != api.ErrNone {
				t.Errorf("Chmod(%d, %.80q) = %v", cwd, p, err)
			}
			holdSame(t, "Chmod", made, b.Tree)
		}
	}
}
