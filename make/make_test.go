package make_test

import (
	"math"
	"reflect"
	"strings"
	"testing"

	"windlass/api"
	"windlass/make"
	"windlass/tree"
)

// maker is one of the calls that give a path a new name, the rest of what it is given being fit.
type maker struct {
	what string
	do   func(s api.Tree, cwd int, p string) (api.Tree, int, api.Errno)
	// made is the tree with what the call makes at a path, from the root on.
	made func(b built, p string) built
}

// makers is the calls that give new names, Link of the file x.
func makers() []maker {
	with := func(n api.Inode) func(b built, p string) built {
		return func(b built, p string) built { return b.with(p, n) }
	}
	return []maker{
		{"Mkdir", func(s api.Tree, cwd int, p string) (api.Tree, int, api.Errno) { return make.Mkdir(s, cwd, p, 5) }, with(api.Inode{Kind: api.InDir, Mode: 5})},
		{"Create", func(s api.Tree, cwd int, p string) (api.Tree, int, api.Errno) { return make.Create(s, cwd, p, 4) }, with(api.Inode{Kind: api.InFile, Mode: 4})},
		{
			"Symlink", func(s api.Tree, cwd int, p string) (api.Tree, int, api.Errno) {
				return make.Symlink(s, cwd, "to/it", p)
			},
			with(api.Inode{Kind: api.InLink, Mode: 7, Data: "to/it"}),
		},
		{"Link", linkOf("/x"), func(b built, p string) built { return b.named(p, b.ino("x")) }},
	}
}

// linkOf is Link as one of those that tell an inode: none.
func linkOf(old string) func(s api.Tree, cwd int, p string) (api.Tree, int, api.Errno) {
	return func(s api.Tree, cwd int, p string) (api.Tree, int, api.Errno) {
		made, err := make.Link(s, cwd, old, p)
		return made, 0, err
	}
}

// holdSame wants a tree to be just so.
func holdSame(t *testing.T, what string, got, want api.Tree) {
	t.Helper()
	if !tree.Same(got, want) || !reflect.DeepEqual(got, want) {
		t.Errorf("%s: the tree is %v, not %v", what, got, want)
	}
}

// row is a path from a directory on, and where what is made of it is to stand; or the error (an Errno).
type row struct {
	cwd, p string
	want   any
}

// hold makes one of the calls for a row.
func (m maker) hold(t *testing.T, b built, x row) {
	t.Helper()
	was := copied(b.Tree)
	made, ino, err := m.do(b.Tree, b.ino(x.cwd), x.p)
	holdSame(t, m.what+" "+x.p+": what was given", b.Tree, was)
	want, wantIno, wantErr := b, 0, api.OK
	if at, is := x.want.(string); is {
		want = m.made(b, strings.TrimPrefix(at, "/"))
		if m.what != "Link" {
			wantIno = want.ino(at)
		}
		want.holdFit(t)
	} else {
		wantErr = x.want.(api.Errno)
	}
	if ino != wantIno || err != wantErr {
		t.Errorf("%s(%s, %.80q) = %d, %v, not %d, %v", m.what, x.cwd, x.p, ino, err, wantIno, wantErr)
		return
	}
	holdSame(t, m.what+" "+x.p, made, want.Tree)
}

// holdAll makes all the calls for each row, each on the tree as it is.
func holdAll(t *testing.T, b built, rows []row) {
	t.Helper()
	b.holdFit(t)
	for _, m := range makers() {
		for _, x := range rows {
			m.hold(t, b, x)
		}
	}
}

// holdSlash is holdAll of paths that end with a slash: Mkdir tells what the row says, the others ErrNotDir where it makes something.
func holdSlash(t *testing.T, b built, rows []row) {
	t.Helper()
	b.holdFit(t)
	for _, m := range makers() {
		for _, x := range rows {
			if _, is := x.want.(string); is && m.what != "Mkdir" {
				x.want = api.ErrNotDir
			}
			m.hold(t, b, x)
		}
	}
}

// P5.1 to P5.3: the chapter's example.
func TestExample(t *testing.T) {
	s, _ := tree.New(8, 100)
	s, a, err := make.Mkdir(s, 0, "a", 7)
	if a != 1 || err != api.OK {
		t.Errorf("Mkdir of a = %d, %v", a, err)
	}
	s, f, err := make.Create(s, 0, "a/f", 6)
	if f != 2 || err != api.OK {
		t.Errorf("Create of a/f = %d, %v", f, err)
	}
	s, err = make.Link(s, 0, "a/f", "g")
	if nodes, bytes := tree.Used(s); nodes != 3 || bytes != 0 || err != api.OK || s.Nodes[f].Links != 2 || !tree.Fit(s) {
		t.Errorf("Link: %v, %d inodes, %d bytes, Links %d", err, nodes, bytes, s.Nodes[f].Links)
	}
	if l := strings.Join(tree.List(s), " "); l != "/a /a/f /g" {
		t.Errorf("List = %s", l)
	}
	if again, ino, err := make.Mkdir(s, 0, "a", 7); ino != 0 || err != api.ErrThere || !tree.Same(again, s) {
		t.Errorf("Mkdir of a once more = %d, %v", ino, err)
	}
}

// P5.1 to P5.4: where new names stand: ahead of, between and behind those that are there, through links on the way.
func TestNewNames(t *testing.T) {
	holdAll(t, sample(t), []row{
		{"/", "new", "/new"}, {"/", "/new", "/new"}, {"/d", "new", "/d/new"}, {"/d", "/new", "/new"}, {"/d/e", "../new", "/d/new"},
		{"/", "d/e/new", "/d/e/new"},
		{"/", "//d//e//new", "/d/e/new"}, {"/", "m/new", "/m/new"}, {"/", "A", "/A"}, {"/", "~", "/~"}, {"/", "d/a", "/d/a"}, {"/", "d/f", "/d/f"},
		{"/", "d/z", "/d/z"},
		{"/", "d/\xff", "/d/\xff"}, {"/", "d/\x01", "/d/\x01"}, {"/", "d/...", "/d/..."}, {"/", "d/.e", "/d/.e"}, {"/", "d/ ", "/d/ "},
		{"/", "d/ee", "/d/ee"},
		{"/", "d/E", "/d/E"}, {"/", "d/\n", "/d/\n"}, {"/", strings.Repeat("n", 64), "/" + strings.Repeat("n", 64)},
		{"/", "toDir/new", "/d/e/new"}, {"/", "toDirSlash/../new", "/d/new"}, {"/", "toRoot/new", "/new"}, {"/m", "up/new", "/new"},
		{"/m", "./new", "/m/new"},
		{"/", "../../new", "/new"}, {"/", strings.Repeat("./", 510) + "new", "/new"}, {"/", strings.Repeat("./", 510) + "newx", "/newx"},
	})
}

// P5.1 to P5.3: names that are there, be it a directory's, a file's or a link's, wherever that leads; names that are . or .., or none.
func TestThere(t *testing.T) {
	holdAll(t, sample(t), []row{
		{"/", "d", api.ErrThere}, {"/", "x", api.ErrThere}, {"/", "d/e/f", api.ErrThere}, {"/d", "../x", api.ErrThere},
		{"/", "toDir/f", api.ErrThere},
		{"/", "toFile", api.ErrThere}, {"/", "toDir", api.ErrThere}, {"/", "toNothing", api.ErrThere}, {"/", "toNew", api.ErrThere},
		{"/", "toItself", api.ErrThere},
		{"/", "n", api.ErrThere}, {"/m", "up", api.ErrThere}, {"/m", "rel", api.ErrThere},
		{"/", ".", api.ErrThere}, {"/", "..", api.ErrThere}, {"/d", "..", api.ErrThere}, {"/d", "e/.", api.ErrThere}, {"/d", "e/..", api.ErrThere},
		{"/", "toDir/..", api.ErrThere},
		{"/", "d/", api.ErrThere}, {"/", "x/", api.ErrThere}, {"/", "toNew/", api.ErrThere}, {"/", "toDir//", api.ErrThere},
		{"/", "./", api.ErrThere}, {"/d", "../", api.ErrThere},
		{"/", "/", api.ErrThere}, {"/d", "//", api.ErrThere},
	})
}

// P5.1 to P5.3: what walk.Parent tells is told; a name with a byte 0 can not stand in a directory, one on the way is not there.
func TestNoWay(t *testing.T) {
	holdAll(t, sample(t), []row{
		{"/", "", api.ErrNone}, {"/x", "new", api.ErrNone}, {"/toDir", "new", api.ErrNone}, {"/nothing", "new", api.ErrNone},
		{"/x", "/new", api.ErrNone}, {"/nothing", "/", api.ErrNone},
		{"/", "nothing/new", api.ErrNone}, {"/", "toNothing/new", api.ErrNone}, {"/", "toNew/new", api.ErrNone}, {"/", "x/new", api.ErrNotDir},
		{"/", "x/.", api.ErrNotDir},
		{"/", "toFile/new", api.ErrNotDir}, {"/", "x/../new", api.ErrNotDir}, {"/", "toItself/new", api.ErrLoop},
		{"/", strings.Repeat("n", 65), api.ErrName}, {"/", strings.Repeat("n", 65) + "/", api.ErrName},
		{"/", "d/" + strings.Repeat("\x00", 65), api.ErrName},
		{"/", strings.Repeat("n", 65) + "/new", api.ErrName}, {"/", strings.Repeat("./", 511) + "new", api.ErrName},
		{"/", strings.Repeat("n/", 1<<16), api.ErrName},
		{"/", "\x00", api.ErrInval}, {"/", "new\x00", api.ErrInval}, {"/d", "\x00new", api.ErrInval}, {"/", "d/e/x\x00y", api.ErrInval},
		{"/", "x\x00", api.ErrInval},
		{"/", "d\x00/", api.ErrInval}, {"/", strings.Repeat("\x00", 64), api.ErrInval}, {"/", "d\x00/new", api.ErrNone},
		{"/", "x/\x00", api.ErrNotDir},
	})
}

// P5.1 to P5.3: a path that ends with a slash asks for a directory, which Mkdir alone makes.
func TestSlash(t *testing.T) {
	holdSlash(t, sample(t), []row{
		{"/", "new/", "/new"}, {"/", "new//", "/new"}, {"/d", "/new/", "/new"}, {"/d", "e/new/", "/d/e/new"}, {"/", "toDir/new///", "/d/e/new"},
		{"/", "nothing/new/", api.ErrNone}, {"/", "x/new/", api.ErrNotDir}, {"/", "d/", api.ErrThere}, {"/", "new\x00/", api.ErrInval},
	})
}

// P5.1 to P5.3: all Modes of the directory, of one on the way to it, of the root.
func TestDirModes(t *testing.T) {
	for mode := range 8 {
		var in, by any = api.ErrAccess, api.ErrAccess
		var thereBy, upBy any = api.ErrAccess, api.ErrAccess
		if mode&3 == 3 {
			in = "/d/new"
		}
		if mode&1 == 1 {
			by, thereBy, upBy = "/d/e/new", api.ErrThere, "/new"
		}
		holdAll(t, sample(t).mode("/d", mode), []row{
			{"/", "d/new", in}, {"/d", "new", in}, {"/d", "/d/new", in}, {"/d", "./new", in}, {"/", "d/g", api.ErrThere},
			{"/", "d/new\x00", api.ErrInval}, {"/", "d/.", api.ErrThere},
			{"/", "d/e/new", by}, {"/d", "e/new", by}, {"/d/e", "new", "/d/e/new"}, {"/", "toDir/new", by}, {"/", "d/e/f", thereBy},
			{"/d/e", "../../new", upBy}, {"/", "new", "/new"},
		})
		holdSlash(t, sample(t).mode("/d", mode), []row{{"/", "d/new/", in}, {"/d", "e/new/", by}})
		// A link's Mode is nothing to a way, and a file's nothing to a new name of it.
		holdAll(t, sample(t).mode("/toDir", mode).mode("/x", mode), []row{{"/", "toDir/new", "/d/e/new"}, {"/", "new", "/new"}})
		var atRoot, belowRoot any = api.ErrAccess, api.ErrAccess
		if mode&3 == 3 {
			atRoot = "/new"
		}
		if mode&1 == 1 {
			belowRoot = "/d/new"
		}
		for _, m := range makers() {
			if m.what == "Link" && mode&1 == 0 {
				continue // x itself can not be come to
			}
			for _, x := range []row{
				{"/", "new", atRoot}, {"/d", "/new", atRoot}, {"/d", "../new", atRoot}, {"/", "x", api.ErrThere}, {"/", "d/new", belowRoot},
				{"/d", "new", "/d/new"},
			} {
				m.hold(t, sample(t).mode("/", mode), x)
			}
		}
	}
}

// numbers is modes that can not be, and those that can.
func numbers() []int {
	return []int{-1, 0, 1, 2, 3, 4, 5, 6, 7, 8, 9, 16, 0o777, -8, math.MaxInt, math.MinInt}
}

// P5.1: a directory and a file of each Mode; any other mode is ErrInval ahead of all else.
func TestModes(t *testing.T) {
	for _, mode := range numbers() {
		dir := maker{
			"Mkdir", func(s api.Tree, cwd int, p string) (api.Tree, int, api.Errno) { return make.Mkdir(s, cwd, p, mode) },
			func(b built, p string) built { return b.with(p, api.Inode{Kind: api.InDir, Mode: mode}) },
		}
		file := maker{
			"Create", func(s api.Tree, cwd int, p string) (api.Tree, int, api.Errno) { return make.Create(s, cwd, p, mode) },
			func(b built, p string) built { return b.with(p, api.Inode{Kind: api.InFile, Mode: mode}) },
		}
		rows := []row{{"/", "new", "/new"}, {"/d/e", "new", "/d/e/new"}, {"/", "", api.ErrNone}, {"/", "x", api.ErrThere}, {"/", "x/new", api.ErrNotDir}, {"/x", "new", api.ErrNone}}
		for _, x := range rows {
			if mode < 0 || mode > 7 {
				x.want = api.ErrInval
			}
			dir.hold(t, sample(t), x)
			file.hold(t, sample(t), x)
		}
	}
}

// P5.1 to P5.3: the first free inode is taken, wherever it is; Link takes none.
func TestFirstFree(t *testing.T) {
	b := empty(6).put(4, api.Inode{Kind: api.InFile, Mode: 6}).named("x", 4).put(1, api.Inode{Kind: api.InDir, Mode: 7}).named("d", 1)
	for _, p := range []string{"/new", "/d/new"} {
		for _, m := range makers() {
			m.hold(t, b, row{"/", p, p})
		}
	}
	for i, want := range []int{2, 3, 5} {
		p := []string{"a", "b", "c"}[i]
		made, ino, err := make.Create(b.Tree, 0, p, 6)
		if ino != want || err != api.OK {
			t.Errorf("Create of %s = %d, %v, not %d", p, ino, err, want)
		}
		b = b.with(p, api.Inode{Kind: api.InFile, Mode: 6})
		holdSame(t, "Create of "+p, made, b.Tree)
	}
	for _, m := range makers() {
		var want any = api.ErrSpace
		if m.what == "Link" {
			want = "/d/new"
		}
		m.hold(t, b, row{"/", "d/new", want})
	}
}

// P5.1 to P5.3: a tree without a free inode, be there as many as there may be, or fewer; what is asked ahead of that is told; Link asks for none.
func TestNoFree(t *testing.T) {
	for _, most := range []int{20, 256} {
		b := sample(t).full()
		b.MaxNodes = most
		b.holdFit(t)
		for _, m := range makers() {
			var want, slash any = api.ErrSpace, api.ErrNotDir
			if m.what == "Link" {
				want = "/d/new"
			}
			if m.what == "Mkdir" {
				slash = api.ErrSpace
			}
			for _, x := range []row{
				{"/", "d/new", want}, {"/", "d/new/", slash}, {"/", "x", api.ErrThere}, {"/", "nothing/new", api.ErrNone},
				{"/", "\x00", api.ErrInval},
			} {
				m.hold(t, b, x)
			}
			m.hold(t, b.mode("/d", 5), row{"/", "d/new", api.ErrAccess})
		}
	}
	root, _ := tree.New(1, 0)
	for _, m := range makers()[:3] {
		m.hold(t, built{root, map[string]int{"": 0}}, row{"/", "new", api.ErrSpace})
	}
}

// P5.1 to P5.3: directories of 1023 and of 1024 names, the root, too; the other directories take names all the same.
func TestCrowded(t *testing.T) {
	for _, in := range []string{"/d", "/", "/d/e"} {
		at := strings.TrimSuffix(in, "/")
		b := sample(t).crowded(in, 1023)
		holdAll(t, b, []row{{in, "new", at + "/new"}, {in, "A", at + "/A"}, {in, "~", at + "/~"}, {in, "k10500a", at + "/k10500a"}, {"/m", "new", "/m/new"}})
		b = sample(t).crowded(in, 1024)
		holdAll(t, b, []row{{in, "new", api.ErrSpace}, {in, "A", api.ErrSpace}, {in, "k10500", api.ErrThere}, {in, "k10500\x00", api.ErrInval}, {"/m", "new", "/m/new"}})
		holdAll(t, b.mode(in, 5), []row{{in, "new", api.ErrAccess}})
		for _, m := range makers() {
			var want any = api.ErrNotDir
			if m.what == "Mkdir" {
				want = api.ErrSpace
			}
			m.hold(t, b, row{in, "new/", want})
		}
	}
}

// symlink is Symlink of a text.
func symlink(to string) maker {
	return maker{
		"Symlink", func(s api.Tree, cwd int, p string) (api.Tree, int, api.Errno) { return make.Symlink(s, cwd, to, p) },
		func(b built, p string) built { return b.with(p, api.Inode{Kind: api.InLink, Mode: 7, Data: to}) },
	}
}

// P5.2: texts of links: any bytes but 0, from 1 to 1024 of them, be there something where they lead or not.
func TestSymlinkTexts(t *testing.T) {
	b := sample(t)
	for _, to := range []string{
		"x", "d/e", "/", "//", ".", "..", "new", "nothing/there", "d/", " ", "\n", "\xff\x01", "é", strings.Repeat("n", 65),
		strings.Repeat("n", 1023), strings.Repeat("n", 1024),
		strings.Repeat("/", 1024), "d/new", "x/y",
	} {
		symlink(to).hold(t, b, row{"/", "d/new", "/d/new"})
		symlink(to).hold(t, b, row{"/d", "e/new", "/d/e/new"})
		symlink(to).hold(t, b, row{"/", "d/new/", api.ErrNotDir})
	}
	wrong := map[string]api.Errno{
		"": api.ErrInval, "\x00": api.ErrInval, "x\x00": api.ErrInval, "\x00x": api.ErrInval, "x\x00y": api.ErrInval,
		strings.Repeat("n", 1023) + "\x00": api.ErrInval,
		strings.Repeat("n", 1024) + "\x00": api.ErrInval, "\x00" + strings.Repeat("n", 1<<17): api.ErrInval,
		strings.Repeat("n", 1025): api.ErrName, strings.Repeat("é", 513): api.ErrName, strings.Repeat("/", 1<<17): api.ErrName,
	}
	for to, err := range wrong {
		for _, x := range []row{
			{"/", "new", err}, {"/", "x", err}, {"/", "", err}, {"/x", "new", err}, {"/", "nothing/new", err}, {"/", "new/", err}, {"/", "\x00", err},
		} {
			symlink(to).hold(t, b, x)
		}
		symlink(to).hold(t, b.mode("/d", 0).full(), row{"/", "d/new", err})
	}
}

// P5.2: a link's bytes find room within MaxBytes, just so, or they don't, by one byte or by many; what makes no bytes asks for no room.
func TestSymlinkRoom(t *testing.T) {
	for _, n := range []int{1, 2, 5, 1024} {
		m := symlink(strings.Repeat("n", n))
		for _, left := range []int{n, n + 1, n + 100} {
			m.hold(t, sample(t).room(left), row{"/", "new", "/new"})
		}
		for _, left := range []int{n - 1, 0} {
			b := sample(t).room(left)
			m.hold(t, b, row{"/", "new", api.ErrSpace})
			m.hold(t, b, row{"/", "x", api.ErrThere})
			m.hold(t, b, row{"/", "new/", api.ErrNotDir})
			m.hold(t, b.mode("/", 5), row{"/", "new", api.ErrAccess})
			m.hold(t, b.full(), row{"/", "new", api.ErrSpace})
		}
	}
	b := sample(t).room(0)
	for _, m := range makers() {
		if m.what != "Symlink" {
			m.hold(t, b, row{"/", "new", "/new"})
		}
	}
	full := empty(4).put(1, api.Inode{Kind: api.InFile, Mode: 6, Data: strings.Repeat("x", 65533)}).named("x", 1)
	symlink("abc").hold(t, full, row{"/", "new", "/new"})
	symlink("abcd").hold(t, full, row{"/", "new", api.ErrSpace})
}
