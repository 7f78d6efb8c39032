package make_test

import (
	"math/rand"
	"reflect"
	"slices"
	"strings"
	"testing"

	"windlass/api"
	"windlass/make"
	"windlass/path"
	"windlass/tree"
	"windlass/walk"
)

// wanted is what the chapter says of a call: the tree behind it, the inode, the error.
type wanted struct {
	tree api.Tree
	ino  int
	err  api.Errno
}

// wantNew is the directory and the name of a new name, or its error; with that of a path that ends with a slash, unless it is to be a directory's.
func wantNew(s api.Tree, cwd int, p string, dir bool) (int, string, api.Errno) {
	in, name, err := walk.Parent(s, cwd, p)
	if err != api.OK {
		return 0, "", err
	}
	for _, there := range append([]api.Entry{{Name: "."}, {Name: ".."}}, s.Nodes[in].Kids...) {
		if there.Name == name {
			return 0, "", api.ErrThere
		}
	}
	switch mode := s.Nodes[in].Mode; {
	case strings.Contains(name, "\x00"):
		return 0, "", api.ErrInval
	case mode != 3 && mode != 7:
		return 0, "", api.ErrAccess
	case p[len(p)-1] == '/' && !dir:
		return 0, "", api.ErrNotDir
	}
	return in, name, api.OK
}

// rooted is a tree that grew as one that is built on, and the path of a name in a directory.
func rooted(s api.Tree, dir int, name string) (built, string) {
	place := strings.TrimPrefix(tree.Place(s, dir), "/")
	return built{s, map[string]int{place: dir, "": 0}}, strings.TrimPrefix(place+"/"+name, "/")
}

// wantMade is a new inode at a path.
func wantMade(s api.Tree, cwd int, p string, n api.Inode) wanted {
	in, name, err := wantNew(s, cwd, p, n.Kind == api.InDir)
	if err != api.OK {
		return wanted{s, 0, err}
	}
	free, used := false, len(n.Data)
	for _, n := range s.Nodes {
		free = free || n.Kind == api.InFree
		used += len(n.Data)
	}
	if !free || used > s.MaxBytes || len(s.Nodes[in].Kids) == 1024 {
		return wanted{s, 0, api.ErrSpace}
	}
	b, at := rooted(s, in, name)
	b = b.with(at, n)
	return wanted{b.Tree, b.ino(at), api.OK}
}

// wantLink is one more name at a path.
func wantLink(s api.Tree, cwd int, old, p string) wanted {
	ino, err := walk.Walk(s, cwd, old, false)
	if err == api.OK && s.Nodes[ino].Kind == api.InDir {
		err = api.ErrPerm
	}
	if err != api.OK {
		return wanted{s, 0, err}
	}
	in, name, err := wantNew(s, cwd, p, false)
	if err != api.OK {
		return wanted{s, 0, err}
	}
	b, at := rooted(s, in, name)
	return wanted{b.named(at, ino).Tree, ino, api.OK}
}

// call is a call by a seed: what it told, and what it was to tell; the path of the new name, if it asked for one.
type call struct {
	what string
	got  wanted
	want wanted
	p    string
}

// wildCall makes a call of anything, most often such that could be.
func wildCall(r *rand.Rand, s api.Tree, cwd int) call {
	p, mode, other := wildText(r), r.Intn(10)-1, wildText(r)
	badMode := wanted{s, 0, api.ErrInval}
	var got wanted
	switch r.Intn(8) {
	case 0:
		got.tree, got.ino, got.err = make.Mkdir(s, cwd, p, mode)
		if mode < 0 || mode > 7 {
			return call{"Mkdir", got, badMode, p}
		}
		return call{"Mkdir", got, wantMade(s, cwd, p, api.Inode{Kind: api.InDir, Mode: mode}), p}
	case 1:
		got.tree, got.ino, got.err = make.Create(s, cwd, p, mode)
		if mode < 0 || mode > 7 {
			return call{"Create", got, badMode, p}
		}
		return call{"Create", got, wantMade(s, cwd, p, api.Inode{Kind: api.InFile, Mode: mode}), p}
	case 2:
		got.tree, got.ino, got.err = make.Symlink(s, cwd, other, p)
		if other == "" || strings.Contains(other, "\x00") {
			return call{"Symlink", got, badMode, p}
		}
		if len(other) > 1024 {
			return call{"Symlink", got, wanted{s, 0, api.ErrName}, p}
		}
		return call{"Symlink", got, wantMade(s, cwd, p, api.Inode{Kind: api.InLink, Mode: 7, Data: other}), p}
	case 3, 4, 5, 6:
		if other = wildPath(r, 2); r.Intn(6) == 0 {
			other = wildText(r)
		}
		got.tree, got.err = make.Link(s, cwd, other, p)
		want := wantLink(s, cwd, other, p)
		got.ino = want.ino // which Link does not tell
		return call{"Link", got, want, p}
	}
	got.tree, got.err = make.Chmod(s, cwd, p, mode)
	if mode < 0 || mode > 7 {
		return call{"Chmod", got, badMode, ""}
	}
	ino, err := walk.Walk(s, cwd, p, true)
	if err != api.OK {
		return call{"Chmod", got, wanted{s, 0, err}, ""}
	}
	b := built{copied(s), nil}
	b.Nodes[ino].Mode = mode
	return call{"Chmod", got, wanted{b.Tree, 0, api.OK}, ""}
}

// at is the inode at a path that List told, be the Modes what they are.
func at(s api.Tree, p string) int {
	ino := 0
	for _, name := range path.Parts(p) {
		ino = tree.Kid(s, ino, name)
	}
	return ino
}

// holdStays wants what a call made to be there, all other paths to be what they were, and the tree to be fit (P5.4).
func holdStays(t *testing.T, s api.Tree, cwd int, c call) {
	t.Helper()
	made := c.got.tree
	if !tree.Fit(made) {
		t.Fatalf("%s of %q: not fit: %v", c.what, c.p, made)
	}
	was, is := tree.List(s), tree.List(made)
	for _, p := range was {
		ino := at(s, p)
		old, now := s.Nodes[ino], made.Nodes[at(made, p)]
		if at(made, p) != ino || old.Kind != now.Kind || old.Data != now.Data || old.Up != now.Up {
			t.Fatalf("%s of %q: %s is another one", c.what, c.p, p)
		}
	}
	if c.p == "" {
		if !slices.Equal(was, is) {
			t.Fatalf("%s: the paths are %q, not %q", c.what, is, was)
		}
		return
	}
	if ino, err := walk.Walk(made, cwd, c.p, false); ino != c.got.ino || err != api.OK {
		t.Fatalf("%s of %q: it is not there: %d, %v", c.what, c.p, ino, err)
	}
	fresh := slices.DeleteFunc(is, func(p string) bool { return slices.Contains(was, p) })
	if len(fresh) != 1 || len(tree.List(made)) != len(was)+1 || at(made, fresh[0]) != c.got.ino {
		t.Fatalf("%s of %q: new paths are %q", c.what, c.p, fresh)
	}
	if c.what == "Link" && made.Nodes[c.got.ino].Links != s.Nodes[c.got.ino].Links+1 {
		t.Fatalf("Link of %q: Links %d, and %d ahead of that", c.p, made.Nodes[c.got.ino].Links, s.Nodes[c.got.ino].Links)
	}
}

// P5.1 to P5.4: calls by seeds, one behind the other, in trees that grew by seeds.
func TestBySeeds(t *testing.T) {
	met := map[api.Errno]int{}
	done := map[string]int{}
	for seed := range int64(1500) {
		r := rand.New(rand.NewSource(seed))
		s := grown(r)
		if !tree.Fit(s) {
			t.Fatalf("seed %d: not fit", seed)
		}
		for range 30 {
			was, cwd := copied(s), []int{0, 0, r.Intn(len(s.Nodes)+2) - 1}[r.Intn(3)]
			c := wildCall(r, s, cwd)
			if c.got.ino != c.want.ino || c.got.err != c.want.err || !reflect.DeepEqual(c.got.tree, c.want.tree) {
				t.Fatalf("seed %d: %s(%d, %.80q) = %v, not %v", seed, c.what, cwd, c.p, c.got, c.want)
			}
			if !reflect.DeepEqual(s, was) {
				t.Fatalf("seed %d: %s changed what it was given", seed, c.what)
			}
			met[c.got.err]++
			if c.got.err == api.OK {
				done[c.what]++
				holdStays(t, s, cwd, c)
				s = c.got.tree
			}
		}
	}
	for _, err := range []api.Errno{
		api.ErrNone, api.ErrThere, api.ErrNotDir, api.ErrInval, api.ErrAccess, api.ErrSpace, api.ErrLoop, api.ErrName, api.ErrPerm,
	} {
		if met[err] < 100 {
			t.Errorf("%v was met just %d times", err, met[err])
		}
	}
	for _, what := range []string{"Mkdir", "Create", "Symlink", "Link", "Chmod"} {
		if done[what] < 100 {
			t.Errorf("%s did just %d times what it was asked", what, done[what])
		}
	}
}
