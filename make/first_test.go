package make_test

import (
	"slices"
	"strings"
	"testing"

	"windlass/api"
	"windlass/make"
)

// fault is something that may be wrong with a call: what is told of it, and how what the call is given comes to have it.
type fault struct {
	err api.Errno
	to  func(g *given)
}

// given is what a call is given: the tree, from where, the path in its pieces, and what is the call's own: a mode, a text, an old path.
type given struct {
	b             built
	cwd           int
	way, name     string
	slash         string
	mode          int
	text, oldPath string
}

func (g given) path() string { return g.way + g.name + g.slash }

// fine is what no call finds anything wrong with.
func fine(t *testing.T) given {
	b := build(t, "d/", "d/g", "x", "toItself -> toItself", "closed/", "closed/in/", "crowd/").mode("/closed", 6)
	return given{b: b, way: "d/", name: "new", mode: 7, text: "to", oldPath: "/x"}
}

// kinds is the kinds of faults of all new names, in the order in which they are told; of each kind those that can't hold at once.
func kinds() [][]fault {
	way := func(err api.Errno, way string) fault { return fault{err, func(g *given) { g.way = way }} }
	name := func(err api.Errno, name string) fault { return fault{err, func(g *given) { g.name = name }} }
	mode := func(mode int) fault { return fault{api.ErrAccess, func(g *given) { g.b = g.b.mode("/d", mode) }} }
	return [][]fault{
		{
			way(api.ErrNone, "nothing/"), way(api.ErrNotDir, "x/"), way(api.ErrLoop, "toItself/"), way(api.ErrAccess, "closed/in/"),
			way(api.ErrName, strings.Repeat("d/../", 205)), way(api.ErrName, strings.Repeat("n", 65)+"/"),
		},
		{name(api.ErrThere, "g"), name(api.ErrThere, "."), name(api.ErrThere, ".."), name(api.ErrInval, "n\x00")},
		{mode(0), mode(1), mode(2), mode(4), mode(5), mode(6)},
		{{api.ErrNotDir, func(g *given) { g.slash = "/" }}},
		{{api.ErrSpace, func(g *given) { g.b = g.b.crowded("/d", 1024) }}},
		{{api.ErrSpace, func(g *given) { g.b = g.b.full() }}},
		{{api.ErrSpace, func(g *given) { g.b = g.b.room(1) }}},
	}
}

// asks is a call that gives a new name: its own faults, in their order, and which kinds of those of all it tells.
type asks struct {
	what  string
	own   [][]fault
	kinds []int
	do    func(g given) (api.Tree, int, api.Errno)
}

func allAsks() []asks {
	mode := []fault{{api.ErrInval, func(g *given) { g.mode = -1 }}, {api.ErrInval, func(g *given) { g.mode = 8 }}}
	text := func(err api.Errno, to string) fault { return fault{err, func(g *given) { g.text = to }} }
	old := func(err api.Errno, old string) fault { return fault{err, func(g *given) { g.oldPath = old }} }
	return []asks{
		{"Mkdir", [][]fault{mode}, []int{0, 1, 2, 4, 5}, func(g given) (api.Tree, int, api.Errno) {
			return make.Mkdir(g.b.Tree, g.cwd, g.path(), g.mode)
		}},
		{"Create", [][]fault{mode}, []int{0, 1, 2, 3, 4, 5}, func(g given) (api.Tree, int, api.Errno) {
			return make.Create(g.b.Tree, g.cwd, g.path(), g.mode)
		}},
		{
			"Symlink",
			[][]fault{{text(api.ErrInval, ""), text(api.ErrInval, "\x00"), text(api.ErrInval, strings.Repeat("n", 1024)+"\x00"), text(api.ErrName, strings.Repeat("n", 1025))}},
			[]int{0, 1, 2, 3, 4, 5, 6},
			func(g given) (api.Tree, int, api.Errno) { return make.Symlink(g.b.Tree, g.cwd, g.text, g.path()) },
		},
		{
			"Link",
			[][]fault{{old(api.ErrNone, "/nothing"), old(api.ErrNotDir, "/x/"), old(api.ErrAccess, "/closed/in"), old(api.ErrPerm, "/d"), old(api.ErrPerm, "/")}},
			[]int{0, 1, 2, 3, 4},
			func(g given) (api.Tree, int, api.Errno) { return linkOf(g.oldPath)(g.b.Tree, g.cwd, g.path()) },
		},
	}
}

// each hands out all choices of none or one fault of each kind, and the error of the first one.
func each(rows [][]fault, g given, err api.Errno, f func(g given, err api.Errno)) {
	if len(rows) == 0 {
		f(g, err)
		return
	}
	each(rows[1:], g, err, f)
	for _, x := range rows[0] {
		worse, first := g, err
		x.to(&worse)
		if first == api.OK {
			first = x.err
		}
		each(rows[1:], worse, first, f)
	}
}

// P5.1 to P5.3: which error is told, whatever holds at once: what is the call's own, the way's, the name's, the directory's Mode's, the slash's, no room. Beside it the tree is as it was, and there is no inode.
func TestFirstError(t *testing.T) {
	all := kinds()
	for _, a := range allAsks() {
		rows := slices.Clone(a.own)
		for _, k := range a.kinds {
			rows = append(rows, all[k])
		}
		told, wrong := 0, 0
		each(rows, fine(t), api.OK, func(g given, want api.Errno) {
			made, ino, err := a.do(g)
			told++
			if err != want || want != api.OK && ino != 0 {
				wrong++
				if wrong < 10 {
					t.Errorf("%s(%d, %.60q), mode %d, text %.20q, old %q = %d, %v, not %v", a.what, g.cwd, g.path(), g.mode, g.text, g.oldPath, ino, err, want)
				}
			}
			if want != api.OK {
				holdSame(t, a.what+" beside an error", made, g.b.Tree)
			}
		})
		if told < 500 {
			t.Errorf("%s: just %d choices", a.what, told)
		}
	}
}

// P5.3: which error Chmod tells: its mode's ahead of the way's.
func TestFirstErrorOfChmod(t *testing.T) {
	g := fine(t)
	for _, mode := range []int{-1, 8} {
		for _, p := range []string{"", "nothing", "x/", "x/y", "toItself", "closed/in", strings.Repeat("n", 65), "d"} {
			for _, cwd := range []int{0, -1, 99} {
				if made, err := make.Chmod(g.b.Tree, cwd, p, mode); err != api.ErrInval {
					t.Errorf("Chmod(%d, %.60q, %d) = %v", cwd, p, mode, err)
				} else {
					holdSame(t, "Chmod", made, g.b.Tree)
				}
			}
		}
	}
}
