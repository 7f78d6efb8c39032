package drop_test

import (
	"slices"
	"strings"
	"testing"

	"windlass/api"
	"windlass/drop"
)

// given is what a call is given: lines of the tree, what there is about it besides, from where, and the paths in their pieces.
type given struct {
	lines       []string
	modes       map[string]int
	crowd       bool // the directory "to" has 1024 names
	cwd         string
	oldWay, old string
	way, p      string
	oldEnd, end string
}

// with is what is given with a further Mode of a directory.
func (g given) with(p string, mode int) given {
	modes := map[string]int{p: mode}
	for q, m := range g.modes {
		modes[q] = m
	}
	g.modes = modes
	return g
}

// tree is the tree that is given; what was built of its lines is kept, since the same ones come again and again.
func (g given) tree(t *testing.T, kept map[string]api.Tree) api.Tree {
	key := strings.Join(g.lines, ",")
	s, there := kept[key]
	if !there {
		s = build(t, g.lines...)
		kept[key] = s
	}
	if g.crowd {
		s = crowded(s, "to", 1024)
	}
	for p, m := range g.modes {
		s = mode(s, p, m)
	}
	return s
}

// fault is something that may be wrong with a call: what is told of it, how early (the least rank comes first), and how what the call is given comes to have it.
type fault struct {
	rank int
	err  api.Errno
	to   func(g given) given
}

// fine is what no call that takes what is at old finds anything wrong with.
func fine(old string) given {
	return given{
		lines:  []string{"from/", "from/f", "from/dir/", "to/", "x", "toItself -> toItself", "closed/", "closed/in/"},
		modes:  map[string]int{"closed": 6},
		cwd:    "/",
		oldWay: "/from/", old: old, way: "/to/", p: "new",
	}
}

func oldWay(err api.Errno, way string) fault {
	return fault{1, err, func(g given) given { g.oldWay = way; return g }}
}

func old(rank int, err api.Errno, name string) fault {
	return fault{rank, err, func(g given) given { g.old = name; return g }}
}

func way(rank int, err api.Errno, way string) fault {
	return fault{rank, err, func(g given) given { g.way = way; return g }}
}

func name(err api.Errno, name string) fault {
	return fault{6, err, func(g given) given { g.p = name; return g }}
}

// lines is a fault of what stands in the tree besides.
func lines(rank int, err api.Errno, cwd string, more ...string) fault {
	return fault{rank, err, func(g given) given {
		g.lines = slices.Concat(g.lines, more)
		g.cwd = cwd
		return g
	}}
}

// oldFaults is the kinds of faults of each name that is to go; of each kind those that can't hold at once.
func oldFaults() [][]fault {
	barred := func(mode int) fault {
		return fault{4, api.ErrAccess, func(g given) given { return g.with("from", mode) }}
	}
	return [][]fault{
		{oldWay(api.ErrNone, "/nothing/"), oldWay(api.ErrNotDir, "/x/"), oldWay(api.ErrLoop, "/toItself/"), oldWay(api.ErrAccess, "/closed/in/"), oldWay(api.ErrName, "/"+strings.Repeat("n", 65)+"/")},
		{old(2, api.ErrInval, "."), old(2, api.ErrInval, ".."), old(3, api.ErrNone, "nothing"), old(3, api.ErrNone, "f\x00")},
		{barred(1), barred(2), barred(4), barred(5), barred(6)},
	}
}

// newFaults is the kinds of faults of Rename's new name.
func newFaults(more ...[]fault) [][]fault {
	barred := func(mode int) fault {
		return fault{7, api.ErrAccess, func(g given) given { return g.with("to", mode).with("from/dir", mode) }}
	}
	return slices.Concat([][]fault{
		{name(api.ErrInval, "."), name(api.ErrInval, "n\x00")},
		{barred(5), barred(6)},
	}, more)
}

func noWays() []fault {
	return []fault{way(5, api.ErrNone, "/nothing/"), way(5, api.ErrNotDir, "/x/"), way(5, api.ErrAccess, "/closed/in/")}
}

// asked is a call, what is wrong with it at any rate, and all that may be.
type asked struct {
	what string
	of   given
	own  []fault
	rows [][]fault
	do   func(s api.Tree, cwd int, g given) (api.Tree, api.Errno)
}

func allAsked() []asked {
	ends := func(rank int) []fault {
		return []fault{{rank, api.ErrNotDir, func(g given) given { g.oldEnd = "/"; return g }}, {rank, api.ErrNotDir, func(g given) given { g.end = "//"; return g }}}
	}
	crowd := fault{10, api.ErrSpace, func(g given) given { g.crowd = true; return g }}
	unlink := func(s api.Tree, cwd int, g given) (api.Tree, api.Errno) {
		return drop.Unlink(s, cwd, g.oldWay+g.old+g.oldEnd)
	}
	rmdir := func(s api.Tree, cwd int, g given) (api.Tree, api.Errno) {
		return drop.Rmdir(s, cwd, g.oldWay+g.old+g.oldEnd)
	}
	rename := func(s api.Tree, cwd int, g given) (api.Tree, api.Errno) {
		return drop.Rename(s, cwd, g.oldWay+g.old+g.oldEnd, g.way+g.p+g.end)
	}
	fewer := oldFaults()
	fewer[0], fewer[2] = fewer[0][:2], fewer[2][3:]
	return []asked{
		{"Unlink", fine("f"), nil, append(oldFaults(), ends(9)[:1]), unlink},
		{"Unlink of a directory", fine("dir"), []fault{{rank: 8, err: api.ErrIsDir}}, append(oldFaults(), ends(9)[:1]), unlink},
		{"Rmdir", fine("dir"), nil, append(oldFaults(), []fault{
			lines(9, api.ErrEmpty, "/", "from/dir/f"), lines(10, api.ErrInval, "/from/dir"), lines(9, api.ErrEmpty, "/from/dir", "from/dir/f"),
		}), rmdir},
		{"Rmdir of a file", fine("f"), []fault{{rank: 8, err: api.ErrNotDir}}, oldFaults(), rmdir},
		{"Rename of a file", fine("f"), nil, slices.Concat(fewer, newFaults(noWays(), ends(8), []fault{
			crowd, lines(9, api.ErrIsDir, "/", "to/new/", "to/new/f"), lines(9, api.ErrIsDir, "/to/new", "to/new/"),
		})), rename},
		{"Rename of a directory", fine("dir"), nil, slices.Concat(fewer, newFaults(append(noWays(), way(8, api.ErrInval, "/from/dir/")), []fault{
			crowd, lines(9, api.ErrNotDir, "/", "to/new", "from/dir/new"), lines(9, api.ErrEmpty, "/", "to/new/", "to/new/f", "from/dir/new/"),
			lines(9, api.ErrEmpty, "/to/new", "to/new/", "to/new/f"), lines(9, api.ErrInval, "/to/new", "to/new/"),
		})), rename},
	}
}

// each hands out all choices of none or one fault of each kind.
func each(rows [][]fault, g given, chosen []fault, f func(g given, chosen []fault)) {
	if len(rows) == 0 {
		f(g, chosen)
		return
	}
	each(rows[1:], g, chosen, f)
	for _, x := range rows[0] {
		each(rows[1:], x.to(g), append(slices.Clone(chosen), x), f)
	}
}

// firstOf is the error of the fault that comes first.
func firstOf(chosen []fault) api.Errno {
	if len(chosen) == 0 {
		return api.OK
	}
	return slices.MinFunc(chosen, func(a, b fault) int { return a.rank - b.rank }).err
}

// P6.1 to P6.3: which error is told, whatever holds at once. Beside it the tree is as it was.
func TestFirstError(t *testing.T) {
	kept := map[string]api.Tree{}
	for _, a := range allAsked() {
		told, wrong := 0, 0
		each(a.rows, a.of, a.own, func(g given, chosen []fault) {
			s := g.tree(t, kept)
			made, err := a.do(s, at(s, g.cwd), g)
			want := firstOf(chosen)
			told++
			if err != want {
				wrong++
				if wrong < 10 {
					t.Errorf("%s of %+v = %v, not %v", a.what, g, err, want)
				}
			}
			if want != api.OK {
				holdSame(t, a.what+" beside an error", made, s)
			}
		})
		if told < 150 {
			t.Errorf("%s: just %d choices", a.what, told)
		}
	}
}
