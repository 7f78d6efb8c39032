package blob_test

import (
	"slices"
	"strings"
	"testing"

	"windlass/api"
	"windlass/blob"
)

// given is what a call is given: how many bytes the tree has left, an inode, numbers and a text.
type given struct {
	left        int
	ino, off, n int
	text        string
}

// fault is something that may be wrong with a call: what is told of it, how early (the least rank comes first), and how what the call is given comes to have it.
type fault struct {
	rank int
	err  api.Errno
	to   func(g given) given
}

func ino(err api.Errno, ino int) fault {
	return fault{1, err, func(g given) given { g.ino = ino; return g }}
}

// off makes off another one by so many: a fault may be one of another, too.
func off(rank int, err api.Errno, by int) fault {
	return fault{rank, err, func(g given) given { g.off += by; return g }}
}

func n(rank int, err api.Errno, by int) fault {
	return fault{rank, err, func(g given) given { g.n += by; return g }}
}

func text(rank int, err api.Errno, text string) fault {
	return fault{rank, err, func(g given) given { g.text = text; return g }}
}

func full(rank int) fault {
	return fault{rank, api.ErrSpace, func(g given) given { g.left = 0; return g }}
}

// noFile is what can be wrong with an inode.
func noFile() []fault {
	return []fault{
		ino(api.ErrNone, -1), ino(api.ErrNone, pastIno), ino(api.ErrNone, freeIno),
		ino(api.ErrIsDir, dirIno), ino(api.ErrIsDir, rootIno), ino(api.ErrInval, linkIno),
	}
}

// asked is a call, what it is given if nothing is wrong, and all that may be: of each row none or one.
type asked struct {
	what string
	of   given
	rows [][]fault
	do   func(s api.Tree, g given) (api.Tree, api.Errno)
}

func allAsked() []asked {
	long := strings.Repeat("long", 1<<14) + "!"
	write := func(s api.Tree, g given) (api.Tree, api.Errno) { return blob.Write(s, g.ino, g.off, g.text) }
	cut := func(s api.Tree, g given) (api.Tree, api.Errno) { return blob.Cut(s, g.ino, g.n) }
	read := func(s api.Tree, g given) (api.Tree, api.Errno) {
		text, err := blob.Read(s, g.ino, g.off, g.n)
		if err != api.OK && text != "" {
			return api.Tree{}, err
		}
		return s, err
	}
	return []asked{
		{"Read", given{9, fileIno, 0, 3, ""}, [][]fault{
			noFile(), {off(2, api.ErrInval, -1), off(2, api.ErrInval, -70000)}, {n(2, api.ErrInval, -4), n(2, api.ErrInval, -70000)},
		}, read},
		// Of an empty text OK is told ahead of all that is asked of its room.
		{"Write", given{9, fileIno, 0, 0, "longer"}, [][]fault{
			noFile(), {off(2, api.ErrInval, -70000)}, {text(3, api.OK, ""), text(4, api.ErrBig, long)}, {full(5)},
		}, write},
		{"Write past the end", given{99, fileIno, 6, 0, "a"}, [][]fault{
			noFile(), {text(3, api.OK, "")}, {off(4, api.ErrBig, 65530), off(4, api.ErrBig, 1<<40)}, {full(5)},
		}, write},
		{"Cut", given{9, fileIno, 0, 6, ""}, [][]fault{
			noFile(), {n(2, api.ErrInval, -7), n(2, api.ErrInval, -70000), n(3, api.ErrBig, 65531), n(3, api.ErrBig, 1<<40)}, {full(4)},
		}, cut},
	}
}

// each hands out all choices of none or one fault of each kind.
func each(rows [][]fault, g given, chosen []fault, f func(g given, chosen []fault)) {
	if len(rows) == 0 {
		f(g, chosen)
		return
	}
	each(rows[1:], g, chosen, f)
	for _, x := range rows[0] {
		each(rows[1:], x.to(g), append(slices.Clone(chosen), x), f)
	}
}

// firstOf is the error of the fault that comes first.
func firstOf(chosen []fault) api.Errno {
	if len(chosen) == 0 {
		return api.OK
	}
	return slices.MinFunc(chosen, func(a, b fault) int { return a.rank - b.rank }).err
}

// P7.1 to P7.3: which error is told, whatever holds at once. Beside it the tree is as it was.
func TestFirstError(t *testing.T) {
	for _, a := range allAsked() {
		told := 0
		each(a.rows, a.of, nil, func(g given, chosen []fault) {
			s := room(sample(), g.left)
			made, err := a.do(s, g)
			told++
			if want := firstOf(chosen); err != want {
				t.Errorf("%s of %.100v = %v, not %v", a.what, g, err, want)
			}
			if err != api.OK {
				holdSame(t, a.what+" beside an error", made, s)
			}
		})
		if told < 50 {
			t.Errorf("%s: just %d choices", a.what, told)
		}
	}
}
