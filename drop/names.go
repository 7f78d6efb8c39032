package drop

import (
	"strings"

	"windlass/api"
	"windlass/nodes"
	"windlass/tree"
	"windlass/walk"
)

// none is the inode of a name that a directory doesn't have.
const none = -1

// spot is where a path's last name stands, or could: a directory, the name, and what that has of it.
type spot struct {
	dir   int
	name  string
	ino   int
	slash bool // its path ends with one, which asks for a directory
}

// spotAt is the spot of a path's last name.
func spotAt(t api.Tree, cwd int, p string) (spot, api.Errno) {
	dir, name, err := walk.Parent(t, cwd, p)
	if err != api.OK {
		return spot{}, err
	}
	ino := tree.Kid(t, dir, name)
	// An unfit tree's names may lead to what is not there.
	if ino >= len(t.Nodes) || ino < 0 {
		ino = none
	}
	return spot{dir, name, ino, strings.HasSuffix(p, "/")}, api.OK
}

// nameAt is the spot of a name that is there and may go.
func nameAt(t api.Tree, cwd int, p string) (spot, api.Errno) {
	at, err := spotAt(t, cwd, p)
	if err != api.OK {
		return spot{}, err
	}
	return at, first([]ask{
		{api.ErrInval, func() bool { return at.name == "." || at.name == ".." }},
		{api.ErrNone, func() bool { return at.ino == none }},
		{api.ErrAccess, func() bool { return !walk.May(t, at.dir, nodes.Change) }},
	})
}

// take takes the name away in a tree that is one's own; an inode without any is free then.
func (s spot) take(made api.Tree) {
	dir, n := &made.Nodes[s.dir], &made.Nodes[s.ino]
	dir.Kids = nodes.Without(dir.Kids, s.name)
	n.Links--
	if n.Links == 0 {
		*n = api.Inode{}
	}
}

// give gives the name to an inode of a tree that is one's own.
func (s spot) give(made api.Tree, ino int) {
	dir, n := &made.Nodes[s.dir], &made.Nodes[ino]
	dir.Kids = nodes.With(dir.Kids, s.name, ino)
	n.Links++
	if n.Kind == api.InDir {
		n.Up = s.dir
	}
}
