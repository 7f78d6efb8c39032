package make

import (
	"slices"
	"strings"

	"windlass/api"
	"windlass/nodes"
	"windlass/path"
	"windlass/tree"
	"windlass/walk"
)

// spot is where a new name is to stand: a directory, and the name.
type spot struct {
	dir   int
	name  string
	slash bool // its path ends with one, which asks for a directory
}

// newName is the spot of a path's new name.
func newName(t api.Tree, cwd int, p string) (spot, api.Errno) {
	dir, name, err := walk.Parent(t, cwd, p)
	switch {
	case err != api.OK:
		return spot{}, err
	case name == "." || name == ".." || tree.Kid(t, dir, name) >= 0:
		return spot{}, api.ErrThere
	case !path.Name(name):
		return spot{}, api.ErrInval
	case !walk.May(t, dir, nodes.Change):
		return spot{}, api.ErrAccess
	}
	return spot{dir, name, strings.HasSuffix(p, "/")}, api.OK
}

// refuses is the error of an inode of a kind that is to have the name.
func (s spot) refuses(t api.Tree, kind int) api.Errno {
	if s.slash && kind != api.InDir {
		return api.ErrNotDir
	}
	if len(t.Nodes[s.dir].Kids) >= nodes.MaxKids {
		return api.ErrSpace
	}
	return api.OK
}

// give gives the name to an inode of a tree that is one's own.
func (s spot) give(made api.Tree, ino int) {
	dir := &made.Nodes[s.dir]
	dir.Kids = nodes.With(dir.Kids, s.name, ino)
	made.Nodes[ino].Links++
}

// add makes an inode and its name at a path: what is told of the directory that it is to be in.
func add(t api.Tree, cwd int, p string, inode func(up int) api.Inode) (api.Tree, int, api.Errno) {
	made := nodes.Copy(t)
	at, err := newName(t, cwd, p)
	if err != api.OK {
		return made, 0, err
	}
	n := inode(at.dir)
	if err := at.refuses(t, n.Kind); err != api.OK {
		return made, 0, err
	}
	ino := slices.IndexFunc(t.Nodes, isFree)
	if ino < 0 || !nodes.HasRoom(t, len(n.Data)) {
		return made, 0, api.ErrSpace
	}
	made.Nodes[ino] = n
	at.give(made, ino)
	return made, ino, api.OK
}

// isFree tells whether an inode is free.
func isFree(n api.Inode) bool { return n.Kind == api.InFree }
