package drop

import (
	"iter"

	"windlass/api"
)

// root is the root's inode.
const root = 0

// ask is a kind of error: what is told, if it holds.
type ask struct {
	err   api.Errno
	holds func() bool
}

// first is the first error of a row that holds.
func first(row []ask) api.Errno {
	for _, a := range row {
		if a.holds() {
			return a.err
		}
	}
	return api.OK
}

// isDir tells whether there is such an inode, and it is a directory.
func isDir(t api.Tree, ino int) bool {
	return 0 <= ino && ino < len(t.Nodes) && t.Nodes[ino].Kind == api.InDir
}

// hasKids tells whether an inode that is there has names in it.
func hasKids(t api.Tree, ino int) bool { return len(t.Nodes[ino].Kids) > 0 }

// liesIn tells whether a directory is another one, or lies in it.
func liesIn(t api.Tree, dir, in int) bool {
	for up := range ups(t, dir) {
		if up == in {
			return true
		}
	}
	return false
}

// ups hands out a directory, and those that it lies in, going Up, as far as the root.
func ups(t api.Tree, dir int) iter.Seq[int] {
	return func(yield func(int) bool) {
		at := dir
		// An unfit tree's Ups may lead in a ring, or to what is no directory.
		for range t.Nodes {
			if !isDir(t, at) || !yield(at) || at == root {
				return
			}
			at = t.Nodes[at].Up
		}
	}
}
