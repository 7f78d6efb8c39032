package tree

import (
	"iter"
	"slices"

	"windlass/api"
	"windlass/path"
)

// isDir tells whether there is such an inode, and it is a directory.
func isDir(t api.Tree, ino int) bool {
	return 0 <= ino && ino < len(t.Nodes) && t.Nodes[ino].Kind == api.InDir
}

// nameIn is the name that an inode has in a directory, if it has one.
func nameIn(t api.Tree, dir, ino int) (string, bool) {
	if !isDir(t, dir) {
		return "", false
	}
	kids := t.Nodes[dir].Kids
	i := slices.IndexFunc(kids, func(e api.Entry) bool { return e.Ino == ino })
	if i < 0 {
		return "", false
	}
	return kids[i].Name, true
}

// paths hands out the paths of what is in a directory at a place, behind each directory's the paths of what is in that one; of anything else none.
func paths(t api.Tree, dir int, place string) iter.Seq[string] {
	return func(yield func(string) bool) {
		if !isDir(t, dir) {
			return
		}
		for _, kid := range t.Nodes[dir].Kids {
			p := path.Join(place, kid.Name)
			if !yield(p) {
				return
			}
			for deeper := range paths(t, kid.Ino, p) {
				if !yield(deeper) {
					return
				}
			}
		}
	}
}

// sameInode tells whether two inodes have the same in all their fields.
func sameInode(a, b api.Inode) bool {
	return a.Kind == b.Kind && a.Mode == b.Mode && a.Links == b.Links && a.Data == b.Data && a.Up == b.Up && slices.Equal(a.Kids, b.Kids)
}
